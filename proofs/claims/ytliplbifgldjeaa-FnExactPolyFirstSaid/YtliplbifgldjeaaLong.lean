/- Contracts for StickLongFree. -/
import Derived.Test.YtliplbifgldjeaaApp
import Derived.Test.YtliplbifgldjeaaCalc1
import Derived.Deep.RegionLaw
namespace Go.Proofs.Ytliplbifgldjeaa
open Go.RowKit

def fibs : List Int := [1, 1, 2, 3, 5, 8, 13, 21, 34, 55]
def fib (k : Nat) : Int := fibs.getD k 0
def longM (n : Int) : List Int := if inB n 1 54 then fibs.filter (fun x => decide (x ≤ n)) else []
theorem fib_bd (k : Nat) : 0 ≤ fib k ∧ fib k ≤ 55 := by
  unfold fib fibs
  match k with
  | 0 => decide | 1 => decide | 2 => decide | 3 => decide | 4 => decide | 5 => decide | 6 => decide | 7 => decide | 8 => decide | 9 => decide
  | k + 10 => simp
theorem fib_add (m : Nat) (h : m ≤ 7) : fib m + fib (m + 1) = fib (m + 2) := by
  unfold fib fibs
  match m, h with
  | 0, _ => rfl | 1, _ => rfl | 2, _ => rfl | 3, _ => rfl | 4, _ => rfl | 5, _ => rfl | 6, _ => rfl | 7, _ => rfl
theorem fib_nine : fib 9 = 55 := rfl
theorem fibs_take (k : Nat) (h : k < 10) : fibs.take k ++ [fib k] = fibs.take (k + 1) := by
  unfold fib fibs
  match k, h with
  | 0, _ => rfl | 1, _ => rfl | 2, _ => rfl | 3, _ => rfl | 4, _ => rfl | 5, _ => rfl | 6, _ => rfl | 7, _ => rfl | 8, _ => rfl | 9, _ => rfl
theorem fibs_get (k j : Nat) (h : j < k) : (fibs.take k).getD j 0 = fib j := by
  unfold fib
  simp [List.getD_eq_getElem?_getD, h]
theorem long_done (n : Int) (k : Nat) (h2 : 2 ≤ k) (h9 : k ≤ 9) (hn : inB n 1 54 = true) (hlo : k = 2 ∨ fib (k - 1) ≤ n) (hhi : n < fib k) : longM n = fibs.take k := by
  have hb := inB_true hn
  unfold longM
  rw [if_pos hn]
  unfold fib fibs at *
  match k, h2, h9 with
  | 2, _, _ | 3, _, _ | 4, _, _ | 5, _, _ | 6, _, _ | 7, _, _ | 8, _, _ | 9, _, _ =>
    simp at hlo hhi
    simp [List.filter_cons]
    repeat (first | rw [if_pos (by omega)] | rw [if_neg (by omega)])
    try simp


end Go.Proofs.Ytliplbifgldjeaa
