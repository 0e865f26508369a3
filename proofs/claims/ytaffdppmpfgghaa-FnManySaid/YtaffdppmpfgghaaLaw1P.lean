/- Plain facts for the laws of chapter 1. Nothing of the program. -/
import Derived.Test.YtaffdppmpfgghaaWidP
import Derived.Test.YtaffdppmpfgghaaLon
import Derived.Test.YtaffdppmpfgghaaDrop
namespace Go.Proofs.Ytaffdppmpfgghaa
theorem long_is (n : Int) (h : inB n 1 54 = true) : ∃ k : Nat, 2 ≤ k ∧ k ≤ 9 ∧ longM n = fibs.take k ∧ fib (k - 1) ≤ n ∧ n < fib k := by
  have hb := inB_true h
  have key : ∀ k : Nat, 2 ≤ k → k ≤ 9 → fib (k - 1) ≤ n → n < fib k → ∃ k : Nat, 2 ≤ k ∧ k ≤ 9 ∧ longM n = fibs.take k ∧ fib (k - 1) ≤ n ∧ n < fib k :=
    fun k h2 h9 hlo hhi => ⟨k, h2, h9, long_done n k h2 h9 h (.inr hlo) hhi, hlo, hhi⟩
  by_cases h2 : n < 2
  · exact key 2 (by omega) (by omega) (by show (1 : Int) ≤ n; omega) (by show n < (2 : Int); omega)
  by_cases h3 : n < 3
  · exact key 3 (by omega) (by omega) (by show (2 : Int) ≤ n; omega) (by show n < (3 : Int); omega)
  by_cases h4 : n < 5
  · exact key 4 (by omega) (by omega) (by show (3 : Int) ≤ n; omega) (by show n < (5 : Int); omega)
  by_cases h5 : n < 8
  · exact key 5 (by omega) (by omega) (by show (5 : Int) ≤ n; omega) (by show n < (8 : Int); omega)
  by_cases h6 : n < 13
  · exact key 6 (by omega) (by omega) (by show (8 : Int) ≤ n; omega) (by show n < (13 : Int); omega)
  by_cases h7 : n < 21
  · exact key 7 (by omega) (by omega) (by show (13 : Int) ≤ n; omega) (by show n < (21 : Int); omega)
  by_cases h8 : n < 34
  · exact key 8 (by omega) (by omega) (by show (21 : Int) ≤ n; omega) (by show n < (34 : Int); omega)
  · exact key 9 (by omega) (by omega) (by show (34 : Int) ≤ n; omega) (by show n < (55 : Int); omega)
theorem fibs_bundle (k : Nat) (h2 : 2 ≤ k) (h9 : k ≤ 9) : Bundle (fibs.take k) := by
  have hl : (fibs.take k).length = k := by rw [List.length_take]; show min k 10 = k; omega
  have h1 : ∀ j, j < 9 → 1 ≤ fib j ∧ fib j ≤ 60 := by decide
  have h3 : ∀ j, j < 9 → fib j ≤ fib (j + 1) := by decide
  refine ⟨by omega, by omega, fun j hj => ?_, fun j hj => ?_⟩
  · rw [hl] at hj; rw [fibs_get k j hj]; exact h1 j (by omega)
  · rw [hl] at hj; rw [fibs_get k j (by omega), fibs_get k (j + 1) hj]; exact h3 j (by omega)
theorem fibs_free (k : Nat) (h2 : 2 ≤ k) (h9 : k ≤ 9) : cntT (fibs.take k) = 0 := by
  match k, h2, h9 with
  | 2, _, _ | 3, _, _ | 4, _, _ | 5, _, _ | 6, _, _ | 7, _, _ | 8, _, _ | 9, _, _ => decide +kernel
theorem fibs_len (k : Nat) (h9 : k ≤ 9) : (fibs.take k).length = k := by
  rw [List.length_take]; show min k 10 = k; omega
theorem perm_drop {xs : List Int} {p : Nat} (h : p < xs.length) : (dropM xs p ++ [xs.getD p 0]).Perm xs := by
  have e : xs = xs.take p ++ xs.getD p 0 :: xs.drop (p + 1) := by
    rw [← drop_cons h, List.take_append_drop]
  unfold dropM
  refine (List.perm_append_comm).trans ?_
  show (xs.getD p 0 :: (xs.take p ++ xs.drop (p + 1))).Perm xs
  refine (List.perm_middle.symm).trans ?_
  rw [← e]
theorem drop_sub (xs : List Int) : cntT (dropM xs 0) ≤ cntT xs := by
  unfold dropM
  rw [List.take_zero, List.nil_append]
  exact cnt_sub (List.drop_sublist 1 xs)
end Go.Proofs.Ytaffdppmpfgghaa
