/- Contracts of the model's counts of threes: l1Many, StickMany, StickFree. -/
import Derived.Test.YtiadnbdefcimiaaCnt
import Derived.Test.YtiadnbdefcimiaaWid
import Derived.Test.YtiadnbdefcimiaaMany
namespace Go.Proofs.Ytiadnbdefcimiaa
open Go.RowKit

theorem S_le {f : Nat → Nat} {b : Nat} : ∀ n, (∀ i, i < n → f i ≤ b) → S n f ≤ n * b
  | 0, _ => by simp [S]
  | n + 1, h => by rw [S, Nat.succ_mul]; have := S_le n (fun i hi => h i (by omega)); have := h n (by omega); omega
theorem one_le (zs : List Int) (i j k : Nat) : one zs i j k ≤ 1 := by unfold one; split <;> omega
theorem m3_le (zs : List Int) (i j c : Nat) : m3 zs i j c ≤ c := by have := S_le (f := fun k => one zs k j i) c (fun k _ => one_le zs k j i); unfold m3; omega
theorem m2_le (zs : List Int) (i c : Nat) (h : c ≤ 9) : m2 zs i c ≤ 81 := by
  have := S_le (f := fun j => m3 zs i j j) (b := 9) c (fun j hj => Nat.le_trans (m3_le zs i j j) (by omega)); unfold m2; omega
theorem m1_le (zs : List Int) (c : Nat) (h : c ≤ 9) : m1 zs c ≤ 729 := by
  have := S_le (f := fun i => m2 zs i i) (b := 81) c (fun i hi => m2_le zs i i (by omega)); unfold m1; omega
theorem m3_yes {zs : List Int} {i j c : Nat} (h : triB (zs.getD c 0) (zs.getD j 0) (zs.getD i 0) = true) : m3 zs i j (c + 1) = m3 zs i j c + 1 := by unfold m3; rw [S]; unfold one; rw [if_pos h]
theorem m3_no {zs : List Int} {i j c : Nat} (h : triB (zs.getD c 0) (zs.getD j 0) (zs.getD i 0) = false) : m3 zs i j (c + 1) = m3 zs i j c := by unfold m3; rw [S]; unfold one; rw [if_neg (by rw [h]; exact Bool.false_ne_true)]; rfl

end Go.Proofs.Ytiadnbdefcimiaa
