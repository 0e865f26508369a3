/- PolyParts of the program and of the model. -/
import Derived.Test.YtaffdppmpfgghaaSort
import Derived.Test.YtaffdppmpfgghaaShares
namespace Go.Proofs.Ytaffdppmpfgghaa
open Go.RowKit

noncomputable def prtB (xs : List Int) : Bool := bundleB xs && decide (0 < mostL xs)
noncomputable def prtM (xs : List Int) : List Int := if prtB xs then xs.take (mostL xs) else []
theorem prtB_yes {xs : List Int} (h : bundleB xs = true) (h0 : mostL xs ≠ 0) : prtB xs = true := by unfold prtB; rw [h, decide_eq_true (by omega)]; rfl
theorem prtB_none {xs : List Int} (h0 : mostL xs = 0) : prtB xs = false := by unfold prtB; rw [h0]; simp
theorem prtB_no {xs : List Int} (h : bundleB xs = false) : prtB xs = false := by unfold prtB; rw [h]; rfl
theorem prtM_yes {xs : List Int} (h : prtB xs = true) : prtM xs = xs.take (mostL xs) := by unfold prtM; rw [if_pos h]
theorem prtM_no {xs : List Int} (h : prtB xs = false) : prtM xs = [] := by unfold prtM; rw [h]; rfl
theorem most_le (xs : List Int) : mostL xs ≤ xs.length := by
  unfold mostL
  rcases mostTo_is (xs := xs) xs.length with h | h <;> omega

end Go.Proofs.Ytaffdppmpfgghaa
