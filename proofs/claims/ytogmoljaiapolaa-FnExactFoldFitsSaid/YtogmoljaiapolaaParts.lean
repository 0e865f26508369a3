/- PolyParts of the program and of the model. -/
import Derived.Test.YtogmoljaiapolaaSort
import Derived.Test.YtogmoljaiapolaaShares
namespace Go.Proofs.Ytogmoljaiapolaa
open Go.RowKit

theorem cloneI_any (A : Option Addr) (n c : Nat) (xs : List Int) (w : World) (h : Rd w A n xs) (hn : n ≤ 1048576) (hA : A = none → n = 0 ∧ c = 0) :
    Calls Try.prog 59 #[.slice A n c] w fun e w' => ∃ A' c', e = .returned (.slice A' n c') ∧ Own w' w.heap.size A' n c' xs ∧ Below w.heap.size w w' := by
  rcases A with _ | ad
  · obtain ⟨rfl, rfl⟩ := hA rfl
    obtain rfl : xs = [] := List.eq_nil_of_length_eq_zero h.1
    have hnil := @Lib.run_eql_slice_nil Try.prog
    go_enter Try.func59, Try.ntmps59
    go_wp2
    go_ret
    exact ⟨none, 0, rfl, ⟨rfl, .inl ⟨rfl, rfl⟩⟩, Below.refl _ _⟩
  · have hl := Own.lit w (Nat.le_refl _) [] (by simp)
    have hr := h.same (below_alloc (Below.refl _ _) (.cells #[] 3))
    have hnn := fun (W : World) => Lib.run_eql_slice_nil (P := Try.prog) W 23 3 (some ad) n c 0 0 Try.underlying23
    go_enter Try.func59, Try.ntmps59
    go_wp2_with (at_builtin; refine wpList_appT 23 Try.underlying23 rfl (.tmp 5) (.tmp 6) rfl rfl hl rfl hr (by simp; omega) (by simp) ?_; intro A' c' W' ho' hg')
    go_ret
    have hb := app_mark (below_alloc (Below.refl _ _) _) hl (Nat.le_refl _) hg'
    simp only [Nat.zero_add, List.nil_append] at ho'
    exact ⟨A', c', ret_sl (by simp), ho', hb⟩

noncomputable def prtB (xs : List Int) : Bool := bundleB xs && decide (0 < mostL xs)
noncomputable def prtM (xs : List Int) : List Int := if prtB xs then xs.take (mostL xs) else []
theorem prtB_yes {xs : List Int} (h : bundleB xs = true) (h0 : mostL xs ≠ 0) : prtB xs = true := by unfold prtB; rw [h, decide_eq_true (by omega)]; rfl
theorem prtB_none {xs : List Int} (h0 : mostL xs = 0) : prtB xs = false := by unfold prtB; rw [h0]; simp
theorem prtB_no {xs : List Int} (h : bundleB xs = false) : prtB xs = false := by unfold prtB; rw [h]; rfl
theorem prtM_yes {xs : List Int} (h : prtB xs = true) : prtM xs = xs.take (mostL xs) := by unfold prtM; rw [if_pos h]
theorem prtM_no {xs : List Int} (h : prtB xs = false) : prtM xs = [] := by unfold prtM; rw [h]; rfl
theorem most_le (xs : List Int) : mostL xs ≤ xs.length := by
  unfold mostL
  rcases mostTo_is (xs := xs) xs.length with h | h <;> omega

end Go.Proofs.Ytogmoljaiapolaa
