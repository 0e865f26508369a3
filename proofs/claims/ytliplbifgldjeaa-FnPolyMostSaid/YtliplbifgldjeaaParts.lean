/- PolyParts of the program and of the model. -/
import Derived.Test.YtliplbifgldjeaaSort
import Derived.Test.YtliplbifgldjeaaShares
namespace Go.Proofs.Ytliplbifgldjeaa
open Go.RowKit

theorem cloneI_any (A : Option Addr) (n c : Nat) (xs : List Int) (w : World) (h : Rd w A n xs) (hn : n ≤ 1048576) (hA : A = none → n = 0 ∧ c = 0) :
    Calls Try.prog 84 #[.slice A n c] w fun e w' => ∃ A' c', e = .returned (.slice A' n c') ∧ Own w' w.heap.size A' n c' xs ∧ Below w.heap.size w w' := by
  rcases A with _ | ad
  · obtain ⟨rfl, rfl⟩ := hA rfl
    obtain rfl : xs = [] := List.eq_nil_of_length_eq_zero h.1
    have hnil := @Lib.run_eql_slice_nil Try.prog
    go_enter Try.func84, Try.ntmps84
    go_wp2
    go_ret
    exact ⟨none, 0, rfl, ⟨rfl, .inl ⟨rfl, rfl⟩⟩, Below.refl _ _⟩
  · have hl := Own.lit w (Nat.le_refl _) [] (by simp)
    have hr := h.same (below_alloc (Below.refl _ _) (.cells #[] 3))
    have hnn := fun (W : World) => Lib.run_eql_slice_nil (P := Try.prog) W 23 3 (some ad) n c 0 0 Try.underlying23
    go_enter Try.func84, Try.ntmps84
    go_wp2_with (at_builtin; refine wpList_appT 23 Try.underlying23 rfl (.tmp 5) (.tmp 6) rfl rfl hl rfl hr (by simp; omega) (by simp) ?_; intro A' c' W' ho' hg')
    go_ret
    have hb := app_mark (below_alloc (Below.refl _ _) _) hl (Nat.le_refl _) hg'
    simp only [Nat.zero_add, List.nil_append] at ho'
    exact ⟨A', c', ret_sl (by simp), ho', hb⟩

noncomputable def prtB (xs : List Int) : Bool := bundleB xs && decide (0 < mostL xs)
noncomputable def prtM (xs : List Int) : List Int := if prtB xs then xs.take (mostL xs) else []
theorem prtB_yes {xs : List Int} (h : bundleB xs = true) (h0 : mostL xs ≠ 0) : prtB xs = true := by unfold prtB; rw [h, decide_eq_true (by omega)]; rfl
theorem prtB_none {xs : List Int} (h0 : mostL xs = 0) : prtB xs = false := by unfold prtB; rw [h0]; simp
theorem prtB_no {xs : List Int} (h : bundleB xs = false) : prtB xs = false := by unfold prtB; rw [h]; rfl
theorem prtM_yes {xs : List Int} (h : prtB xs = true) : prtM xs = xs.take (mostL xs) := by unfold prtM; rw [if_pos h]
theorem prtM_no {xs : List Int} (h : prtB xs = false) : prtM xs = [] := by unfold prtM; rw [h]; rfl
theorem most_le (xs : List Int) : mostL xs ≤ xs.length := by
  unfold mostL
  rcases mostTo_is (xs := xs) xs.length with h | h <;> omega

set_option maxHeartbeats 1000000 in
theorem implPolyParts_any (A : Option Addr) (n c : Nat) (xs : List Int) (w : World) (h : Rd w A n xs) (hn : n ≤ 1048576) (hc : n ≤ c) :
    Calls Try.prog 49 #[.slice A n c] w fun e w' => ∃ A' n' c', e = .returned (.tuple #[.slice A' n' c', .bool (prtB xs)]) ∧ Own w' w.heap.size A' n' c' (prtM xs) ∧ n' ≤ 1048576 ∧ Below w.heap.size w w' := by
  have hq := implPolyMost_any A n c xs w h hn hc
  have hle := most_le xs
  rw [h.1] at hle
  by_cases hb : bundleB xs = true
  · have hms := mstM_yes hb
    rw [hb, hms] at hq
    by_cases h0 : mostL xs = 0
    · have HP := Lib.hid (prtB_none h0)
      rw [h0] at hq
      clear hb hms h0 h hle
      go_enter Try.func49, Try.ntmps49
      go_wp2_with fail
      refine hq.mono ?_
      rintro e w1 ⟨rfl, b1⟩
      have hl := Own.lit w1 (B := w.heap.size) b1.size [] (by simp)
      go_wp2_with fail
      refine bodyPost_ret (results_tmp2 rfl _ _ _) rfl ?_
      exact ⟨_, 0, 0, ret_lb HP.out, by rw [prtM_no HP.out]; exact hl, by omega, below_alloc b1 _⟩
    · have HP := Lib.hid (prtB_yes hb h0)
      obtain ⟨b, off, rfl, _, _⟩ := h.2 (by omega)
      have hm := Lib.hid (prtM_yes HP.out)
      generalize mostL xs = m at *
      have ht := h.take hle
      have hC : ∀ c' w1, Below w.heap.size w w1 → Calls Try.prog 84 #[.slice (some ⟨b, off, none⟩) m c'] w1 fun e w' => ∃ A' c', e = .returned (.slice A' m c') ∧ Own w' w1.heap.size A' m c' (xs.take m) ∧ Below w1.heap.size w1 w' := fun c' w1 b1 => cloneI_any _ m c' _ w1 (ht.same b1) (by omega) (fun e => by cases e)
      have hm1 : 1 ≤ m := by omega
      have d1 : ((m : Int) == 0) = false := by simp; omega
      clear hb hms h0 h ht
      go_enter Try.func49, Try.ntmps49
      go_wp2_with fail
      refine hq.mono ?_
      rintro e w1 ⟨rfl, b1⟩
      go_wp2_with fail
      refine (hC _ _ b1).mono ?_
      rintro e w2 ⟨A2, c2, rfl, o2, b2⟩
      go_wp2_with fail
      refine bodyPost_ret (results_tmp2 rfl _ _ _) rfl ?_
      exact ⟨A2, m, c2, ret_lb HP.out, by rw [hm.out]; exact o2.lower b1.size, by omega, below_then b1 b2⟩
  · rw [Bool.not_eq_true] at hb
    have HP := Lib.hid (prtB_no hb)
    rw [hb] at hq
    clear hb h hle
    go_enter Try.func49, Try.ntmps49
    go_wp2_with fail
    refine hq.mono ?_
    rintro e w1 ⟨rfl, b1⟩
    have hl := Own.lit w1 (B := w.heap.size) b1.size [] (by simp)
    go_wp2_with fail
    refine bodyPost_ret (results_tmp2 rfl _ _ _) rfl ?_
    exact ⟨_, 0, 0, ret_lb HP.out, by rw [prtM_no HP.out]; exact hl, by omega, below_alloc b1 _⟩

set_option maxHeartbeats 1000000 in
theorem specPolyParts_any (A : Option Addr) (n c : Nat) (xs : List Int) (w : World) (h : Rd w A n xs) (hn : n ≤ 1048576) (hc : n ≤ c) :
    Calls Try.prog 50 #[.slice A n c] w fun e w' => ∃ A' n' c', e = .returned (.tuple #[.slice A' n' c', .bool (prtB xs)]) ∧ Rd w' A' n' (prtM xs) ∧ n' ≤ 1048576 ∧ Below w.heap.size w w' := by
  have hle := most_le xs
  rw [h.1] at hle
  by_cases hb : bundleB xs = true
  · have HB := Lib.hid hb
    have hM := bundle_small (bundleB_true hb)
    have hq := fun w1 (b1 : Below w.heap.size w w1) => l3Most_any A n c xs w1 (h.same b1) hn hc hM
    by_cases h0 : mostL xs = 0
    · have HP := Lib.hid (prtB_none h0)
      rw [h0] at hq
      clear hb h0 hle
      go_enter Try.func50, Try.ntmps50
      go_wp2_with fail
      refine (l1Bundle_any _ _ _ xs _ h hn).mono ?_
      rintro e w1 ⟨rfl, b1⟩
      rw [HB.out]
      go_wp2_with fail
      refine (hq _ b1).mono ?_
      rintro e w2 ⟨rfl, b2⟩
      go_wp2_with fail
      refine bodyPost_ret (results_tmp2 rfl _ _ _) rfl ?_
      exact ⟨_, 0, 0, ret_lb HP.out, by rw [prtM_no HP.out]; exact Rd.nil_ _ _, by omega, below_alloc (below_then b1 b2) _⟩
    · have HP := Lib.hid (prtB_yes hb h0)
      obtain ⟨b, off, rfl, _, _⟩ := h.2 (by omega)
      have hm := Lib.hid (prtM_yes HP.out)
      generalize mostL xs = m at *
      have ht := Lib.hid (h.take hle)
      have hm1 : 1 ≤ m := by omega
      have d1 : ((m : Int) == 0) = false := by simp; omega
      have hmm : 0 + m ≤ 16777216 := by omega
      clear hb h0
      go_enter Try.func50, Try.ntmps50
      go_wp2_with fail
      refine (l1Bundle_any _ _ _ xs _ h hn).mono ?_
      rintro e w1 ⟨rfl, b1⟩
      rw [HB.out]
      go_wp2_with fail
      refine (hq _ b1).mono ?_
      rintro e w2 ⟨rfl, b2⟩
      have b3 := below_then b1 b2
      have hl := Own.lit w2 (B := w2.heap.size) (Nat.le_refl _) [] (by simp)
      have b4 := below_alloc b3 (.cells #[] 3)
      go_wp2_with fail
      refine (hq _ b4).mono ?_
      rintro e w5 ⟨rfl, b5⟩
      have hl5 := hl.same b5
      have ht5 := (ht.out.same b4).same b5
      have b6 := below_then b4 b5
      have hz : w2.heap.size ≤ w5.heap.size := Nat.le_trans (by simp) b5.size
      clear hl hq h
      go_wp2_with (at_builtin; refine wpList_app rfl _ _ rfl rfl hl5 rfl ht5 hmm hz ?_; intro A7 c7 W7 o7 g7)
      refine bodyPost_ret (results_tmp2 rfl _ _ _) rfl ?_
      have hrd := o7.rd
      rw [List.nil_append, Nat.zero_add] at hrd
      exact ⟨A7, _, c7, ret_lb HP.out, by rw [hm.out]; exact hrd, by omega, b6.grown g7 b6.size (fun k e => by have := (hl5.row k e).1; have := b3.size; omega)⟩
  · rw [Bool.not_eq_true] at hb
    have HB := Lib.hid hb
    have HP := Lib.hid (prtB_no hb)
    clear hb
    go_enter Try.func50, Try.ntmps50
    go_wp2_with fail
    refine (l1Bundle_any _ _ _ xs _ h hn).mono ?_
    rintro e w1 ⟨rfl, b1⟩
    rw [HB.out]
    go_wp2_with fail
    refine bodyPost_ret (results_tmp2 rfl _ _ _) rfl ?_
    exact ⟨_, 0, 0, ret_lb HP.out, by rw [prtM_no HP.out]; exact Rd.nil_ _ _, by omega, below_alloc b1 _⟩
end Go.Proofs.Ytliplbifgldjeaa
