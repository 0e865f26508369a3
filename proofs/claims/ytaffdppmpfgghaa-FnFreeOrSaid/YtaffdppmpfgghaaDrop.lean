/- Contracts for StickDrop. -/
import Derived.Test.YtaffdppmpfgghaaConc
import Derived.Deep.RegionLaw
namespace Go.Proofs.Ytaffdppmpfgghaa
open Go.RowKit

def dropM (xs : List Int) (p : Nat) : List Int := xs.take p ++ xs.drop (p + 1)
theorem dropM_len {xs : List Int} {p : Nat} (h : p < xs.length) : (dropM xs p).length = xs.length - 1 := by
  unfold dropM; simp; omega
theorem dropM_getD {xs : List Int} {p : Nat} (h : p < xs.length) (j : Nat) : (dropM xs p).getD j 0 = if j < p then xs.getD j 0 else xs.getD (j + 1) 0 := by
  unfold dropM
  simp only [List.getD_eq_getElem?_getD]
  by_cases h1 : j < p
  · rw [if_pos h1, List.getElem?_append_left (by simp; omega), List.getElem?_take, if_pos h1]
  · rw [if_neg h1, List.getElem?_append_right (by simp; omega), List.getElem?_drop]
    have hl : (xs.take p).length = p := by simp; omega
    rw [hl, show p + 1 + (j - p) = j + 1 by omega]
theorem bundle_drop {xs : List Int} (h : Bundle xs) {p : Nat} (hp : p < xs.length) : bundleB (dropM xs p) = !decide (xs.length = 1) := by
  by_cases h1 : xs.length = 1
  · rw [bundleB_not (fun hb => by have := hb.1; rw [dropM_len hp] at this; omega)]; simp [h1]
  · have hb : Bundle (dropM xs p) := by
      obtain ⟨a1, a2, a3, a4⟩ := h
      refine ⟨by rw [dropM_len hp]; omega, by rw [dropM_len hp]; omega, fun j hj => ?_, fun j hj => ?_⟩
      · rw [dropM_len hp] at hj
        rw [dropM_getD hp]
        split
        · exact a3 _ (by omega)
        · exact a3 _ (by omega)
      · rw [dropM_len hp] at hj
        rw [dropM_getD hp, dropM_getD hp]
        by_cases c1 : j + 1 < p
        · rw [if_pos (by omega), if_pos c1]; exact a4 _ (by omega)
        · by_cases c2 : j < p
          · rw [if_pos c2, if_neg c1]; exact Int.le_trans (a4 j (by omega)) (a4 (j + 1) (by omega))
          · rw [if_neg c2, if_neg (by omega)]; exact a4 _ (by omega)
    rw [bundleB_mk hb]; simp [h1]

/-- StickDrop's answer. -/
noncomputable def drpB (xs : List Int) (a : Int) : Bool := bundleB xs && (inB a 0 ((xs.length : Int) - 1) && !decide (xs.length = 1))
noncomputable def drpM (xs : List Int) (a : Int) : List Int := if drpB xs a then dropM xs a.toNat else []
theorem drpM_yes {xs : List Int} {a : Int} (h : drpB xs a = true) : drpM xs a = dropM xs a.toNat := by unfold drpM; rw [if_pos h]
theorem drpM_no {xs : List Int} {a : Int} (h : drpB xs a = false) : drpM xs a = [] := by unfold drpM; rw [h]; rfl
theorem drpB_no {xs : List Int} {a : Int} (h : bundleB xs = false) : drpB xs a = false := by unfold drpB; rw [h]; rfl
theorem drpB_out {xs : List Int} {a : Int} (h : inB a 0 ((xs.length : Int) - 1) = false) : drpB xs a = false := by unfold drpB; rw [h]; simp
theorem drpB_of {xs : List Int} {p : Nat} (h : bundleB xs = true) (hp : p < xs.length) : drpB xs p = bundleB (dropM xs p) := by
  unfold drpB; rw [h, bundle_drop (bundleB_true h) hp, inB_mk (by omega) (by omega)]; simp
theorem drpM_of {xs : List Int} {p : Nat} (h : bundleB xs = true) (hp : p < xs.length) : drpM xs p = doneM (dropM xs p) := by
  unfold drpM doneM; rw [drpB_of h hp]; rfl

/-- A row of two slices just made. -/
theorem two_rows (w : World) (v0 v1 : Value) (t : TypeId) : (w.alloc (.cells #[v0, v1] t)).cell? ⟨w.heap.size, 0, none⟩ = some v0 ∧ (w.alloc (.cells #[v0, v1] t)).cell? ⟨w.heap.size, 1, none⟩ = some v1 ∧ w.heap.size < (w.alloc (.cells #[v0, v1] t)).heap.size :=
  ⟨by simp, by simp, by simp⟩
theorem concat_new (A1 A2 : Option Addr) (n1 n2 c1 c2 : Nat) (xs ys : List Int) (w w0 : World) (hw : w0 = w.alloc (.cells #[.slice A1 n1 c1, .slice A2 n2 c2] 23) ∨ w0 = (w.alloc (.cells #[.slice A1 n1 c1, .slice A2 n2 c2] 23)).drew) (hx : Rd w A1 n1 xs) (hy : Rd w A2 n2 ys) (h1 : 1 ≤ n1 + n2) (h2 : n1 + n2 ≤ 1000) :
    Calls Try.prog 92 #[.slice (some ⟨w.heap.size, 0, none⟩) 2 2] w0 fun e w' => ∃ A' c', e = .returned (.slice A' (n1 + n2) c') ∧ Own w' w.heap.size A' (n1 + n2) c' (xs ++ ys) ∧ Below w.heap.size w w' := by
  obtain ⟨k0, k1, k2⟩ := two_rows w (.slice A1 n1 c1) (.slice A2 n2 c2) 23
  rcases hw with rfl | rfl
  · refine (concat_any A1 A2 n1 n2 c1 c2 w.heap.size xs ys _ k2 k0 k1 (hx.al _) (hy.al _) h1 h2).mono ?_
    rintro e w' ⟨A', c', he, ho, hb⟩
    exact ⟨A', c', he, ho.lower (by simp), below_then (below_alloc (Below.refl _ _) _) hb⟩
  · refine (concat_any A1 A2 n1 n2 c1 c2 w.heap.size xs ys ((w.alloc (.cells #[.slice A1 n1 c1, .slice A2 n2 c2] 23)).drew) k2 k0 k1 (hx.al _).dr (hy.al _).dr h1 h2).mono ?_
    rintro e w' ⟨A', c', he, ho, hb⟩
    exact ⟨A', c', he, ho.lower (by simp), below_then (below_alloc (Below.refl _ _) _).drew hb⟩

set_option maxHeartbeats 1000000 in
theorem implStickDrop_any (A : Option Addr) (n c : Nat) (xs : List Int) (a : Int) (w : World) (h : Rd w A n xs) (hn : n ≤ 1048576) (hc : n ≤ c) :
    Calls Try.prog 33 #[.slice A n c, .int .i64 a] w fun e w' => ∃ A' n' c', e = .returned (.tuple #[.slice A' n' c', .bool (drpB xs a)]) ∧ Own w' w.heap.size A' n' c' (drpM xs a) ∧ n' ≤ 1048576 ∧ Below w.heap.size w w' := by
  have HL := Lib.hid h.1
  by_cases hb : bundleB xs = true
  · have HB := Lib.hid hb
    have hn9 : n ≤ 9 := by have := (bundleB_true hb).2.1; rw [h.1] at this; exact this
    by_cases ha0 : 0 ≤ a
    · by_cases han : a < n
      · obtain ⟨p, rfl⟩ := Int.eq_ofNat_of_zero_le ha0
        by_cases hn1 : n = 1
        · have hp : drpB xs p = false := by unfold drpB; rw [HL.out, hn1]; simp
          have HP := Lib.hid hp
          have hd : ((n : Int) == 1) = true := by simp; omega
          clear hb hp hn1 ha0
          go_enter Try.func33, Try.ntmps33
          go_wp2_with fail
          refine (implStickIn_any _ _ _ xs _ h hn).mono ?_
          rintro e w1 ⟨rfl, b1⟩
          rw [HB.out]
          have hl := Own.lit w1 (B := w.heap.size) b1.size [] (by simp)
          go_wp2_with fail
          refine bodyPost_ret (results_tmp2 rfl _ _ _) rfl ?_
          exact ⟨_, 0, 0, ret_lb HP.out, by rw [drpM_no HP.out]; exact hl, by omega, below_alloc b1 _⟩
        · have hp : drpB xs p = true := by unfold drpB; rw [hb, HL.out, inB_mk (by omega) (by omega)]; simp [hn1]
          have HP := Lib.hid hp
          have hd : ((n : Int) == 1) = false := by simp; omega
          clear hb hp ha0
          obtain ⟨b, off, rfl, hbl, hcell⟩ := h.2 (by omega)
          clear hcell
          go_enter Try.func33, Try.ntmps33
          go_wp2_with fail
          refine (implStickIn_any _ _ _ xs _ h hn).mono ?_
          rintro e w1 ⟨rfl, b1⟩
          rw [HB.out]
          have h1 := h.same b1
          have hs1 := b1.size
          have e1 : (p : Int) + 1 ≤ (n : Int) := by omega
          have e2 : (p : Int) + 1 ≤ (c : Int) := by omega
          have e3 : (0 : Int) ≤ (p : Int) + 1 := by omega
          have e4 : ((p : Int) + 1).toNat = p + 1 := by omega
          have e5 : (p : Int) ≤ (c : Int) := by omega
          have k1 : IntKind.i64.wrap ((p : Int) + 1) = (p : Int) + 1 := wrap_is rfl (by omega) (by omega)
          have rT := Lib.hid (h1.take (k := p) (by omega))
          have HX := Lib.hid h1
          clear h h1
          by_cases hcp : c = p + 1
          · subst hcp
            obtain rfl : n = p + 1 := by omega
            have rD : Hid (Rd w1 (some ⟨b, off, none⟩) 0 (xs.drop (p + 1))) := by rw [List.drop_eq_nil_of_le (by rw [HL.out]; exact Nat.le_refl _)]; exact Rd.nil_ _ _
            have hd2 : ((p : Int) + 1 == 1) = false := by simp; omega
            go_wp2_with fail
            go_region_with (go_at_call 92; refine (concat_new (some ⟨b, off, none⟩) (some ⟨b, off, none⟩) p (0) (p + 1) (0) (xs.take p) (xs.drop (p + 1)) w1 _ (by first | exact .inl rfl | exact .inr rfl) rT.out rD.out (by omega) (by omega)).mono ?_; rintro e w2 ⟨A2, c2, rfl, o2, b2⟩)
            all_goals
              go_wp2
              refine bodyPost_ret (results_tmp2 rfl _ _ _) rfl ?_
              exact ⟨A2, _, c2, ret_lb HP.out, by rw [drpM_yes HP.out]; exact o2.lower b1.size, by omega, below_then b1 b2⟩
          · have e6 : ¬ (c = p + 1) := hcp
            have rD := Lib.hid (HX.out.drop (k := p + 1) (by omega))
            go_wp2_with fail
            go_region_with (go_at_call 92; refine (concat_new (some ⟨b, off, none⟩) (some ⟨b, off + (p + 1), none⟩) p (n - (p + 1)) (c) (c - (p + 1)) (xs.take p) (xs.drop (p + 1)) w1 _ (by first | exact .inl rfl | exact .inr rfl) rT.out rD.out (by omega) (by omega)).mono ?_; rintro e w2 ⟨A2, c2, rfl, o2, b2⟩)
            all_goals
              go_wp2
              refine bodyPost_ret (results_tmp2 rfl _ _ _) rfl ?_
              exact ⟨A2, _, c2, ret_lb HP.out, by rw [drpM_yes HP.out]; exact o2.lower b1.size, by omega, below_then b1 b2⟩
      · have hp : drpB xs a = false := drpB_out (by rw [HL.out]; unfold inB; simp; omega)
        have HP := Lib.hid hp
        clear hb hp
        go_enter Try.func33, Try.ntmps33
        go_wp2_with fail
        refine (implStickIn_any _ _ _ xs _ h hn).mono ?_
        rintro e w1 ⟨rfl, b1⟩
        rw [HB.out]
        have hl := Own.lit w1 (B := w.heap.size) b1.size [] (by simp)
        go_wp2_with fail
        refine bodyPost_ret (results_tmp2 rfl _ _ _) rfl ?_
        exact ⟨_, 0, 0, ret_lb HP.out, by rw [drpM_no HP.out]; exact hl, by omega, below_alloc b1 _⟩
    · have hp : drpB xs a = false := drpB_out (by unfold inB; simp; omega)
      have HP := Lib.hid hp
      clear hb hp
      go_enter Try.func33, Try.ntmps33
      go_wp2_with fail
      refine (implStickIn_any _ _ _ xs _ h hn).mono ?_
      rintro e w1 ⟨rfl, b1⟩
      rw [HB.out]
      have hl := Own.lit w1 (B := w.heap.size) b1.size [] (by simp)
      go_wp2_with fail
      refine bodyPost_ret (results_tmp2 rfl _ _ _) rfl ?_
      exact ⟨_, 0, 0, ret_lb HP.out, by rw [drpM_no HP.out]; exact hl, by omega, below_alloc b1 _⟩
  · rw [Bool.not_eq_true] at hb
    have HB := Lib.hid hb
    clear hb
    go_enter Try.func33, Try.ntmps33
    go_wp2_with fail
    refine (implStickIn_any _ _ _ xs _ h hn).mono ?_
    rintro e w1 ⟨rfl, b1⟩
    rw [HB.out]
    have hl := Own.lit w1 (B := w.heap.size) b1.size [] (by simp)
    go_wp2_with fail
    refine bodyPost_ret (results_tmp2 rfl _ _ _) rfl ?_
    exact ⟨_, 0, 0, ret_lb (drpB_no HB.out), by rw [drpM_no (drpB_no HB.out)]; exact hl, by omega, below_alloc b1 _⟩

end Go.Proofs.Ytaffdppmpfgghaa
