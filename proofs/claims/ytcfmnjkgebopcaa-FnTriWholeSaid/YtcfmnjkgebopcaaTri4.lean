/- Contracts of chapter 2: TriGrow, TriHalf. -/
import Derived.Test.YtcfmnjkgebopcaaTri3
namespace Go.Proofs.Ytcfmnjkgebopcaa
open Go.RowKit Go.Sort

theorem triLB_iff3 {a b c : Int} : triLB [a, b, c] = true ↔ TriP a b c := ⟨fun h => (triLB_yes h).2.2, triLB_mk⟩
noncomputable def groB (xs : List Int) : Bool := triLB xs && decide (xs.getD 2 0 < 60)
noncomputable def groM (xs : List Int) : List Int := if groB xs then [xs.getD 0 0 + 1, xs.getD 1 0 + 1, xs.getD 2 0 + 1] else []
theorem groM_yes {xs : List Int} (h : groB xs = true) : groM xs = [xs.getD 0 0 + 1, xs.getD 1 0 + 1, xs.getD 2 0 + 1] := by unfold groM; rw [if_pos h]
theorem groM_no {xs : List Int} (h : groB xs = false) : groM xs = [] := by unfold groM; rw [h]; rfl
theorem groB_no {xs : List Int} (h : triLB xs = false) : groB xs = false := by unfold groB; rw [h]; rfl
theorem bundle3 {a b c : Int} (h1 : 1 ≤ a) (h2 : a ≤ b) (h3 : b ≤ c) : bundleB [a, b, c] = decide (c ≤ 60) := by
  by_cases h : c ≤ 60
  · rw [decide_eq_true h]
    exact bundleB_mk ⟨by simp, by simp, fun j hj => by
      match j, hj with
      | 0, _ => exact ⟨h1, by show a ≤ 60; omega⟩
      | 1, _ => exact ⟨by show 1 ≤ b; omega, by show b ≤ 60; omega⟩
      | 2, _ => exact ⟨by show 1 ≤ c; omega, h⟩, fun j hj => by
      match j, hj with
      | 0, _ => exact h2
      | 1, _ => exact h3⟩
  · rw [decide_eq_false h]
    exact bundleB_not fun hb => h (hb.2.2.1 2 (by simp)).2
theorem ret_lbq {A : Option Addr} {n c : Nat} {a b : Bool} (h : b = a) : Ending.returned (.tuple #[.slice A n c, .bool a]) = .returned (.tuple #[.slice A n c, .bool b]) := by rw [h]
set_option maxHeartbeats 2000000 in
theorem implTriGrow_any (A : Option Addr) (n c : Nat) (xs : List Int) (w : World) (h : Rd w A n xs) (hn : n ≤ 1048576) :
    Calls Try.prog 90 #[.slice A n c] w fun e w' => ∃ A' n' c', e = .returned (.tuple #[.slice A' n' c', .bool (groB xs)]) ∧ Own w' w.heap.size A' n' c' (groM xs) ∧ n' ≤ 1048576 ∧ Below w.heap.size w w' := by
  by_cases ht : triLB xs = true
  · obtain ⟨h1, h2, h3, h4, h5⟩ := (triLB_yes ht).2.2
    have hY := triangleOf_yes A n c xs w h hn ht
    have hG : groB xs = decide (xs.getD 2 0 < 60) := by unfold groB; rw [ht]; rfl
    by_cases h6 : xs.getD 2 0 < 60
    · rw [decide_eq_true h6] at hG
      have HM := Lib.hid (groM_yes hG)
      have HG := Lib.hid hG
      obtain ⟨x, ex⟩ : ∃ x, x = xs.getD 0 0 := ⟨_, rfl⟩
      obtain ⟨y, ey⟩ : ∃ y, y = xs.getD 1 0 := ⟨_, rfl⟩
      obtain ⟨z, ez⟩ : ∃ z, z = xs.getD 2 0 := ⟨_, rfl⟩
      rw [← ex, ← ey, ← ez] at HM hY
      rw [← ex] at h1 h2 h5
      rw [← ey] at h2 h3 h5
      rw [← ez] at h3 h4 h5 h6
      have hd : (z == 60) = false := by simp; omega
      clear ht h ex ey ez hG
      go_enter Try.func90, Try.ntmps90
      go_wp2_with fail
      refine hY.mono ?_
      rintro e w1 ⟨rfl, b1⟩
      have b3 := below_alloc b1 (.cells #[.int .i64 x, .int .i64 y, .int .i64 z] 63)
      have hl := Own.lit (w1.alloc (.cells #[.int .i64 x, .int .i64 y, .int .i64 z] 63)) (B := w.heap.size) b3.size [x + 1, y + 1, z + 1] (by simp)
      rw [World.size_alloc] at hl
      go_wp2_with fail
      refine bodyPost_ret (results_tmp2 rfl _ _ _) rfl ?_
      exact ⟨_, 3, 3, ret_lbq HG.out, by rw [HM.out]; exact hl, by omega, below_alloc b3 _⟩
    · rw [decide_eq_false h6] at hG
      have HM := Lib.hid (groM_no hG)
      have HG := Lib.hid hG
      obtain ⟨x, ex⟩ : ∃ x, x = xs.getD 0 0 := ⟨_, rfl⟩
      obtain ⟨y, ey⟩ : ∃ y, y = xs.getD 1 0 := ⟨_, rfl⟩
      obtain ⟨z, ez⟩ : ∃ z, z = xs.getD 2 0 := ⟨_, rfl⟩
      rw [← ex, ← ey, ← ez] at hY
      rw [← ez] at h4 h6
      have hd : (z == 60) = true := by simp; omega
      clear ht h ex ey ez hG
      go_enter Try.func90, Try.ntmps90
      go_wp2_with fail
      refine hY.mono ?_
      rintro e w1 ⟨rfl, b1⟩
      have b3 := below_alloc b1 (.cells #[.int .i64 x, .int .i64 y, .int .i64 z] 63)
      have hl := Own.lit (w1.alloc (.cells #[.int .i64 x, .int .i64 y, .int .i64 z] 63)) (B := w.heap.size) b3.size [] (by simp)
      rw [World.size_alloc] at hl
      go_wp2_with fail
      refine bodyPost_ret (results_tmp2 rfl _ _ _) rfl ?_
      exact ⟨_, 0, 0, ret_lbq HG.out, by rw [HM.out]; exact hl, by omega, below_alloc b3 _⟩
  · rw [Bool.not_eq_true] at ht
    have HT := Lib.hid ht
    have HG := Lib.hid (groB_no ht)
    have HM := Lib.hid (groM_no (groB_no ht))
    clear ht
    go_enter Try.func90, Try.ntmps90
    go_wp2_with fail
    refine (triangleOf_no _ _ _ xs _ h hn HT.out).mono ?_
    rintro e w1 ⟨rfl, b1⟩
    have b3 := below_alloc b1 (.cells #[.int .i64 0, .int .i64 0, .int .i64 0] 63)
    have hl := Own.lit (w1.alloc (.cells #[.int .i64 0, .int .i64 0, .int .i64 0] 63)) (B := w.heap.size) b3.size [] (by simp)
    rw [World.size_alloc] at hl
    go_wp2_with fail
    refine bodyPost_ret (results_tmp2 rfl _ _ _) rfl ?_
    exact ⟨_, 0, 0, ret_lbq HG.out, by rw [HM.out]; exact hl, by omega, below_alloc b3 _⟩
set_option maxRecDepth 100000 in
set_option maxHeartbeats 4000000 in
theorem specTriGrow_any (A : Option Addr) (n c : Nat) (xs : List Int) (w : World) (h : Rd w A n xs) (hn : n ≤ 1048576) :
    Calls Try.prog 91 #[.slice A n c] w fun e w' => ∃ A' n' c', e = .returned (.tuple #[.slice A' n' c', .bool (groB xs)]) ∧ Rd w' A' n' (groM xs) ∧ n' ≤ 1048576 ∧ Below w.heap.size w w' := by
  by_cases ht : triLB xs = true
  · have HT := Lib.hid ht
    obtain ⟨hl, _, h1, h2, h3, h4, h5⟩ := triLB_yes ht
    obtain rfl : n = 3 := by rw [← h.1]; exact hl
    obtain ⟨b, off, rfl, hbl, hc⟩ := h.2 (by omega)
    have q0 := hc 0 (by omega)
    have q1 := hc 1 (by omega)
    have q2 := hc 2 (by omega)
    have hG : groB xs = bundleB [xs.getD 0 0 + 1, xs.getD 1 0 + 1, xs.getD 2 0 + 1] := by
      unfold groB; rw [ht, bundle3 (by omega) (by omega) (by omega), Bool.true_and, Bool.eq_iff_iff]; simp; omega
    have hM : groM xs = doneM [xs.getD 0 0 + 1, xs.getD 1 0 + 1, xs.getD 2 0 + 1] := by unfold groM doneM; rw [hG]
    obtain ⟨x, ex⟩ : ∃ x, x = xs.getD 0 0 := ⟨_, rfl⟩
    obtain ⟨y, ey⟩ : ∃ y, y = xs.getD 1 0 := ⟨_, rfl⟩
    obtain ⟨z, ez⟩ : ∃ z, z = xs.getD 2 0 := ⟨_, rfl⟩
    rw [← ex] at q0 hM hG h1 h2 h5
    rw [← ey] at q1 hM hG h2 h3 h5
    rw [← ez] at q2 hM hG h3 h4 h5
    have HM := Lib.hid hM
    have HG := Lib.hid hG
    clear ht ex ey ez hc hl hM hG
    go_enter Try.func91, Try.ntmps91
    go_wp2_with fail
    refine (l2Tri_any _ _ _ xs _ h hn).mono ?_
    rintro e w1 ⟨rfl, b1⟩
    rw [HT.out]
    have k0 := (b1.cell (p := ⟨b, off, none⟩) hbl).trans q0
    have k1 := (b1.cell (p := ⟨b, off + 1, none⟩) hbl).trans q1
    have k2 := (b1.cell (p := ⟨b, off + 2, none⟩) hbl).trans q2
    have hl := (Own.lit w1 (B := w.heap.size) b1.size [x + 1, y + 1, z + 1] (by simp)).dr
    have b2 := (below_alloc b1 (.cells #[.int .i64 (x + 1), .int .i64 (y + 1), .int .i64 (z + 1)] 3)).drew
    have v0 : IntKind.i64.wrap (x + 1) = x + 1 := wrap_is rfl (by omega) (by omega)
    have v1 : IntKind.i64.wrap (y + 1) = y + 1 := wrap_is rfl (by omega) (by omega)
    have v2 : IntKind.i64.wrap (z + 1) = z + 1 := wrap_is rfl (by omega) (by omega)
    clear q0 q1 q2 h
    go_wp2_with fail
    go_region_with (go_at_call 107; refine (l1Done_any _ 3 3 [x + 1, y + 1, z + 1] _ hl.rd (by omega)).mono ?_; rintro e w2 ⟨A2, n2, c2, rfl, r2, l2, b3⟩)
    all_goals
      go_wp2_with fail
      refine bodyPost_ret (results_tmp2 rfl _ _ _) rfl ?_
      exact ⟨A2, n2, c2, ret_lbq HG.out, by rw [HM.out]; exact r2, l2, b2.trans (b3.mono b2.size)⟩
  · rw [Bool.not_eq_true] at ht
    have HT := Lib.hid ht
    have HG := Lib.hid (groB_no ht)
    have HM := Lib.hid (groM_no (groB_no ht))
    clear ht
    go_enter Try.func91, Try.ntmps91
    go_wp2_with fail
    refine (l2Tri_any _ _ _ xs _ h hn).mono ?_
    rintro e w1 ⟨rfl, b1⟩
    rw [HT.out]
    go_wp2_with fail
    refine bodyPost_ret (results_tmp2 rfl _ _ _) rfl ?_
    exact ⟨_, 0, 0, ret_lbq HG.out, by rw [HM.out]; exact Rd.nil_ _ _, by omega, below_alloc b1 _⟩

theorem sumL3 {xs : List Int} (h : xs.length = 3) : sumL xs = xs.getD 0 0 + xs.getD 1 0 + xs.getD 2 0 := by
  unfold sumL; rw [h]; simp [sumTo]
noncomputable def hlfB (xs : List Int) : Bool := triLB xs && decide (sumL xs % 2 = 0)
noncomputable def hlfM (xs : List Int) : List Int := if hlfB xs then [sumL xs / 2 - xs.getD 2 0, sumL xs / 2 - xs.getD 1 0, sumL xs / 2 - xs.getD 0 0] else []
theorem hlfM_yes {xs : List Int} (h : hlfB xs = true) : hlfM xs = [sumL xs / 2 - xs.getD 2 0, sumL xs / 2 - xs.getD 1 0, sumL xs / 2 - xs.getD 0 0] := by unfold hlfM; rw [if_pos h]
theorem hlfM_no {xs : List Int} (h : hlfB xs = false) : hlfM xs = [] := by unfold hlfM; rw [h]; rfl
theorem hlfB_no {xs : List Int} (h : triLB xs = false) : hlfB xs = false := by unfold hlfB; rw [h]; rfl
set_option maxHeartbeats 2000000 in
theorem implTriHalf_any (A : Option Addr) (n c : Nat) (xs : List Int) (w : World) (h : Rd w A n xs) (hn : n ≤ 1048576) :
    Calls Try.prog 93 #[.slice A n c] w fun e w' => ∃ A' n' c', e = .returned (.tuple #[.slice A' n' c', .bool (hlfB xs)]) ∧ Own w' w.heap.size A' n' c' (hlfM xs) ∧ n' ≤ 1048576 ∧ Below w.heap.size w w' := by
  by_cases ht : triLB xs = true
  · obtain ⟨hl3, _, hp⟩ := triLB_yes ht
    have hY := triangleOf_yes A n c xs w h hn ht
    have hS := sumL3 hl3
    have hG : hlfB xs = decide (sumL xs % 2 = 0) := by unfold hlfB; rw [ht]; rfl
    have HP := Lib.hid hp
    obtain ⟨h1, h2, h3, h4, h5⟩ := hp
    by_cases h6 : sumL xs % 2 = 0
    · rw [decide_eq_true h6] at hG
      have HM := Lib.hid (hlfM_yes hG)
      have HG := Lib.hid hG
      rw [hS] at HM h6
      obtain ⟨x, ex⟩ : ∃ x, x = xs.getD 0 0 := ⟨_, rfl⟩
      obtain ⟨y, ey⟩ : ∃ y, y = xs.getD 1 0 := ⟨_, rfl⟩
      obtain ⟨z, ez⟩ : ∃ z, z = xs.getD 2 0 := ⟨_, rfl⟩
      rw [← ex, ← ey, ← ez] at HM hY HP h6
      rw [← ex] at h1 h2 h5
      rw [← ey] at h2 h3 h5
      rw [← ez] at h3 h4 h5
      have hd : ((x + y + z) % 2 != 0) = false := by simp; omega
      clear ht h ex ey ez hG hS
      go_enter Try.func93, Try.ntmps93
      go_wp2_with fail
      refine hY.mono ?_
      rintro e w1 ⟨rfl, b1⟩
      have b3 := below_alloc b1 (.cells #[.int .i64 x, .int .i64 y, .int .i64 z] 63)
      have ht1 := World.alloc_heap_new w1 (.cells #[.int .i64 x, .int .i64 y, .int .i64 z] 63)
      go_wp2_with fail
      refine (threeSum_bel _ _ _ _ HP.out).mono ?_
      rintro e w2 ⟨rfl, b4⟩
      have b5 := below_then b3 b4
      have ht2 := (b4.block w1.heap.size (by simp)).trans ht1
      obtain ⟨u0, u1, u2, _, _, _⟩ := three_cells ht2
      go_wp2_with fail
      refine (threeSum_bel _ _ _ _ HP.out).mono ?_
      rintro e w3 ⟨rfl, b6⟩
      have b7 := below_then b5 b6
      have ht3 := (b6.block w1.heap.size (Nat.lt_of_lt_of_le (by simp) b4.size)).trans ht2
      clear u0 u1 u2
      obtain ⟨u0, u1, u2, _, _, _⟩ := three_cells ht3
      have hl := Own.lit w3 (B := w.heap.size) b7.size [(x + y + z) / 2 - z, (x + y + z) / 2 - y, (x + y + z) / 2 - x] (by simp)
      go_wp2_with fail
      refine bodyPost_ret (results_tmp2 rfl _ _ _) rfl ?_
      exact ⟨_, 3, 3, ret_lbq HG.out, by rw [HM.out]; exact hl, by omega, below_alloc b7 _⟩
    · rw [decide_eq_false h6] at hG
      have HM := Lib.hid (hlfM_no hG)
      have HG := Lib.hid hG
      rw [hS] at h6
      obtain ⟨x, ex⟩ : ∃ x, x = xs.getD 0 0 := ⟨_, rfl⟩
      obtain ⟨y, ey⟩ : ∃ y, y = xs.getD 1 0 := ⟨_, rfl⟩
      obtain ⟨z, ez⟩ : ∃ z, z = xs.getD 2 0 := ⟨_, rfl⟩
      rw [← ex, ← ey, ← ez] at hY HP h6
      rw [← ex] at h1 h2 h5
      rw [← ey] at h2 h3 h5
      rw [← ez] at h3 h4 h5
      have hd : ((x + y + z) % 2 != 0) = true := by simp; omega
      clear ht h ex ey ez hG hS
      go_enter Try.func93, Try.ntmps93
      go_wp2_with fail
      refine hY.mono ?_
      rintro e w1 ⟨rfl, b1⟩
      have b3 := below_alloc b1 (.cells #[.int .i64 x, .int .i64 y, .int .i64 z] 63)
      go_wp2_with fail
      refine (threeSum_bel _ _ _ _ HP.out).mono ?_
      rintro e w2 ⟨rfl, b4⟩
      have b5 := below_then b3 b4
      have hl := Own.lit w2 (B := w.heap.size) b5.size [] (by simp)
      go_wp2_with fail
      refine bodyPost_ret (results_tmp2 rfl _ _ _) rfl ?_
      exact ⟨_, 0, 0, ret_lbq HG.out, by rw [HM.out]; exact hl, by omega, below_alloc b5 _⟩
  · rw [Bool.not_eq_true] at ht
    have HT := Lib.hid ht
    have HG := Lib.hid (hlfB_no ht)
    have HM := Lib.hid (hlfM_no (hlfB_no ht))
    clear ht
    go_enter Try.func93, Try.ntmps93
    go_wp2_with fail
    refine (triangleOf_no _ _ _ xs _ h hn HT.out).mono ?_
    rintro e w1 ⟨rfl, b1⟩
    have b3 := below_alloc b1 (.cells #[.int .i64 0, .int .i64 0, .int .i64 0] 63)
    have hl := Own.lit (w1.alloc (.cells #[.int .i64 0, .int .i64 0, .int .i64 0] 63)) (B := w.heap.size) b3.size [] (by simp)
    rw [World.size_alloc] at hl
    go_wp2_with fail
    refine bodyPost_ret (results_tmp2 rfl _ _ _) rfl ?_
    exact ⟨_, 0, 0, ret_lbq HG.out, by rw [HM.out]; exact hl, by omega, below_alloc b3 _⟩
set_option maxRecDepth 100000 in
set_option maxHeartbeats 4000000 in
theorem specTriHalf_any (A : Option Addr) (n c : Nat) (xs : List Int) (w : World) (h : Rd w A n xs) (hn : n ≤ 1048576) :
    Calls Try.prog 94 #[.slice A n c] w fun e w' => ∃ A' n' c', e = .returned (.tuple #[.slice A' n' c', .bool (hlfB xs)]) ∧ Rd w' A' n' (hlfM xs) ∧ n' ≤ 1048576 ∧ Below w.heap.size w w' := by
  by_cases ht : triLB xs = true
  · have HT := Lib.hid ht
    obtain ⟨hl, hB, h1, h2, h3, h4, h5⟩ := triLB_yes ht
    obtain rfl : n = 3 := by rw [← h.1]; exact hl
    have hsm := bundle_small (bundleB_true hB)
    have HS := Lib.hid (sumL3 hl)
    have hG : hlfB xs = decide (sumL xs % 2 = 0) := by unfold hlfB; rw [ht]; rfl
    obtain ⟨b, off, rfl, hbl, hc⟩ := h.2 (by omega)
    have q0 := hc 0 (by omega)
    have q1 := hc 1 (by omega)
    have q2 := hc 2 (by omega)
    by_cases h6 : sumL xs % 2 = 0
    · rw [decide_eq_true h6] at hG
      have HM := Lib.hid (hlfM_yes hG)
      have HG := Lib.hid hG
      have h7 := HS.out
      obtain ⟨s, es⟩ : ∃ s, s = sumL xs := ⟨_, rfl⟩
      rw [← es] at HM h6 h7
      have ES := Lib.hid es
      obtain ⟨x, ex⟩ : ∃ x, x = xs.getD 0 0 := ⟨_, rfl⟩
      obtain ⟨y, ey⟩ : ∃ y, y = xs.getD 1 0 := ⟨_, rfl⟩
      obtain ⟨z, ez⟩ : ∃ z, z = xs.getD 2 0 := ⟨_, rfl⟩
      rw [← ex, ← ey, ← ez] at HM h7
      rw [← ex] at q0 h1 h2 h5
      rw [← ey] at q1 h2 h3 h5
      rw [← ez] at q2 h3 h4 h5
      have hd : (s % 2 == 1) = false := by simp; omega
      have hs1 : 0 ≤ s := by omega
      have hs2 : s ≤ 180 := by omega
      have HEQ := Lib.hid h7
      clear ht ex ey ez hc hl hG hB es h7
      go_enter Try.func94, Try.ntmps94
      go_wp2_with fail
      refine (l2Tri_any _ _ _ xs _ h hn).mono ?_
      rintro e w1 ⟨rfl, b1⟩
      rw [HT.out]
      go_wp2_with fail
      refine (specSum_any _ _ _ xs _ (h.same b1) hn hsm).mono ?_
      rw [← ES.out]
      rintro e w2 ⟨rfl, b2⟩
      have b3 := below_then b1 b2
      go_wp2_with fail
      refine (specSum_any _ _ _ xs _ (h.below (Nat.le_refl _) b3) hn hsm).mono ?_
      rw [← ES.out]
      rintro e w3 ⟨rfl, b4⟩
      have b5 := below_then b3 b4
      have k0 := (b5.cell (p := ⟨b, off, none⟩) hbl).trans q0
      have k1 := (b5.cell (p := ⟨b, off + 1, none⟩) hbl).trans q1
      have k2 := (b5.cell (p := ⟨b, off + 2, none⟩) hbl).trans q2
      have hl := (Own.lit w3 (B := w.heap.size) b5.size [s / 2 - z, s / 2 - y, s / 2 - x] (by simp)).dr
      have b6 := (below_alloc b5 (.cells #[.int .i64 (s / 2 - z), .int .i64 (s / 2 - y), .int .i64 (s / 2 - x)] 3)).drew
      have HLt := Lib.hid hl
      clear q0 q1 q2 h hl
      go_wp2_with fail
      go_region
      go_wp2_with fail
      refine bodyPost_ret (results_tmp2 rfl _ _ _) rfl ?_
      exact ⟨_, 3, 3, ret_lbq HG.out, by rw [HM.out]; exact HLt.out.rd, by omega, b6⟩
    · rw [decide_eq_false h6] at hG
      have HM := Lib.hid (hlfM_no hG)
      have HG := Lib.hid hG
      have h7 := HS.out
      obtain ⟨s, es⟩ : ∃ s, s = sumL xs := ⟨_, rfl⟩
      rw [← es] at h6 h7
      have ES := Lib.hid es
      have hs1 : 0 ≤ s := by omega
      have hs2 : s ≤ 180 := by omega
      have hd : (s % 2 == 1) = true := by simp; omega
      clear ht hc hl hG hB es h7 h1 h2 h3 h4 h5 q0 q1 q2
      go_enter Try.func94, Try.ntmps94
      go_wp2_with fail
      refine (l2Tri_any _ _ _ xs _ h hn).mono ?_
      rintro e w1 ⟨rfl, b1⟩
      rw [HT.out]
      go_wp2_with fail
      refine (specSum_any _ _ _ xs _ (h.same b1) hn hsm).mono ?_
      rw [← ES.out]
      rintro e w2 ⟨rfl, b2⟩
      have b3 := below_then b1 b2
      go_wp2_with fail
      refine bodyPost_ret (results_tmp2 rfl _ _ _) rfl ?_
      exact ⟨_, 0, 0, ret_lbq HG.out, by rw [HM.out]; exact Rd.nil_ _ _, by omega, below_alloc b3 _⟩
  · rw [Bool.not_eq_true] at ht
    have HT := Lib.hid ht
    have HG := Lib.hid (hlfB_no ht)
    have HM := Lib.hid (hlfM_no (hlfB_no ht))
    clear ht
    go_enter Try.func94, Try.ntmps94
    go_wp2_with fail
    refine (l2Tri_any _ _ _ xs _ h hn).mono ?_
    rintro e w1 ⟨rfl, b1⟩
    rw [HT.out]
    go_wp2_with fail
    refine bodyPost_ret (results_tmp2 rfl _ _ _) rfl ?_
    exact ⟨_, 0, 0, ret_lbq HG.out, by rw [HM.out]; exact Rd.nil_ _ _, by omega, below_alloc b1 _⟩
end Go.Proofs.Ytcfmnjkgebopcaa
