/- Contracts of chapter 2: areas, kinds. -/
import Derived.Test.YtcfmnjkgebopcaaTri
namespace Go.Proofs.Ytcfmnjkgebopcaa
open Go.RowKit Go.Sort

theorem threeSum_bel (a b c : Int) (w : World) (h : TriP a b c) : Calls Try.prog 115 #[.agg #[.int .i64 a, .int .i64 b, .int .i64 c]] w fun e w' => e = .returned (.int .i64 (a + b + c)) ∧ Below w.heap.size w w' := by
  obtain ⟨h1, h2, h3, h4, h5⟩ := h
  exact (threeSum_any a b c w (by omega) (by omega) (by omega) (by omega) (by omega) (by omega)).mono fun e w' ⟨he, o, hw⟩ => ⟨he, by subst hw; exact below_alloc (Below.refl _ _) _⟩
def areaM (a b c : Int) : Int := (a + b + c) * (a + b - c) * (a + c - b) * (b + c - a)
theorem area_bd {a b c : Int} (h : TriP a b c) : (0 ≤ (a + b + c) * (a + b - c) ∧ (a + b + c) * (a + b - c) ≤ 10800) ∧ (0 ≤ (a + b + c) * (a + b - c) * (a + c - b) ∧ (a + b + c) * (a + b - c) * (a + c - b) ≤ 1296000) ∧ (0 ≤ areaM a b c ∧ areaM a b c ≤ 155520000) := by
  obtain ⟨h1, h2, h3, h4, h5⟩ := h
  have p1 := mul_bd (a := a + b + c) (b := a + b - c) (A := 180) (B := 60) (by omega) (by omega) (by omega) (by omega)
  have p2 := mul_bd (a := (a + b + c) * (a + b - c)) (b := a + c - b) (A := 10800) (B := 120) p1.1 p1.2 (by omega) (by omega)
  have p3 := mul_bd (a := (a + b + c) * (a + b - c) * (a + c - b)) (b := b + c - a) (A := 1296000) (B := 120) p2.1 p2.2 (by omega) (by omega)
  exact ⟨p1, p2, p3⟩
set_option maxHeartbeats 2000000 in
theorem area_any (a b c : Int) (w : World) (h : TriP a b c) : Calls Try.prog 133 #[.agg #[.int .i64 a, .int .i64 b, .int .i64 c]] w fun e w' => e = .returned (.int .i64 (areaM a b c)) ∧ Below w.heap.size w w' := by
  have HT := Lib.hid h
  have hb := area_bd h
  obtain ⟨h1, h2, h3, h4, h5⟩ := h
  obtain ⟨W, hW⟩ : ∃ W, W = w.alloc (.cells #[.int .i64 a, .int .i64 b, .int .i64 c] 63) := ⟨_, rfl⟩
  have hR : W.heap[w.heap.size]? = some (.cells #[.int .i64 a, .int .i64 b, .int .i64 c] 63 (0, 0)) := by rw [hW]; exact World.alloc_heap_new w _
  have bW : Below w.heap.size w W := by rw [hW]; exact below_alloc (Below.refl _ _) _
  obtain ⟨u0, u1, u2, _, _, _⟩ := three_cells hR
  have k0 : ∀ d os, (grow (redrawn W d) os).cell? ⟨w.heap.size, 0, none⟩ = some (.int .i64 a) := fun d os => cell_regrown u0 d os
  have k1 : ∀ d os, (grow (redrawn W d) os).cell? ⟨w.heap.size, 1, none⟩ = some (.int .i64 b) := fun d os => cell_regrown u1 d os
  have k2 : ∀ d os, (grow (redrawn W d) os).cell? ⟨w.heap.size, 2, none⟩ = some (.int .i64 c) := fun d os => cell_regrown u2 d os
  have cS : ∀ d os, Calls Try.prog 115 #[.agg #[.int .i64 a, .int .i64 b, .int .i64 c]] (grow (redrawn W d) os) fun e w'' => e = .returned (.int .i64 (a + b + c)) ∧ ∃ p : Regrown, w'' = grow (redrawn W p.d) p.os := fun d os =>
    Calls.regrown_of (threeSum_bel a b c _ HT.out)
  obtain ⟨⟨p1, p2⟩, ⟨p3, p4⟩, p5, p6⟩ := hb
  have HW := Lib.hid hW
  have v1 : IntKind.i64.wrap (a + b) = a + b := wrap_is rfl (by omega) (by omega)
  have v2 : IntKind.i64.wrap (a + b - c) = a + b - c := wrap_is rfl (by omega) (by omega)
  have v3 : IntKind.i64.wrap (a + c) = a + c := wrap_is rfl (by omega) (by omega)
  have v4 : IntKind.i64.wrap (a + c - b) = a + c - b := wrap_is rfl (by omega) (by omega)
  have v5 : IntKind.i64.wrap (b + c) = b + c := wrap_is rfl (by omega) (by omega)
  have v6 : IntKind.i64.wrap (b + c - a) = b + c - a := wrap_is rfl (by omega) (by omega)
  have v7 : IntKind.i64.wrap ((a + b + c) * (a + b - c)) = (a + b + c) * (a + b - c) := wrap_is rfl (by omega) (by omega)
  have v8 : IntKind.i64.wrap ((a + b + c) * (a + b - c) * (a + c - b)) = (a + b + c) * (a + b - c) * (a + c - b) := wrap_is rfl (by omega) (by omega)
  unfold areaM at *
  have v9 : IntKind.i64.wrap ((a + b + c) * (a + b - c) * (a + c - b) * (b + c - a)) = (a + b + c) * (a + b - c) * (a + c - b) * (b + c - a) := wrap_is rfl (by omega) (by omega)
  clear hW hR u0 u1 u2
  go_enter Try.func133, Try.ntmps133
  go_wp2_with fail
  rw [← HW.out]
  refine wp_region_quiet_below (by kernel_rfl) (by kernel_rfl) ?_
  repeat (go_big_quiet_step (exact cS _ _))
  refine wpQuiet_nil ?_
  intro _ hw'
  obtain ⟨⟨dq, osq⟩, hw''⟩ := hw'
  subst hw''
  have bq := below_regrown W dq osq
  generalize Go.Sort.grow (redrawn W dq) osq = wq at bq ⊢
  go_wp2_with fail
  go_ret
  exact ⟨rfl, bW.trans (bq.mono bW.size)⟩
set_option maxHeartbeats 2000000 in
theorem l2Area_any (a b c : Int) (w : World) (h : TriP a b c) : Calls Try.prog 134 #[.int .i64 a, .int .i64 b, .int .i64 c] w fun e w' => e = .returned (.int .i64 (areaM a b c)) ∧ w = w' := by
  have hb := area_bd h
  obtain ⟨h1, h2, h3, h4, h5⟩ := h
  obtain ⟨⟨p1, p2⟩, ⟨p3, p4⟩, p5, p6⟩ := hb
  unfold areaM at *
  go_enter Try.func134, Try.ntmps134
  go_wp2_with fail
  go_ret
  exact ⟨rfl, rfl⟩

/-- TriArea's answer. -/
noncomputable def arM (xs : List Int) : Int := if triLB xs then areaM (xs.getD 0 0) (xs.getD 1 0) (xs.getD 2 0) else 0
theorem arM_yes {xs : List Int} (h : triLB xs = true) : arM xs = areaM (xs.getD 0 0) (xs.getD 1 0) (xs.getD 2 0) := by unfold arM; rw [if_pos h]
theorem arM_no {xs : List Int} (h : triLB xs = false) : arM xs = 0 := by unfold arM; rw [h]; rfl
set_option maxHeartbeats 1000000 in
theorem implTriArea_any (A : Option Addr) (n c : Nat) (xs : List Int) (w : World) (h : Rd w A n xs) (hn : n ≤ 1048576) :
    Calls Try.prog 78 #[.slice A n c] w fun e w' => e = .returned (.tuple #[.int .i64 (arM xs), .bool (triLB xs)]) ∧ Below w.heap.size w w' := by
  by_cases ht : triLB xs = true
  · have HM := Lib.hid (arM_yes ht)
    have HT := Lib.hid ht
    have HP := Lib.hid (triLB_yes ht).2.2
    clear ht
    go_enter Try.func78, Try.ntmps78
    go_wp2_with fail
    refine (triangleOf_yes _ _ _ xs _ h hn HT.out).mono ?_
    rintro e w1 ⟨rfl, b1⟩
    go_wp2_with fail
    refine (area_any _ _ _ _ HP.out).mono ?_
    rintro e w2 ⟨rfl, b2⟩
    have b3 := below_alloc b1 (.cells #[.int .i64 (xs.getD 0 0), .int .i64 (xs.getD 1 0), .int .i64 (xs.getD 2 0)] 63)
    go_wp2_with fail
    go_ret2
    exact ⟨by rw [HM.out, HT.out]; rfl, below_then b3 b2⟩
  · rw [Bool.not_eq_true] at ht
    have HM := Lib.hid (arM_no ht)
    have HT := Lib.hid ht
    clear ht
    go_enter Try.func78, Try.ntmps78
    go_wp2_with fail
    refine (triangleOf_no _ _ _ xs _ h hn HT.out).mono ?_
    rintro e w1 ⟨rfl, b1⟩
    go_wp2_with fail
    go_ret2
    exact ⟨by rw [HM.out, HT.out]; rfl, below_alloc b1 _⟩
set_option maxHeartbeats 1000000 in
theorem specTriArea_any (A : Option Addr) (n c : Nat) (xs : List Int) (w : World) (h : Rd w A n xs) (hn : n ≤ 1048576) :
    Calls Try.prog 79 #[.slice A n c] w fun e w' => e = .returned (.tuple #[.int .i64 (arM xs), .bool (triLB xs)]) ∧ Below w.heap.size w w' := by
  by_cases ht : triLB xs = true
  · have HM := Lib.hid (arM_yes ht)
    have HT := Lib.hid ht
    obtain ⟨hl, _, hp⟩ := triLB_yes ht
    obtain rfl : n = 3 := by rw [← h.1]; exact hl
    obtain ⟨b, off, rfl, hbl, hc⟩ := h.2 (by omega)
    have q0 := hc 0 (by omega)
    have q1 := hc 1 (by omega)
    have q2 := hc 2 (by omega)
    obtain ⟨x, ex⟩ : ∃ x, x = xs.getD 0 0 := ⟨_, rfl⟩
    obtain ⟨y, ey⟩ : ∃ y, y = xs.getD 1 0 := ⟨_, rfl⟩
    obtain ⟨z, ez⟩ : ∃ z, z = xs.getD 2 0 := ⟨_, rfl⟩
    rw [← ex] at q0 HM hp
    rw [← ey] at q1 HM hp
    rw [← ez] at q2 HM hp
    have HP := Lib.hid hp
    clear ht ex ey ez hc hl hp
    go_enter Try.func79, Try.ntmps79
    go_wp2_with fail
    refine (l2Tri_any _ _ _ xs _ h hn).mono ?_
    rintro e w1 ⟨rfl, b1⟩
    rw [HT.out]
    have k0 : ∀ d os, (grow (redrawn w1 d) os).cell? ⟨b, off, none⟩ = some (.int .i64 x) := fun d os => cell_regrown ((b1.cell (p := ⟨b, off, none⟩) hbl).trans q0) d os
    have k1 : ∀ d os, (grow (redrawn w1 d) os).cell? ⟨b, off + 1, none⟩ = some (.int .i64 y) := fun d os => cell_regrown ((b1.cell (p := ⟨b, off + 1, none⟩) hbl).trans q1) d os
    have k2 : ∀ d os, (grow (redrawn w1 d) os).cell? ⟨b, off + 2, none⟩ = some (.int .i64 z) := fun d os => cell_regrown ((b1.cell (p := ⟨b, off + 2, none⟩) hbl).trans q2) d os
    have cA : ∀ d os, Calls Try.prog 134 #[.int .i64 x, .int .i64 y, .int .i64 z] (grow (redrawn w1 d) os) fun e w'' => e = .returned (.int .i64 (areaM x y z)) ∧ ∃ p : Regrown, w'' = grow (redrawn w1 p.d) p.os := fun d os =>
      Calls.regrown_of (keep_below (l2Area_any x y z _ HP.out))
    clear q0 q1 q2 h
    go_wp2_with fail
    refine wp_region_quiet_below (by kernel_rfl) (by kernel_rfl) ?_
    repeat (go_big_quiet_step (exact cA _ _))
    refine wpQuiet_nil ?_
    intro _ hw'
    obtain ⟨⟨dq, osq⟩, hw''⟩ := hw'
    subst hw''
    have bq := below_regrown w1 dq osq
    generalize Go.Sort.grow (redrawn w1 dq) osq = wq at bq ⊢
    go_wp2_with fail
    go_ret2
    exact ⟨by rw [HM.out, HT.out]; rfl, below_then b1 bq⟩
  · rw [Bool.not_eq_true] at ht
    have HM := Lib.hid (arM_no ht)
    have HT := Lib.hid ht
    clear ht
    go_enter Try.func79, Try.ntmps79
    go_wp2_with fail
    refine (l2Tri_any _ _ _ xs _ h hn).mono ?_
    rintro e w1 ⟨rfl, b1⟩
    rw [HT.out]
    go_wp2_with fail
    go_ret2
    exact ⟨by rw [HM.out, HT.out]; rfl, b1⟩
end Go.Proofs.Ytcfmnjkgebopcaa
