/- The walks of the laws FnWidest, FnFree, FnLongFree. -/
import Derived.Test.YtaffdppmpfgghaaLaw1e
import Derived.Lib.QuietBelow
namespace Go.Proofs.Ytaffdppmpfgghaa
open Go.RowKit Go.Sort

theorem sides_tri {a b c : Int} (h : sidesB a b c = true) : triB c b a = true := by
  unfold sidesB at h
  simp only [Bool.and_eq_true] at h
  rw [triB_rev]; exact h.2

set_option maxRecDepth 100000 in
set_option maxHeartbeats 4000000 in
theorem fnWidest_walk (A0 : Option Addr) (n0 c0 : Nat) (z0 : List Int) (w : World) (h0 : RdB w A0 n0 z0) (k0 : WfL .u8 z0) (q0 : n0 ≤ c0) :
    Calls Try.prog 4 #[.slice A0 n0 c0] w fun e w' => e = .returned (.bool true) ∧ Below w.heap.size w w' := by
  by_cases big : n0 ≤ 1048576
  rotate_left
  · go_enter Try.func4, Try.ntmps4
    go_wp2_with fail
    go_ret
    exact ⟨rfl, Below.refl _ _⟩
  go_enter Try.func4, Try.ntmps4
  go_wp2_with fail
  refine (drawWidest_any A0 n0 c0 z0 _ h0 (bytes_of k0) big q0).mono ?_
  rintro e w1 ⟨A, n, c, xs, rfl, o1, hn, hx, b1⟩
  go_wp2_with fail
  refine (implStickWidest_any A n c xs _ o1.rd (by omega)).mono ?_
  rintro e w2 ⟨rfl, b2⟩
  have b3 := below_then b1 b2
  replace o1 := o1.same b2
  go_wp2_with fail
  refine (specStickWidest_any A n c xs _ o1.rd (by omega)).mono ?_
  rintro e w3 ⟨rfl, b4⟩
  have b5 := below_then b3 b4
  replace o1 := o1.same b4
  have hl1 := o1.len
  obtain ⟨W, hW⟩ : ∃ W, W = (widM xs).1 := ⟨_, rfl⟩
  rw [← hW]
  by_cases hs : (widM xs).2 = true
  · have hB : bundleB xs = true := by
      by_cases hb : bundleB xs = true
      · exact hb
      · rw [Bool.not_eq_true] at hb
        rw [widM_no hb] at hs
        cases hs
    have hbd := bundleB_true hB
    have hpos := wid_pos hbd.2.2.2
    rw [widM_yes hB] at hW
    have hs2 := hs
    rw [widM_yes hB, hpos, decide_eq_true_eq] at hs2
    have HWM := Lib.hid (fun i j k (h1 : i < j) (h2 : j < k) (h3 : k < xs.length) ht => (wid_max hbd.2.2.2 _ (Nat.le_refl _) i j k h1 h2 h3 ht).2)
    rw [← hW] at HWM
    have hz := hbd.2.2.1
    rw [hl1] at hz
    have HB := Lib.hid hB
    have HL := Lib.hid hl1
    rw [hs]
    clear hs hB hbd hpos hW hl1
    go_wp2_with fail
    refine (implStickMany_any A n c xs _ o1.rd (by omega)).mono ?_
    rw [HB.out, manyM_yes HB.out]
    rintro e w4 ⟨rfl, b6⟩
    have b7 := below_then b5 b6
    replace o1 := o1.same b6
    obtain ⟨N, hN⟩ : ∃ N, N = cntT xs := ⟨_, rfl⟩
    rw [← hN] at hs2 ⊢
    clear hN b1 b2 b3 b4 b5 b6
    have hN1 : (1 : Int) ≤ (N : Int) := by omega
    go_wp2_with fail
    go_loopw [10, 11, 12] (fun i _ _ wr => ∃ k : Nat, k ≤ n ∧ i = .int .i64 k ∧ Below w4.heap.size w4 wr) (fun i _ _ _ => n - (intOf i).toNat)
    case atStart => exact ⟨0, Nat.zero_le _, rfl, Below.refl _ _⟩
    case round =>
      obtain ⟨i, hi, rfl, hb⟩ := hrel
      by_cases hlt : i < n
      · obtain ⟨g, rfl, hg0, hg1⟩ := o1.form (by omega)
        obtain ⟨wo, rfl⟩ : ∃ wo : World, wo = wr := ⟨_, rfl⟩
        have d1 : decide ((i : Int) < (n : Int)) = true := by simp; omega
        go_wp2_with fail
        go_loopw [11, 12] (fun j _ wr => ∃ k : Nat, k ≤ i ∧ j = .int .i64 k ∧ Below w4.heap.size w4 wr) (fun j _ _ => i - (intOf j).toNat)
        case atStart => exact ⟨0, Nat.zero_le _, rfl, hb⟩
        case round =>
          clear hb
          obtain ⟨j, hj, rfl, hb⟩ := hrel
          by_cases hltj : j < i
          · obtain ⟨wp, rfl⟩ : ∃ wp : World, wp = wr := ⟨_, rfl⟩
            have d2 : decide ((j : Int) < (i : Int)) = true := by simp; omega
            go_wp2_with fail
            go_loopw [12] (fun k wr => ∃ q : Nat, q ≤ j ∧ k = .int .i64 q ∧ Below w4.heap.size w4 wr) (fun k _ => j - (intOf k).toNat)
            case atStart => exact ⟨0, Nat.zero_le _, rfl, hb⟩
            case round =>
              clear hb
              obtain ⟨k, hk, rfl, hb⟩ := hrel
              by_cases hltk : k < j
              · have hcx : wr.cell? ⟨g, i, none⟩ = some (.int .i64 (xs.getD i 0)) := (hb.cell (p := ⟨g, i, none⟩) hg1).trans (o1.cell i hlt)
                have hcy : wr.cell? ⟨g, j, none⟩ = some (.int .i64 (xs.getD j 0)) := (hb.cell (p := ⟨g, j, none⟩) hg1).trans (o1.cell j (by omega))
                have hcz : wr.cell? ⟨g, k, none⟩ = some (.int .i64 (xs.getD k 0)) := (hb.cell (p := ⟨g, k, none⟩) hg1).trans (o1.cell k (by omega))
                have h1 := hz i hlt
                have h2 := hz j (by omega)
                have h3 := hz k (by omega)
                have hmax := HWM.out k j i hltk hltj (by rw [HL.out]; exact hlt)
                obtain ⟨x, ex⟩ : ∃ x, x = xs.getD i 0 := ⟨_, rfl⟩
                obtain ⟨y, ey⟩ : ∃ y, y = xs.getD j 0 := ⟨_, rfl⟩
                obtain ⟨z, ez⟩ : ∃ z, z = xs.getD k 0 := ⟨_, rfl⟩
                rw [← ex] at hcx h1 hmax
                rw [← ey] at hcy h2 hmax
                rw [← ez] at hcz h3 hmax
                clear ex ey ez
                have cx : ∀ d os, (grow (redrawn wr d) os).cell? ⟨g, i, none⟩ = some (.int .i64 x) := fun d os => cell_regrown hcx d os
                have cy : ∀ d os, (grow (redrawn wr d) os).cell? ⟨g, j, none⟩ = some (.int .i64 y) := fun d os => cell_regrown hcy d os
                have cz : ∀ d os, (grow (redrawn wr d) os).cell? ⟨g, k, none⟩ = some (.int .i64 z) := fun d os => cell_regrown hcz d os
                have e1 : (i : Int) < (n : Int) := by omega
                have e2 : (j : Int) < (n : Int) := by omega
                have e3 : (k : Int) < (n : Int) := by omega
                have v1 : IntKind.i64.wrap (x + y) = x + y := wrap_is rfl (by omega) (by omega)
                have v2 : IntKind.i64.wrap (x + y + z) = x + y + z := wrap_is rfl (by omega) (by omega)
                have d3 : decide ((k : Int) < (j : Int)) = true := by simp; omega
                have cR : ∀ d os, Calls Try.prog 37 #[.int .i64 x, .int .i64 y, .int .i64 z] (grow (redrawn wr d) os) fun e w'' => e = .returned (.bool (sidesB x y z)) ∧ ∃ p : Regrown, w'' = grow (redrawn wr p.d) p.os := fun d os =>
                  Calls.regrown_of (implThree_any x y z _)
                by_cases ht : sidesB x y z = true
                · have hsum : x + y + z ≤ W := by have := hmax (sides_tri ht); omega
                  have cQ : ∀ d os, Calls Try.prog 37 #[.int .i64 x, .int .i64 y, .int .i64 z] (grow (redrawn wr d) os) fun e w'' => e = .returned (.bool true) ∧ ∃ p : Regrown, w'' = grow (redrawn wr p.d) p.os := fun d os => ht ▸ cR d os
                  clear cR hmax ht hcx hcy hcz
                  go_wp2_with fail
                  refine wp_region_quiet_below (by kernel_rfl) (by kernel_rfl) ?_
                  repeat (go_big_quiet_step (exact cQ _ _))
                  refine wpQuiet_nil ?_
                  intro _ hw'
                  obtain ⟨⟨dq, osq⟩, hw''⟩ := hw'
                  subst hw''
                  have bq := below_regrown wr dq osq
                  generalize Go.Sort.grow (redrawn wr dq) osq = wq at bq ⊢
                  go_wp2_with fail
                  go_roundw
                  case rel => first | exact ⟨k + 1, by omega, by go_num, below_then hb bq⟩ | ((repeat apply Exists.intro); exact ⟨⟨k + 1, by omega, by go_num, below_then hb bq⟩, rfl⟩)
                  case measure => simp [intOf]; omega
                · rw [Bool.not_eq_true] at ht
                  have cQ : ∀ d os, Calls Try.prog 37 #[.int .i64 x, .int .i64 y, .int .i64 z] (grow (redrawn wr d) os) fun e w'' => e = .returned (.bool false) ∧ ∃ p : Regrown, w'' = grow (redrawn wr p.d) p.os := fun d os => ht ▸ cR d os
                  clear cR hmax ht hcx hcy hcz
                  go_wp2_with fail
                  refine wp_region_quiet_below (by kernel_rfl) (by kernel_rfl) ?_
                  repeat (go_big_quiet_step (exact cQ _ _))
                  refine wpQuiet_nil ?_
                  intro _ hw'
                  obtain ⟨⟨dq, osq⟩, hw''⟩ := hw'
                  subst hw''
                  have bq := below_regrown wr dq osq
                  generalize Go.Sort.grow (redrawn wr dq) osq = wq at bq ⊢
                  go_wp2_with fail
                  go_roundw
                  case rel => first | exact ⟨k + 1, by omega, by go_num, below_then hb bq⟩ | ((repeat apply Exists.intro); exact ⟨⟨k + 1, by omega, by go_num, below_then hb bq⟩, rfl⟩)
                  case measure => simp [intOf]; omega
              · go_wp2_with fail
                go_roundw
                case rel => first | exact ⟨j + 1, by omega, by go_num, hb⟩ | ((repeat apply Exists.intro); exact ⟨⟨j + 1, by omega, by go_num, hb⟩, rfl⟩)
                case measure => simp [intOf]; omega
          · go_wp2_with fail
            go_roundw
            case rel => first | exact ⟨i + 1, by omega, by go_num, hb⟩ | ((repeat apply Exists.intro); exact ⟨⟨i + 1, by omega, by go_num, hb⟩, rfl⟩)
            case measure => simp [intOf]; omega
      · go_wp2_with fail
        go_ret
        exact ⟨rfl, below_then b7 hb⟩
  · rw [Bool.not_eq_true] at hs
    rw [hs]
    clear hs hW
    go_wp2_with fail
    go_ret
    exact ⟨rfl, b5⟩

set_option maxRecDepth 100000 in
set_option maxHeartbeats 4000000 in
theorem fnFree_walk (A0 : Option Addr) (n0 c0 : Nat) (z0 : List Int) (w : World) (h0 : RdB w A0 n0 z0) (k0 : WfL .u8 z0) (q0 : n0 ≤ c0) :
    Calls Try.prog 5 #[.slice A0 n0 c0] w fun e w' => e = .returned (.bool true) ∧ Below w.heap.size w w' := by
  by_cases big : n0 ≤ 1048576
  rotate_left
  · go_enter Try.func5, Try.ntmps5
    go_wp2_with fail
    go_ret
    exact ⟨rfl, Below.refl _ _⟩
  go_enter Try.func5, Try.ntmps5
  go_wp2_with fail
  refine (drawFree_any A0 n0 c0 z0 _ h0 (bytes_of k0) big q0).mono ?_
  rintro e w1 ⟨A, n, c, xs, rfl, o1, hn, hx, b1⟩
  go_wp2_with fail
  refine (implStickFree_any A n c xs _ o1.rd (by omega)).mono ?_
  rintro e w2 ⟨rfl, b2⟩
  have b3 := below_then b1 b2
  replace o1 := o1.same b2
  go_wp2_with fail
  refine (specStickFree_any A n c xs _ o1.rd (by omega)).mono ?_
  rintro e w3 ⟨rfl, b4⟩
  have b5 := below_then b3 b4
  replace o1 := o1.same b4
  have hl1 := o1.len
  by_cases hs : (bundleB xs && decide (cntT xs = 0)) = true
  · have hs2 := hs
    simp only [Bool.and_eq_true, decide_eq_true_eq] at hs2
    obtain ⟨hB, hC⟩ := hs2
    have hbd := bundleB_true hB
    have hW := wid_pos hbd.2.2.2
    rw [hC] at hW
    have HW := Lib.hid (show (wid xs xs.length).2 = false from hW)
    have HB := Lib.hid hB
    have HL := Lib.hid hl1
    have HF := Lib.hid (fun (i : Nat) (hi : i + 2 < xs.length) => free_fast hbd hC hi)
    have hz := hbd.2.2.1
    rw [hl1] at hz
    rw [hs]
    clear hs hB hC hbd hW hl1
    go_wp2_with fail
    refine (implStickWidest_any A n c xs _ o1.rd (by omega)).mono ?_
    rw [widM_yes HB.out, HW.out]
    rintro e w4 ⟨rfl, b6⟩
    have b7 := below_then b5 b6
    replace o1 := o1.same b6
    obtain ⟨z, hzz⟩ : ∃ z, z = (wid xs xs.length).1 := ⟨_, rfl⟩
    rw [← hzz]
    clear hzz b1 b2 b3 b4 b5 b6
    go_wp2_with fail
    go_loopw [8] (fun i wr => ∃ k : Nat, 2 ≤ k ∧ (k ≤ n ∨ k = 2) ∧ i = .int .i64 k ∧ Below w4.heap.size w4 wr) (fun i _ => n - (intOf i).toNat)
    case atStart => exact ⟨2, by omega, by omega, rfl, Below.refl _ _⟩
    case round =>
      obtain ⟨k, hk2, hkn, rfl, hb⟩ := hrel
      by_cases hlt : k < n
      · obtain ⟨m, rfl⟩ : ∃ m, k = m + 2 := ⟨k - 2, by omega⟩
        obtain ⟨g, rfl, hg0, hg1⟩ := o1.form (by omega)
        have hcx : wr.cell? ⟨g, m, none⟩ = some (.int .i64 (xs.getD m 0)) := (hb.cell (p := ⟨g, m, none⟩) hg1).trans (o1.cell m (by omega))
        have hcy : wr.cell? ⟨g, m + 1, none⟩ = some (.int .i64 (xs.getD (m + 1) 0)) := (hb.cell (p := ⟨g, m + 1, none⟩) hg1).trans (o1.cell (m + 1) (by omega))
        have hcz : wr.cell? ⟨g, m + 2, none⟩ = some (.int .i64 (xs.getD (m + 2) 0)) := (hb.cell (p := ⟨g, m + 2, none⟩) hg1).trans (o1.cell (m + 2) (by omega))
        have hf := HF.out m (by rw [HL.out]; omega)
        have h1 := hz m (by omega)
        have h2 := hz (m + 1) (by omega)
        have h3 := hz (m + 2) (by omega)
        obtain ⟨x, ex⟩ : ∃ x, x = xs.getD m 0 := ⟨_, rfl⟩
        obtain ⟨y, ey⟩ : ∃ y, y = xs.getD (m + 1) 0 := ⟨_, rfl⟩
        obtain ⟨z', ez⟩ : ∃ z', z' = xs.getD (m + 2) 0 := ⟨_, rfl⟩
        rw [← ex] at hcx h1 hf
        rw [← ey] at hcy h2 hf
        rw [← ez] at hcz h3 hf
        clear ex ey ez
        have e1 : ((m + 2 : Nat) : Int) - 1 = (m : Int) + 1 := by omega
        have e2 : ((m + 2 : Nat) : Int) - 2 = (m : Int) := by omega
        have e3 : (m : Int) + 2 < (n : Int) := by omega
        have e4 : (m : Int) + 1 < (n : Int) := by omega
        have e5 : (m : Int) < (n : Int) := by omega
        have e6 : (m : Int) + 2 - 1 = (m : Int) + 1 := by omega
        have e7 : (m : Int) + 2 - 2 = (m : Int) := by omega
        have e8 : y + x ≤ z' := by omega
        go_wp2
        go_quiet (fail)
        go_wp2
        go_roundw
        case rel => first | exact ⟨m + 3, by omega, by omega, by go_num, below_drewN hb _⟩ | ((repeat apply Exists.intro); exact ⟨⟨m + 3, by omega, by omega, by go_num, below_drewN hb _⟩, rfl⟩)
        case measure => simp [intOf]; omega
      · go_wp2
        go_ret
        exact ⟨rfl, below_then b7 hb⟩
  · rw [Bool.not_eq_true] at hs
    rw [hs]
    clear hs
    go_wp2_with fail
    go_ret
    exact ⟨rfl, b5⟩

set_option maxRecDepth 100000 in
set_option maxHeartbeats 4000000 in
theorem fnLongFree_walk (A0 : Option Addr) (n0 c0 : Nat) (z0 : List Int) (w : World) (h0 : RdB w A0 n0 z0) (k0 : WfL .u8 z0) (q0 : n0 ≤ c0) :
    Calls Try.prog 7 #[.slice A0 n0 c0] w fun e w' => e = .returned (.bool true) ∧ Below w.heap.size w w' := by
  by_cases big : n0 ≤ 1048576
  rotate_left
  · go_enter Try.func7, Try.ntmps7
    go_wp2_with fail
    go_ret
    exact ⟨rfl, Below.refl _ _⟩
  go_enter Try.func7, Try.ntmps7
  go_wp2_with fail
  refine (drawLongFree_any A0 n0 c0 z0 _ h0 (bytes_of k0) big q0).mono ?_
  rintro e w1 ⟨n, rfl, hn1, hn2, b1⟩
  go_wp2_with fail
  refine (implStickLongFree_any n _).mono ?_
  rintro e w2 ⟨A4, n4, c4, rfl, o4, hn4, b2⟩
  have b3 := below_then b1 b2
  go_wp2_with fail
  refine (specStickLongFree_any n _).mono ?_
  rintro e w3 ⟨A5, n5, c5, rfl, r5, hn5, b4⟩
  have b5 := below_then b3 b4
  replace o4 := o4.same b4
  by_cases hs : inB n 1 54 = true
  · obtain ⟨k, hk2, hk9, hlk, hlo, hhi⟩ := long_is n hs
    rw [hlk] at o4 r5
    have hl4 := o4.len
    rw [fibs_len k hk9] at hl4
    subst hl4
    have HF := Lib.hid (show (bundleB (fibs.take k) && decide (cntT (fibs.take k) = 0)) = true by rw [bundleB_mk (fibs_bundle k hk2 hk9), fibs_free k hk2 hk9]; rfl)
    rw [hs]
    clear hs hlk
    go_wp2_with fail
    refine (sameInts_any A4 A5 k n5 c4 c5 _ _ o4.rd r5 hn4).mono ?_
    rintro e w6 ⟨rfl, b6⟩
    have b7 := below_then b5 b6
    replace o4 := o4.same b6
    obtain ⟨g, rfl, hg0, hg1⟩ := o4.form (by omega)
    obtain ⟨m, rfl⟩ : ∃ m, k = m + 2 := ⟨k - 2, by omega⟩
    have hcy := o4.cell (m + 1) (by omega)
    have hcx := o4.cell m (by omega)
    rw [fibs_get (m + 2) m (by omega)] at hcx
    rw [fibs_get (m + 2) (m + 1) (by omega)] at hcy
    have had := fib_add m (by omega)
    have fb0 := fib_bd m
    have fb1 := fib_bd (m + 1)
    rw [show m + 2 - 1 = m + 1 by omega] at hlo
    obtain ⟨x, ex⟩ : ∃ x, x = fib m := ⟨_, rfl⟩
    obtain ⟨y, ey⟩ : ∃ y, y = fib (m + 1) := ⟨_, rfl⟩
    obtain ⟨z, ez⟩ : ∃ z, z = fib (m + 2) := ⟨_, rfl⟩
    rw [← ex] at hcx had fb0
    rw [← ey] at hcy had fb1 hlo
    rw [← ez] at had hhi
    clear ex ey ez
    have e8 : n < y + x := by omega
    have cx : ∀ d os, (grow (redrawn w6 d) os).cell? ⟨g, m, none⟩ = some (.int .i64 x) := fun d os => cell_regrown hcx d os
    have cy : ∀ d os, (grow (redrawn w6 d) os).cell? ⟨g, m + 1, none⟩ = some (.int .i64 y) := fun d os => cell_regrown hcy d os
    have r4 := o4.rd
    have cQ : ∀ d os, Calls Try.prog 39 #[.slice (some ⟨g, 0, none⟩) (m + 2) c4] (grow (redrawn w6 d) os) fun e w'' => e = .returned (.bool true) ∧ ∃ p : Regrown, w'' = grow (redrawn w6 p.d) p.os := fun d os =>
      Calls.regrown_of (HF.out ▸ implStickFree_any _ (m + 2) c4 _ _ (r4.same (below_regrown w6 d os)) (by omega))
    have e1 : ((m + 2 : Nat) : Int) - 1 = (m : Int) + 1 := by omega
    have e2 : ((m + 2 : Nat) : Int) - 2 = (m : Int) := by omega
    have e4 : (m : Int) + 1 < (m : Int) + 2 := by omega
    have e5 : (m : Int) < (m : Int) + 2 := by omega
    have e6 : (m : Int) + 2 - 1 = (m : Int) + 1 := by omega
    have e7 : (m : Int) + 2 - 2 = (m : Int) := by omega
    have v1 : IntKind.i64.wrap ((m : Int) + 1) = (m : Int) + 1 := wrap_is rfl (by omega) (by omega)
    have v2 : IntKind.i64.wrap (m : Int) = (m : Int) := wrap_is rfl (by omega) (by omega)
    have v3 : (0 : Int) ≤ (m : Int) + 1 := by omega
    have v4 : ((m : Int) + 1).toNat = m + 1 := by omega
    have v5 : IntKind.i64.wrap (y + x) = y + x := wrap_is rfl (by omega) (by omega)
    clear hcx hcy o4 r5 r4
    go_wp2_with fail
    refine wp_region_quiet_below (by kernel_rfl) (by kernel_rfl) ?_
    repeat (go_big_quiet_step (exact cQ _ _))
    refine wpQuiet_nil ?_
    intro _ hw'
    obtain ⟨⟨dq, osq⟩, hw''⟩ := hw'
    subst hw''
    have bq := below_regrown w6 dq osq
    generalize Go.Sort.grow (redrawn w6 dq) osq = wq at bq ⊢
    go_wp2_with fail
    go_ret
    exact ⟨rfl, below_then b7 bq⟩
  · rw [Bool.not_eq_true] at hs
    have hlm : longM n = [] := by unfold longM; rw [hs]; rfl
    rw [hlm] at o4 r5
    rw [hs]
    clear hs hlm
    go_wp2_with fail
    refine (sameInts_any A4 A5 n4 n5 c4 c5 _ _ o4.rd r5 hn4).mono ?_
    rintro e w6 ⟨rfl, b6⟩
    have b7 := below_then b5 b6
    go_wp2_with fail
    refine (sameInts_any A4 A5 n4 n5 c4 c5 _ _ (o4.same b6).rd (r5.same b6) hn4).mono ?_
    rintro e w7 ⟨rfl, b8⟩
    go_wp2_with fail
    go_ret
    exact ⟨rfl, below_then b7 b8⟩
end Go.Proofs.Ytaffdppmpfgghaa
