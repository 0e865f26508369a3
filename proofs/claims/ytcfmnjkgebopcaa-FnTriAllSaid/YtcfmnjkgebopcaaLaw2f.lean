/- The walk of the law FnTriAll. -/
import Derived.Test.YtcfmnjkgebopcaaLaw2a
import Derived.Test.YtcfmnjkgebopcaaE2c
import Derived.Test.YtcfmnjkgebopcaaWhole
namespace Go.Proofs.Ytcfmnjkgebopcaa
open Go.RowKit Go.Sort

set_option maxRecDepth 100000 in
set_option maxHeartbeats 2000000 in
theorem sameRows_same (A A' : Option Addr) (n c c' : Nat) (L : List T3) (w : World) (h : RdT w A n L) (h' : RdT w A' n L) (hn : n ≤ 1048576) :
    Calls Try.prog 67 #[.slice A n c, .slice A' n c'] w fun e w' => e = .returned (.bool true) ∧ Below w.heap.size w w' := by
  have hm : (((n : Int)) != (n : Int)) = false := by simp
  go_enter Try.func67, Try.ntmps67
  go_wp2_with fail
  go_loopw [5] (fun i wr => ∃ k : Nat, k ≤ n ∧ i = .int .i64 k ∧ Below w.heap.size w wr) (fun i _ => n - (intOf i).toNat)
  case atStart => exact ⟨0, Nat.zero_le _, rfl, Below.refl _ _⟩
  case round =>
    obtain ⟨k, hk, rfl, hb⟩ := hrel
    by_cases hlt : k < n
    · obtain ⟨b, off, rfl, hbl, hc⟩ := h.2 (by omega)
      obtain ⟨b', off', rfl, hbl', hc'⟩ := h'.2 (by omega)
      obtain ⟨A1, c1, x1, r1⟩ := hc k hlt
      obtain ⟨A2, c2, x2, r2⟩ := hc' k hlt
      have y1 : ∀ d os, (grow (redrawn wr d) os).cell? ⟨b, off + k, none⟩ = some (.slice A1 3 c1) := fun d os => cell_regrown ((hb.cell (p := ⟨b, off + k, none⟩) hbl).trans x1) d os
      have y2 : ∀ d os, (grow (redrawn wr d) os).cell? ⟨b', off' + k, none⟩ = some (.slice A2 3 c2) := fun d os => cell_regrown ((hb.cell (p := ⟨b', off' + k, none⟩) hbl').trans x2) d os
      have cE : ∀ d os, Calls Try.prog 39 #[.slice A1 3 c1, .slice A2 3 c2] (grow (redrawn wr d) os) fun e w'' => e = .returned (.bool true) ∧ ∃ p : Regrown, w'' = grow (redrawn wr p.d) p.os := fun d os =>
        Calls.regrown_of (sameInts_any A1 A2 3 3 c1 c2 _ _ ((r1.same hb).same (below_regrown wr d os)) ((r2.same hb).same (below_regrown wr d os)) (by omega))
      have g1 : (k : Int) < (n : Int) := by omega
      have g2 : (0 : Int) ≤ (k : Int) := by omega
      have g3 : ((k : Int)).toNat = k := by omega
      have HB := Lib.hid hb
      clear x1 x2 r1 r2 hc hc' h h' hb
      go_wp2_with fail
      refine wp_region_quiet_below (by kernel_rfl) (by kernel_rfl) ?_
      repeat (go_big_quiet_step (with_reducible exact cE _ _))
      refine wpQuiet_nil ?_
      intro _ hw'
      obtain ⟨⟨dq, osq⟩, hw''⟩ := hw'
      subst hw''
      have bq := below_regrown wr dq osq
      generalize Go.Sort.grow (redrawn wr dq) osq = wq at bq ⊢
      go_wp2_with fail
      go_roundw
      case rel => exact ⟨k + 1, by omega, by go_num, HB.out.trans (bq.mono HB.out.size)⟩
      case measure => simp [intOf]; omega
    · go_wp2_with fail
      go_ret
      exact ⟨rfl, hb⟩

theorem small3 {x y z : Int} (h : TriP x y z) : Small 1000000 [x, y, z] := by
  obtain ⟨h1, h2, h3, h4, h5⟩ := h
  intro j hj
  simp at hj
  match j, hj with
  | 0, _ => exact ⟨by show -1000000 ≤ x; omega, by show x ≤ 1000000; omega⟩
  | 1, _ => exact ⟨by show -1000000 ≤ y; omega, by show y ≤ 1000000; omega⟩
  | 2, _ => exact ⟨by show -1000000 ≤ z; omega, by show z ≤ 1000000; omega⟩
theorem sides3 {x y z : Int} (h : TriP x y z) : sidesB x y z = true := by
  obtain ⟨h1, h2, h3, h4, h5⟩ := h
  unfold sidesB inB
  rw [triB_asc h1 h2 h3]
  simp
  omega
theorem pair_getD {L : List T3} (h : L.Pairwise lt3) {i j : Nat} (hij : i < j) (hj : j < L.length) : lt3 (L.getD i t0) (L.getD j t0) := by
  have := List.pairwise_iff_getElem.1 h i j (by omega) hj hij
  rwa [show L.getD i t0 = L[i] by simp [List.getD_eq_getElem?_getD, show i < L.length by omega], show L.getD j t0 = L[j] by simp [List.getD_eq_getElem?_getD, hj]]
theorem mem_getDT {L : List T3} {i : Nat} (hi : i < L.length) : L.getD i t0 ∈ L := by
  rw [List.getD_eq_getElem?_getD, List.getElem?_eq_getElem hi]; exact List.getElem_mem hi

set_option maxRecDepth 100000 in
set_option maxHeartbeats 4000000 in
theorem fnTriAll_walk (A0 : Option Addr) (n0 c0 : Nat) (z0 : List Int) (w : World) (h0 : RdB w A0 n0 z0) (k0 : WfL .u8 z0) (q0 : n0 ≤ c0) :
    Calls Try.prog 12 #[.slice A0 n0 c0] w fun e w' => e = .returned (.bool true) ∧ Below w.heap.size w w' := by
  by_cases big : n0 ≤ 1048576
  rotate_left
  · go_enter Try.func12, Try.ntmps12
    go_wp2_with fail
    go_ret
    exact ⟨rfl, Below.refl _ _⟩
  go_enter Try.func12, Try.ntmps12
  go_wp2_with fail
  refine (drawTriAll_any A0 n0 c0 z0 _ h0 (bytes_of k0) big q0).mono ?_
  rintro e w1 ⟨p, rfl, hp1, hp2, b1⟩
  have hI := implTriAll_any p w1
  have hS := fun W => specTriAll_any p W
  have hlen := len_triAllM p
  by_cases hs : inB p 1 60 = true
  · have hb := inB_true hs
    have HG := Lib.hid (fun t => (mem_allP hb.2 (t := t)).1)
    have HP := Lib.hid (sorted_allP p)
    rw [triAllM_yes hs] at hI hlen
    simp only [triAllM_yes hs] at hS
    rw [hs] at hI hS
    generalize allP p = L at *
    obtain ⟨n, hn⟩ : ∃ n, n = L.length := ⟨_, rfl⟩
    rw [← hn] at hI hlen hS
    have HN := Lib.hid hn
    clear hs hn
    go_wp2_with fail
    refine hI.mono ?_
    rintro e w2 ⟨A, c, rfl, ⟨gs, o2⟩, b2⟩
    go_wp2_with fail
    refine (hS _).mono ?_
    rintro e w3 ⟨A2, c2, rfl, ⟨gs2, o3⟩, b4⟩
    have b5 := below_then (below_then b1 b2) b4
    have o2' := o2.same b4
    clear o2 hI hS
    go_wp2_with fail
    refine (sameRows_same A A2 n c c2 L _ o2'.rd o3.rd (by omega)).mono ?_
    rintro e w4 ⟨rfl, b6⟩
    have o4 := Lib.hid (o2'.same b6)
    have b7 := below_then b5 b6
    clear o3 o2'
    go_wp2_with fail
    go_loopw [8, 9] (fun i _ wr => ∃ k : Nat, k ≤ n ∧ i = .int .i64 k ∧ Below w4.heap.size w4 wr) (fun i _ _ => n - (intOf i).toNat)
    case atStart => exact ⟨0, Nat.zero_le _, rfl, Below.refl _ _⟩
    case round =>
      obtain ⟨k, hk, rfl, hbw⟩ := hrel
      have HB := Lib.hid hbw
      have hq := o4.out.same hbw
      clear hbw
      by_cases hlt : k < n
      · obtain ⟨g1, rfl⟩ : ∃ g, A = some ⟨g, 0, none⟩ := by
          rcases hq.row.2 with ⟨_, e⟩ | ⟨g, cap, cur, e, _⟩
          · omega
          · exact ⟨g, by injection e⟩
        have hc : ∀ j, j < n → wr.cell? ⟨g1, j, none⟩ = some (rowV (gs.getD j 0)) := fun j hj => by
          rw [World.ownsRow.cellAt hq.row j (by omega), map_getD_rowV (by rw [hq.len, ← HN.out]; omega)]
        have hcx := hc k hlt
        have hT := (hq.rows k (by rw [← HN.out]; exact hlt)).2
        have hT0 := HG.out _ (mem_getDT (L := L) (i := k) (by rw [← HN.out]; exact hlt))
        obtain ⟨x, y, z, ht⟩ : ∃ x y z, L.getD k t0 = (x, y, z) := ⟨_, _, _, rfl⟩
        rw [ht] at hT hT0
        have hP := good_tri hT0
        have hsum : x + y + z = p := by unfold Good at hT0; dsimp only at hT0; omega
        obtain ⟨u0, u1, u2, _, _, _⟩ := three_cells hT
        obtain ⟨gk, hgk⟩ : ∃ g, g = gs.getD k 0 := ⟨_, rfl⟩
        rw [← hgk] at hcx hT u0 u1 u2
        have yc : ∀ d os, (grow (redrawn wr d) os).cell? ⟨g1, k, none⟩ = some (rowV gk) := fun d os => cell_regrown hcx d os
        have y0 : ∀ d os, (grow (redrawn wr d) os).cell? ⟨gk, 0, none⟩ = some (.int .i64 x) := fun d os => cell_regrown u0 d os
        have y1 : ∀ d os, (grow (redrawn wr d) os).cell? ⟨gk, 1, none⟩ = some (.int .i64 y) := fun d os => cell_regrown u1 d os
        have y2 : ∀ d os, (grow (redrawn wr d) os).cell? ⟨gk, 2, none⟩ = some (.int .i64 z) := fun d os => cell_regrown u2 d os
        have cT : ∀ d os, Calls Try.prog 41 #[.slice (some ⟨gk, 0, none⟩) 3 3] (grow (redrawn wr d) os) fun e w'' => e = .returned (.int .i64 p) ∧ ∃ p : Regrown, w'' = grow (redrawn wr p.d) p.os := fun d os => by
          have := total_any (some ⟨gk, 0, none⟩) 3 3 _ _ (hT.rd.same (below_regrown wr d os)) (by omega) (small3 hP)
          rw [show sumL (trip (x, y, z)) = p by rw [← hsum]; simp [sumL, sumTo, trip]] at this
          exact Calls.regrown_of this
        have cS : ∀ d os, Calls Try.prog 49 #[.int .i64 x, .int .i64 y, .int .i64 z] (grow (redrawn wr d) os) fun e w'' => e = .returned (.bool true) ∧ ∃ p : Regrown, w'' = grow (redrawn wr p.d) p.os := fun d os => by
          have := implThree_any x y z (grow (redrawn wr d) os)
          rw [sides3 hP] at this
          exact Calls.regrown_of this
        have n1 : (p != p) = false := by simp
        have n2 : decide (x > y) = false := by have := hP.2.1; simp; omega
        have n3 : decide (y > z) = false := by have := hP.2.2.1; simp; omega
        have HT := Lib.hid hT
        have HC := Lib.hid hc
        have HHT := Lib.hid ht
        have HGK := Lib.hid hgk
        have HQ := Lib.hid hq
        clear hT hc ht hgk hq hP hT0 hsum u0 u1 u2
        go_wp2_with fail
        refine wp_region_quiet_below (by kernel_rfl) (by kernel_rfl) ?_
        repeat (go_big_quiet_step (first | (with_reducible exact cT _ _) | (with_reducible exact cS _ _)))
        refine wpQuiet_nil ?_
        intro _ hw'
        obtain ⟨⟨dq, osq⟩, hw''⟩ := hw'
        subst hw''
        have bq := below_regrown wr dq osq
        generalize Go.Sort.grow (redrawn wr dq) osq = wq at bq ⊢
        clear cT cS y0 y1 y2 yc n1 n2 n3
        go_wp2_with fail
        have hB2 := HB.out.trans (bq.mono HB.out.size)
        have HB2 := Lib.hid hB2
        have HQ2 := Lib.hid (HQ.out.same bq)
        have hcx2 : wq.cell? ⟨g1, k, none⟩ = some (rowV gk) := (bq.cell (p := ⟨g1, k, none⟩) (block_lt_of_cell hcx)).trans hcx
        have hT2 := HT.out.kept (grown_of_below bq) (by simp)
        obtain ⟨u0, u1, u2, _, _, _⟩ := three_cells hT2
        obtain ⟨W1, rfl⟩ : ∃ W1, W1 = wq := ⟨_, rfl⟩
        clear bq hT2 hcx hB2
        rcases Nat.eq_zero_or_pos k with hk0 | hk0
        · subst hk0
          have d0 : decide ((0 : Int) > 0) = false := by decide
          clear hcx2 u0 u1 u2 HC
          refine wp_region_quiet_below (by kernel_rfl) (by kernel_rfl) ?_
          repeat (go_big_quiet_step (fail))
          refine wpQuiet_nil ?_
          intro _ hw'
          obtain ⟨⟨dq, osq⟩, hw''⟩ := hw'
          subst hw''
          have bq := below_regrown W1 dq osq
          generalize Go.Sort.grow (redrawn W1 dq) osq = wq at bq ⊢
          go_wp2_with fail
          go_roundw
          case rel => exact ⟨1, by omega, by go_num, HB2.out.trans (bq.mono HB2.out.size)⟩
          case measure => simp [intOf]; omega
        · obtain ⟨m, rfl⟩ : ∃ m, k = m + 1 := ⟨k - 1, by omega⟩
          have hl3 := pair_getD HP.out (show m < m + 1 by omega) (by rw [← HN.out]; exact hlt)
          rw [HHT.out] at hl3
          have hcp : W1.cell? ⟨g1, m, none⟩ = some (rowV (gs.getD m 0)) := by
            rw [World.ownsRow.cellAt HQ2.out.row m (by omega), map_getD_rowV (by rw [HQ2.out.len, ← HN.out]; omega)]
          have hTp := (HQ2.out.rows m (by rw [← HN.out]; omega)).2
          obtain ⟨x', y', z', ht'⟩ : ∃ x y z, L.getD m t0 = (x, y, z) := ⟨_, _, _, rfl⟩
          rw [ht'] at hTp hl3
          unfold lt3 at hl3
          dsimp only at hl3
          obtain ⟨p0, p1, p2, _, _, _⟩ := three_cells hTp
          obtain ⟨gp, hgp⟩ : ∃ g, g = gs.getD m 0 := ⟨_, rfl⟩
          rw [← hgp] at hcp p0 p1 p2
          have y0 : ∀ d os, (grow (redrawn W1 d) os).cell? ⟨gk, 0, none⟩ = some (.int .i64 x) := fun d os => cell_regrown u0 d os
          have y1 : ∀ d os, (grow (redrawn W1 d) os).cell? ⟨gk, 1, none⟩ = some (.int .i64 y) := fun d os => cell_regrown u1 d os
          have yp : ∀ d os, (grow (redrawn W1 d) os).cell? ⟨g1, m, none⟩ = some (rowV gp) := fun d os => cell_regrown hcp d os
          have q0 : ∀ d os, (grow (redrawn W1 d) os).cell? ⟨gp, 0, none⟩ = some (.int .i64 x') := fun d os => cell_regrown p0 d os
          have q1 : ∀ d os, (grow (redrawn W1 d) os).cell? ⟨gp, 1, none⟩ = some (.int .i64 y') := fun d os => cell_regrown p1 d os
          have d0 : decide ((m : Int) + 1 > 0) = true := decide_eq_true (by omega)
          have v1 : IntKind.i64.wrap ((m : Int) + 1 - 1) = (m : Int) := wrap_is (by omega) (by omega) (by omega)
          have e1 : (m : Int) + 1 - 1 = (m : Int) := by omega
          have g1' : (m : Int) < (n : Int) := by omega
          have g2' : (0 : Int) ≤ (m : Int) := by omega
          have g3' : ((m : Int)).toNat = m := by omega
          have d1 : decide (x < x') = false := by simp; omega
          by_cases hxx : x' < x
          · have d2 : (x == x') = false := by simp; omega
            clear hcx2 u0 u1 u2 p0 p1 p2 hTp hcp hgp ht' HC hl3 hxx
            refine wp_region_quiet_below (by kernel_rfl) (by kernel_rfl) ?_
            repeat (go_big_quiet_step (fail))
            refine wpQuiet_nil ?_
            intro _ hw'
            obtain ⟨⟨dq, osq⟩, hw''⟩ := hw'
            subst hw''
            have bq := below_regrown W1 dq osq
            generalize Go.Sort.grow (redrawn W1 dq) osq = wq at bq ⊢
            go_wp2_with fail
            go_roundw
            case rel => exact ⟨m + 1 + 1, by omega, by go_num, HB2.out.trans (bq.mono HB2.out.size)⟩
            case measure => simp [intOf]; omega
          · have d2 : (x == x') = true := by simp; omega
            have d3 : decide (y ≤ y') = false := by simp; omega
            clear hcx2 u0 u1 u2 p0 p1 p2 hTp hcp hgp ht' HC hl3 hxx
            refine wp_region_quiet_below (by kernel_rfl) (by kernel_rfl) ?_
            repeat (go_big_quiet_step (fail))
            refine wpQuiet_nil ?_
            intro _ hw'
            obtain ⟨⟨dq, osq⟩, hw''⟩ := hw'
            subst hw''
            have bq := below_regrown W1 dq osq
            generalize Go.Sort.grow (redrawn W1 dq) osq = wq at bq ⊢
            go_wp2_with fail
            go_roundw
            case rel => exact ⟨m + 1 + 1, by omega, by go_num, HB2.out.trans (bq.mono HB2.out.size)⟩
            case measure => simp [intOf]; omega
      · go_wp2_with fail
        go_ret
        exact ⟨rfl, b7.trans (HB.out.mono b7.size)⟩
  · rw [Bool.not_eq_true] at hs
    rw [triAllM_no hs] at hI
    simp only [triAllM_no hs] at hS
    rw [hs] at hI hS
    clear hs hlen
    go_wp2_with fail
    refine hI.mono ?_
    rintro e w2 ⟨A, c, rfl, ⟨gs, o2⟩, b2⟩
    go_wp2_with fail
    refine (hS _).mono ?_
    rintro e w3 ⟨A2, c2, rfl, ⟨gs2, o3⟩, b4⟩
    have b5 := below_then (below_then b1 b2) b4
    have o2' := o2.same b4
    clear o2 hI hS
    have hR := fun W h1 h2 => sameRows_same A A2 0 c c2 [] W h1 h2 (by omega)
    have r1 := o2'.rd
    have r2 := o3.rd
    clear o2' o3
    go_wp2_with fail
    refine (hR _ r1 r2).mono ?_
    rintro e w4 ⟨rfl, b6⟩
    go_wp2_with fail
    refine (hR _ (r1.same b6) (r2.same b6)).mono ?_
    rintro e w5 ⟨rfl, b8⟩
    go_wp2_with fail
    go_ret
    exact ⟨rfl, below_then (below_then b5 b6) b8⟩
end Go.Proofs.Ytcfmnjkgebopcaa
