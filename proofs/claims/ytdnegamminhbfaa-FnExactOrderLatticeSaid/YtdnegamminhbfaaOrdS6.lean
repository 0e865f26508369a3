/- The model's number of orders. -/
import Derived.Test.YtdnegamminhbfaaOrdI9
import Derived.Test.YtdnegamminhbfaaPathS
namespace Go.Proofs.Ytdnegamminhbfaa
open Go.RowKit Go.Sort Go.Lib

theorem count_take {l : List Pt} {k : Nat} (x : Pt) (h : k < l.length) : (l.take (k + 1)).count x = (l.take k).count x + (if atP l k = x then 1 else 0) := by
  rw [List.take_succ_eq_append_getElem h, List.count_append, ← atP_lt h]
  congr 1
  by_cases e : atP l k = x
  · rw [if_pos e, e]; simp
  · rw [if_neg e]
    exact List.count_eq_zero.2 (by simpa using fun e2 => e e2.symm)
theorem tdiv_nat (a b : Nat) : Int.tdiv (a : Int) (b : Int) = ((a / b : Nat) : Int) := rfl

set_option maxRecDepth 100000 in
set_option maxHeartbeats 8000000 in
theorem specOrderLattice_any (A : Option Addr) (n c : Nat) (L : List (List Int)) (w : World) (h : RdM w A n L) (hs : SmallM L) :
    Calls Try.prog 33 #[.slice A n c] w fun e w' => e = .returned (.tuple #[.int .i64 (ifM L latP), .bool (pmB L 6)]) ∧ Below w.heap.size w w' := by
  have hI := specPathIn_any A n c L w h hs
  have HL := Lib.hid h.1
  cases hp : pathB L with
  | false =>
    have e1 : pmB L 6 = false := by unfold pmB; rw [hp]; rfl
    rw [e1, ifM_no _ e1]
    rw [hp] at hI
    clear h hs hp e1
    go_enter Try.func33, Try.ntmps33
    go_wp2_with fail
    refine hI.mono ?_
    rintro e w1 ⟨rfl, b1⟩
    go_wp2_with fail
    refine bodyPost_ret (results_tmp2 rfl _ _ _) rfl ?_
    exact ⟨rfl, b1⟩
  | true =>
    rw [hp] at hI
    by_cases h6 : n ≤ 6
    · have e1 : pmB L 6 = true := by unfold pmB; rw [hp, HL.out]; simpa using h6
      rw [e1, ifM_yes _ e1]
      have hst := (pathB_true hp).2
      rw [HL.out] at hst
      have HR := Lib.hid h
      have HST := Lib.hid (fun i (hi : i < n) => (show (rowL L i).length = 2 ∧ (rowL L i).getD 0 0 = (atP (ptsL L) i).1 ∧ (rowL L i).getD 1 0 = (atP (ptsL L) i).2 from by
        have h1 : atP (ptsL L) i = rowPt (rowL L i) := ptsL_at (by rw [HL.out]; exact hi)
        exact ⟨(stepRow_pt (hst i hi)).2, by rw [h1], by rw [h1]⟩))
      have HPL := Lib.hid (show (ptsL L).length = n by simp [HL.out])
      have hfc : ∀ i, i ≤ n → nD i ((ptsL L).take i) ≤ 720 := fun i hi => Nat.le_trans (nD_fac i _ (by simp [HL.out]; omega)) (fac6 (by omega))
      have hps : ∀ i, i ≤ n → 0 < nD i ((ptsL L).take i) := fun i hi => nD_pos i _ (by simp [HL.out]; omega)
      have HFC := Lib.hid hfc
      generalize ptsL L = l at *
      obtain ⟨z, ez⟩ : ∃ z, z = latP l := ⟨_, rfl⟩
      rw [← ez]
      have EZ := Lib.hid (show z = ((nD n (l.take n) : Nat) : Int) by rw [ez]; unfold latP; rw [HPL.out, List.take_of_length_le (by rw [HPL.out]; exact Nat.le_refl _)])
      have d6 : decide ((n : Int) > 6) = false := by simp; omega
      have H6 := Lib.hid h6
      clear h hs hp e1 hst hfc hps ez h6
      go_enter Try.func33, Try.ntmps33
      go_wp2_with fail
      refine hI.mono ?_
      rintro e w1 ⟨rfl, b1⟩
      have B1 := Lib.hid b1
      clear b1
      go_wp2_with fail
      go_loopw [4, 5, 6, 7] (fun s i _ _ wr => ∃ i' : Nat, i' ≤ n ∧ i = .int .i64 i' ∧ s = .int .i64 ((nD i' (l.take i') : Nat) : Int) ∧ Below w.heap.size w wr) (fun _ i _ _ _ => n - (intOf i).toNat)
      case atStart => exact ⟨0, Nat.zero_le _, rfl, rfl, B1.out⟩
      case round =>
        obtain ⟨i, hi, rfl, rfl, hb⟩ := hrel
        by_cases hlt : i < n
        · have HB := Lib.hid hb
          have hil : i < l.length := by rw [HPL.out]; exact hlt
          have HDV := Lib.hid (nD_div hil)
          have hN := HFC.out i hi
          have HCP := Lib.hid (show 0 < (l.take (i + 1)).count (atP l i) from List.count_pos_iff.2 (by
            rw [atP_lt hil, List.take_succ_eq_append_getElem hil]; exact List.mem_append_right _ (List.mem_singleton.2 rfl)))
          have HCL := Lib.hid (fun k (hk : k ≤ i + 1) => (show (l.take k).count (atP l i) ≤ 6 from Nat.le_trans List.count_le_length (by simp; have := H6.out; omega)))
          generalize nD i (l.take i) = N at *
          clear hb hil
          go_wp2_with fail
          go_loopw [6, 7] (fun s k wr => ∃ k' : Nat, k' ≤ i + 1 ∧ k = .int .i64 k' ∧ s = .int .i64 (((l.take k').count (atP l i) : Nat) : Int) ∧ Below w.heap.size w wr) (fun _ k _ => i + 1 - (intOf k).toNat)
          case atStart => exact ⟨0, Nat.zero_le _, rfl, by simp, HB.out⟩
          case round =>
            obtain ⟨k, hk, rfl, rfl, hb⟩ := hrel
            by_cases hki : k ≤ i
            · obtain ⟨b, off, rfl, hbl, hc⟩ := HR.out.2 (by omega)
              obtain ⟨A1, c1, x1, r1⟩ := hc k (by omega)
              obtain ⟨A2, c2, x2, r2⟩ := hc i hlt
              obtain ⟨l1, p0, p1⟩ := HST.out k (by omega)
              obtain ⟨l2, p2, p3⟩ := HST.out i hlt
              rw [l1] at x1 r1
              rw [l2] at x2 r2
              obtain ⟨b1, off1, rfl, hbl1, hc1⟩ := r1.2 (by omega)
              obtain ⟨b2, off2, rfl, hbl2, hc2⟩ := r2.2 (by omega)
              have m0 := (hb.cell (p := ⟨b, off + k, none⟩) hbl).trans x1
              have m1 := (hb.cell (p := ⟨b, off + i, none⟩) hbl).trans x2
              have m2 := (hb.cell (p := ⟨b1, off1 + 0, none⟩) hbl1).trans (hc1 0 (by omega))
              have m3 := (hb.cell (p := ⟨b1, off1 + 1, none⟩) hbl1).trans (hc1 1 (by omega))
              have m4 := (hb.cell (p := ⟨b2, off2 + 0, none⟩) hbl2).trans (hc2 0 (by omega))
              have m5 := (hb.cell (p := ⟨b2, off2 + 1, none⟩) hbl2).trans (hc2 1 (by omega))
              rw [Nat.add_zero, p0] at m2
              rw [p1] at m3
              rw [Nat.add_zero, p2] at m4
              rw [p3] at m5
              have HCT := Lib.hid (count_take (l := l) (k := k) (atP l i) (by rw [HPL.out]; omega))
              have hcl := HCL.out k hk
              have HEQ := Lib.hid (show (atP l k = atP l i) ↔ ((atP l k).1 = (atP l i).1 ∧ (atP l k).2 = (atP l i).2) from Prod.ext_iff)
              have y0 : ∀ d os, (grow (redrawn wr d) os).cell? ⟨b, off + k, none⟩ = some (.slice (some ⟨b1, off1, none⟩) 2 c1) := fun d os => cell_regrown m0 d os
              have y1 : ∀ d os, (grow (redrawn wr d) os).cell? ⟨b, off + i, none⟩ = some (.slice (some ⟨b2, off2, none⟩) 2 c2) := fun d os => cell_regrown m1 d os
              have y2 : ∀ d os, (grow (redrawn wr d) os).cell? ⟨b1, off1, none⟩ = some (.int .i64 (atP l k).1) := fun d os => cell_regrown m2 d os
              have y3 : ∀ d os, (grow (redrawn wr d) os).cell? ⟨b1, off1 + 1, none⟩ = some (.int .i64 (atP l k).2) := fun d os => cell_regrown m3 d os
              have y4 : ∀ d os, (grow (redrawn wr d) os).cell? ⟨b2, off2, none⟩ = some (.int .i64 (atP l i).1) := fun d os => cell_regrown m4 d os
              have y5 : ∀ d os, (grow (redrawn wr d) os).cell? ⟨b2, off2 + 1, none⟩ = some (.int .i64 (atP l i).2) := fun d os => cell_regrown m5 d os
              generalize (atP l k).1 = ax at *
              generalize (atP l k).2 = ay at *
              obtain ⟨bx, ebx⟩ : ∃ bx, bx = (atP l i).1 := ⟨_, rfl⟩
              obtain ⟨b_y, eby⟩ : ∃ b_y, b_y = (atP l i).2 := ⟨_, rfl⟩
              rw [← ebx] at y4 HEQ
              rw [← eby] at y5 HEQ
              obtain ⟨C, eC⟩ : ∃ C, C = (l.take k).count (atP l i) := ⟨_, rfl⟩
              rw [← eC] at hcl HCT ⊢
              have HB2 := Lib.hid hb
              have v1 : IntKind.i64.wrap ((C : Int) + 1) = (C : Int) + 1 := wrap_is rfl (by omega) (by omega)
              have dk : decide (k ≤ i) = true := by simpa using hki
              have vk : IntKind.i64.wrap ((k : Int) + 1) = (k : Int) + 1 := wrap_is rfl (by omega) (by have := H6.out; omega)
              have HKI := Lib.hid (show k + 1 ≤ i + 1 from by omega)
              clear hc x1 r1 x2 r2 l1 p0 p1 l2 p2 p3 hc1 hc2 m0 m1 m2 m3 m4 m5 ebx eby eC hb
              by_cases e1 : ax = bx
              · by_cases e2 : ay = b_y
                · have HC2 := Lib.hid (HCT.out.trans (by rw [if_pos (HEQ.out.2 ⟨e1, e2⟩)]))
                  have d1 : (ax == bx) = true := by simpa using e1
                  have d2 : (ay == b_y) = true := by simpa using e2
                  clear e1 e2
                  go_wp2_with fail
                  refine wp_region_quiet_below (by kernel_rfl) (by kernel_rfl) ?_
                  repeat (go_big_quiet_step (fail))
                  refine wpQuiet_nil ?_
                  intro _ hw'
                  obtain ⟨⟨dq, osq⟩, hw''⟩ := hw'
                  subst hw''
                  have bq := below_regrown wr dq osq
                  generalize Go.Sort.grow (redrawn wr dq) osq = wq at bq ⊢
                  go_wp2_with fail
                  go_roundw
                  case rel => exact ⟨k + 1, HKI.out, by go_num, by rw [HC2.out]; go_num, HB2.out.trans (bq.mono HB2.out.size)⟩
                  case measure => have := HKI.out; simp [intOf]; omega
                · have HC2 := Lib.hid (HCT.out.trans (by rw [if_neg (fun h => e2 (HEQ.out.1 h).2), Nat.add_zero]))
                  have d1 : (ax == bx) = true := by simpa using e1
                  have d2 : (ay == b_y) = false := by simpa using e2
                  clear e1 e2
                  go_wp2_with fail
                  refine wp_region_quiet_below (by kernel_rfl) (by kernel_rfl) ?_
                  repeat (go_big_quiet_step (fail))
                  refine wpQuiet_nil ?_
                  intro _ hw'
                  obtain ⟨⟨dq, osq⟩, hw''⟩ := hw'
                  subst hw''
                  have bq := below_regrown wr dq osq
                  generalize Go.Sort.grow (redrawn wr dq) osq = wq at bq ⊢
                  go_wp2_with fail
                  go_roundw
                  case rel => exact ⟨k + 1, HKI.out, by go_num, by rw [HC2.out], HB2.out.trans (bq.mono HB2.out.size)⟩
                  case measure => have := HKI.out; simp [intOf]; omega
              · have HC2 := Lib.hid (HCT.out.trans (by rw [if_neg (fun h => e1 (HEQ.out.1 h).1), Nat.add_zero]))
                have d1 : (ax == bx) = false := by simpa using e1
                clear e1
                go_wp2_with fail
                refine wp_region_quiet_below (by kernel_rfl) (by kernel_rfl) ?_
                repeat (go_big_quiet_step (fail))
                refine wpQuiet_nil ?_
                intro _ hw'
                obtain ⟨⟨dq, osq⟩, hw''⟩ := hw'
                subst hw''
                have bq := below_regrown wr dq osq
                generalize Go.Sort.grow (redrawn wr dq) osq = wq at bq ⊢
                go_wp2_with fail
                go_roundw
                case rel => exact ⟨k + 1, HKI.out, by go_num, by rw [HC2.out], HB2.out.trans (bq.mono HB2.out.size)⟩
                case measure => have := HKI.out; simp [intOf]; omega
            · obtain rfl : k = i + 1 := by omega
              have hcp := HCP.out
              have hcl := HCL.out (i + 1) (Nat.le_refl _)
              have hdv := HDV.out
              have h6' := H6.out
              obtain ⟨S, eS⟩ : ∃ S, S = (l.take (i + 1)).count (atP l i) := ⟨_, rfl⟩
              rw [← eS] at hcp hcl hdv ⊢
              obtain ⟨M, eM⟩ : ∃ M, M = N * (i + 1) := ⟨_, rfl⟩
              have hM : M ≤ 5040 := by rw [eM]; exact Nat.mul_le_mul hN (show i + 1 ≤ 7 by omega)
              rw [← eM] at hdv
              have v1 : IntKind.i64.wrap ((i : Int) + 1) = (i : Int) + 1 := wrap_is rfl (by omega) (by omega)
              have hMe : (N : Int) * ((i : Int) + 1) = (M : Int) := by rw [eM]; simp
              have v2 : IntKind.i64.wrap ((N : Int) * ((i : Int) + 1)) = (M : Int) := by rw [hMe]; exact wrap_is rfl (by omega) (by omega)
              have hq : Int.tdiv (M : Int) (S : Int) = ((M / S : Nat) : Int) := tdiv_nat M S
              have hle : M / S ≤ M := Nat.div_le_self _ _
              have v3 : IntKind.i64.wrap ((M / S : Nat) : Int) = ((M / S : Nat) : Int) := wrap_is rfl (by omega) (by omega)
              have d0 : ((S : Int) == 0) = false := by simp; omega
              have dk : decide (i + 1 ≤ i) = false := by simp
              have dk2 : decide ((i : Int) + 1 ≤ i) = false := by simp; omega
              have HDV2 := Lib.hid hdv
              clear hdv eS eM hMe
              generalize M / S = R at *
              go_wp2_with fail
              go_roundw
              case rel => exact ⟨i + 1, by omega, by go_num, by rw [HDV2.out], hb⟩
              case measure => simp [intOf]; omega
        · obtain rfl : i = n := by omega
          rw [← EZ.out]
          go_wp2_with fail
          refine bodyPost_ret (results_tmp2 rfl _ _ _) rfl ?_
          exact ⟨rfl, hb⟩
    · have e1 : pmB L 6 = false := by unfold pmB; rw [hp, HL.out]; simpa using h6
      rw [e1, ifM_no _ e1]
      have d6 : decide ((n : Int) > 6) = true := by simp; omega
      clear h hs hp e1
      go_enter Try.func33, Try.ntmps33
      go_wp2_with fail
      refine hI.mono ?_
      rintro e w1 ⟨rfl, b1⟩
      go_wp2_with fail
      refine bodyPost_ret (results_tmp2 rfl _ _ _) rfl ?_
      exact ⟨rfl, b1⟩
end Go.Proofs.Ytdnegamminhbfaa
