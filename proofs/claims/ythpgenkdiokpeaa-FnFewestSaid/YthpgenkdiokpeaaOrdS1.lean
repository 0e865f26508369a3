/- The model's runs: l7Run, l7Places, OrderRun, OrderGain. -/
import Derived.Test.YthpgenkdiokpeaaOrdI2
import Derived.Test.YthpgenkdiokpeaaPathS5
namespace Go.Proofs.Ythpgenkdiokpeaa
open Go.RowKit Go.Sort Go.Lib

set_option maxRecDepth 100000 in
set_option maxHeartbeats 2000000 in
theorem l7Places_any (A : Option Addr) (n c : Nat) (L : List (List Int)) (f t : Int) (w : World) (h : RdM w A n L) (hs : SmallM L) :
    Calls Try.prog 135 #[.slice A n c, .int .i64 f, .int .i64 t] w fun e w' => e = .returned (.bool (plB L f t)) ∧ Below w.heap.size w w' := by
  have hI := specPathIn_any A n c L w h hs
  have HL := Lib.hid h.1
  cases hp : pathB L with
  | false =>
    have HP := Lib.hid (show plB L f t = false by unfold plB; rw [hp]; rfl)
    rw [HP.out]
    rw [hp] at hI
    clear h hs hp
    go_enter Try.func135, Try.ntmps135
    go_wp2_with fail
    refine hI.mono ?_
    rintro e w1 ⟨rfl, b1⟩
    go_wp2_with fail
    go_ret
    exact ⟨rfl, b1⟩
  | true =>
    have hn := pathB_len hp
    rw [HL.out] at hn
    rw [hp] at hI
    have HP := Lib.hid (show plB L f t = (inB f 0 ((n : Int) - 1) && inB t f ((n : Int) - 1)) by
      unfold plB inB; rw [hp, HL.out, Bool.true_and, Bool.eq_iff_iff]
      simp only [Bool.and_eq_true, decide_eq_true_eq]; omega)
    rw [HP.out]
    have v0 : IntKind.i64.wrap ((n : Int) - 1) = (n : Int) - 1 := wrap_is rfl (by omega) (by omega)
    clear h hs hp hn
    cases h1 : inB f 0 ((n : Int) - 1) with
    | false =>
      have H1 := Lib.hid h1
      clear h1
      go_enter Try.func135, Try.ntmps135
      go_wp2_with fail
      refine hI.mono ?_
      rintro e w1 ⟨rfl, b1⟩
      go_wp2_with (go_at_call 100; refine (l6In_is H1.out _).mono ?_; rintro e w' ⟨rfl, rfl⟩)
      go_ret
      exact ⟨rfl, b1⟩
    | true =>
      have H1 := Lib.hid h1
      clear h1
      go_enter Try.func135, Try.ntmps135
      go_wp2_with fail
      refine hI.mono ?_
      rintro e w1 ⟨rfl, b1⟩
      go_wp2_with fail
      refine (l6In_is H1.out _).mono ?_
      rintro e w' ⟨rfl, rfl⟩
      go_wp2_with fail
      refine (l6In_any _ _ _ _).mono ?_
      rintro e w' ⟨rfl, rfl⟩
      go_wp2_with fail
      go_ret
      exact ⟨rfl, b1⟩

set_option maxRecDepth 100000 in
set_option maxHeartbeats 4000000 in
theorem l7Run_any (A : Option Addr) (n c a b : Nat) (L : List (List Int)) (w : World) (h : RdM w A n L) (hn8 : n ≤ 1000) (hst : ∀ i, i < n → stepRow (rowL L i) = true) (hab : a ≤ b) (hbn : b < n) :
    Calls Try.prog 136 #[.slice A n c, .int .i64 a, .int .i64 b] w fun e w' => ∃ A' c' gs, e = .returned (.slice A' n c') ∧ OwnM w' w.heap.size A' n c' gs (rowsOf (runP (ptsL L) a b)) ∧ Below w.heap.size w w' := by
  have H0 := Lib.hid (OwnM.empty w (B := w.heap.size) (Nat.le_refl _))
  have B0 := Lib.hid (below_alloc (Below.refl w.heap.size w) (.cells #[] 31))
  have HL := Lib.hid h.1
  have HR := Lib.hid h
  have HST := Lib.hid hst
  have hE : runP (ptsL L) a b = (List.range n).map (fun j => rowPt (rowL L (if a ≤ j ∧ j ≤ b then a + b - j else j))) := by
    have hpl : (ptsL L).length = n := by simp [HL.out]
    refine ext_atP (by rw [runP_len _ hab, hpl]; simp) fun i hi => ?_
    rw [runP_len _ hab, hpl] at hi
    rw [runP_at hab (by omega)]
    have e : atP ((List.range n).map (fun j => rowPt (rowL L (if a ≤ j ∧ j ≤ b then a + b - j else j)))) i = rowPt (rowL L (if a ≤ i ∧ i ≤ b then a + b - i else i)) := by
      rw [atP_lt (by simp; exact hi)]; simp
    rw [e]
    by_cases hin : a ≤ i ∧ i ≤ b
    · rw [if_pos hin, if_pos hin, ptsL_at (by rw [HL.out]; omega)]
    · rw [if_neg hin, if_neg hin, ptsL_at (by rw [HL.out]; omega)]
  rw [hE]
  obtain ⟨T, eT⟩ : ∃ T : Nat → Nat, T = fun j => if a ≤ j ∧ j ≤ b then a + b - j else j := ⟨_, rfl⟩
  have hT : ∀ j, j < n → T j < n := fun j hj => by rw [eT]; dsimp only; split <;> omega
  have hT1 : ∀ j, a ≤ j → j ≤ b → T j = a + b - j := fun j h1 h2 => by rw [eT]; exact if_pos ⟨h1, h2⟩
  have hT2 : ∀ j, ¬ (a ≤ j ∧ j ≤ b) → T j = j := fun j h1 => by rw [eT]; exact if_neg h1
  have e3 : (fun j => rowPt (rowL L (if a ≤ j ∧ j ≤ b then a + b - j else j))) = fun j => rowPt (rowL L (T j)) := by rw [eT]
  rw [e3]
  have HT := Lib.hid (And.intro hT (And.intro hT1 hT2))
  clear h hst hE eT hT hT1 hT2 e3
  go_enter Try.func136, Try.ntmps136
  go_wp2_with fail
  go_loopw [7, 8, 9] (fun out i _ wr => ∃ (k : Nat) (A' : Option Addr) (c' : Nat) (gs : List Nat), k ≤ n ∧ i = .int .i64 k ∧ out = .slice A' k c' ∧ OwnM wr w.heap.size A' k c' gs (rowsOf ((List.range k).map fun j => rowPt (rowL L (T j)))) ∧ Below w.heap.size w wr) (fun _ i _ _ => n - (intOf i).toNat)
  case atStart => exact ⟨0, _, 0, [], Nat.zero_le _, rfl, rfl, H0.out, B0.out⟩
  case round =>
    obtain ⟨k, A', c', gs, hk, rfl, rfl, ho, hb⟩ := hrel
    by_cases hlt : k < n
    · obtain ⟨bb, off, rfl, hbl, hc⟩ := HR.out.2 (by omega)
      have hm : T k < n := HT.out.1 k hlt
      obtain ⟨A1, c1, x1, r1⟩ := hc _ hm
      obtain ⟨A3, c3, x3, r3⟩ := hc _ hlt
      have hr2 := (stepRow_pt (HST.out _ hm))
      rw [hr2.2] at x1 r1
      obtain ⟨b1, off1, rfl, hbl1, hc1⟩ := r1.2 (by omega)
      have HO := Lib.hid (show rowsOf ((List.range (k + 1)).map fun j => rowPt (rowL L (T j))) = rowsOf ((List.range k).map fun j => rowPt (rowL L (T j))) ++ [[(rowL L (T k)).getD 0 0, (rowL L (T k)).getD 1 0]] from rowsOf_succ (f := fun j => rowPt (rowL L (T j))) k)
      have k0 := (hb.cell (p := ⟨bb, off + T k, none⟩) hbl).trans x1
      have k3 := (hb.cell (p := ⟨bb, off + k, none⟩) hbl).trans x3
      have k1 := (hb.cell (p := ⟨b1, off1 + 0, none⟩) hbl1).trans (hc1 0 (by omega))
      have k2 := (hb.cell (p := ⟨b1, off1 + 1, none⟩) hbl1).trans (hc1 1 (by omega))
      rw [Nat.add_zero] at k1
      generalize (rowL L k).length = m3 at *
      generalize (rowL L (T k)).getD 0 0 = px at *
      generalize (rowL L (T k)).getD 1 0 = py at *
      have HB := Lib.hid hb
      have HOW := Lib.hid ho
      have g1 : (0 : Int) ≤ (k : Int) := by omega
      have g3 : ((k : Int)).toNat = k := by omega
      clear hc x1 r1 x3 r3 hc1 hr2 hb ho
      by_cases q1 : a ≤ k
      · by_cases q2 : k ≤ b
        · have d1 : decide (a ≤ k) = true := by simpa using q1
          have d2 : decide (k ≤ b) = true := by simpa using q2
          have v1 : IntKind.i64.wrap ((a : Int) + (b : Int)) = (a : Int) + (b : Int) := wrap_is rfl (by omega) (by omega)
          have v2 : IntKind.i64.wrap ((a : Int) + (b : Int) - (k : Int)) = ((T k : Nat) : Int) := wrap_is (by rw [HT.out.2.1 k q1 q2]; omega) (by omega) (by omega)
          generalize T k = tk at *
          have g4 : (tk : Int) < (n : Int) := by omega
          have g5 : (0 : Int) ≤ (tk : Int) := by omega
          have g6 : ((tk : Int)).toNat = tk := by omega
          go_wp2_with fail
          go_region_law (refine step_appRowM wr px py rfl (.tmp 37) (.tmp 45) rfl rfl rfl HOW.out rfl ⟨rfl, rfl, rfl⟩ (by omega) HB.out.size ?_; intro A5 c5 W5 o5 b5; have HO5 := Lib.hid o5; have HB5 := Lib.hid (HB.out.trans b5); clear o5 b5)
          all_goals
            go_wp2_with fail
            go_roundw
            case rel =>
              first
                | exact ⟨k + 1, A5, c5, _, by omega, by go_num, rfl, by rw [HO.out]; exact HO5.out, HB5.out⟩
                | ((repeat apply Exists.intro); exact ⟨⟨k + 1, A5, c5, _, by omega, by go_num, rfl, by rw [HO.out]; exact HO5.out, HB5.out⟩, rfl⟩)
            case measure => simp [intOf]; omega
        · have hk3 := HT.out.2.2 k (by omega)
          rw [hk3] at k0
          have d1 : decide (a ≤ k) = true := by simpa using q1
          have d2 : decide (k ≤ b) = false := by simpa using q2
          clear k3
          go_wp2_with fail
          go_region_law (refine step_appRowM wr px py rfl (.tmp 37) (.tmp 45) rfl rfl rfl HOW.out rfl ⟨rfl, rfl, rfl⟩ (by omega) HB.out.size ?_; intro A5 c5 W5 o5 b5; have HO5 := Lib.hid o5; have HB5 := Lib.hid (HB.out.trans b5); clear o5 b5)
          all_goals
            go_wp2_with fail
            go_roundw
            case rel =>
              first
                | exact ⟨k + 1, A5, c5, _, by omega, by go_num, rfl, by rw [HO.out]; exact HO5.out, HB5.out⟩
                | ((repeat apply Exists.intro); exact ⟨⟨k + 1, A5, c5, _, by omega, by go_num, rfl, by rw [HO.out]; exact HO5.out, HB5.out⟩, rfl⟩)
            case measure => simp [intOf]; omega
      · have hk3 := HT.out.2.2 k (by omega)
        rw [hk3] at k0
        have d1 : decide (a ≤ k) = false := by simpa using q1
        clear k3
        go_wp2_with fail
        go_region_law (refine step_appRowM wr px py rfl (.tmp 37) (.tmp 45) rfl rfl rfl HOW.out rfl ⟨rfl, rfl, rfl⟩ (by omega) HB.out.size ?_; intro A5 c5 W5 o5 b5; have HO5 := Lib.hid o5; have HB5 := Lib.hid (HB.out.trans b5); clear o5 b5)
        all_goals
          go_wp2_with fail
          go_roundw
          case rel =>
            first
              | exact ⟨k + 1, A5, c5, _, by omega, by go_num, rfl, by rw [HO.out]; exact HO5.out, HB5.out⟩
              | ((repeat apply Exists.intro); exact ⟨⟨k + 1, A5, c5, _, by omega, by go_num, rfl, by rw [HO.out]; exact HO5.out, HB5.out⟩, rfl⟩)
          case measure => simp [intOf]; omega
    · obtain rfl : k = n := by omega
      go_wp2_with fail
      go_ret
      exact ⟨A', c', gs, rfl, ho, hb⟩

theorem plB_st {L : List (List Int)} {f t : Int} (h : plB L f t = true) : ∀ i, i < L.length → stepRow (rowL L i) = true := (pathB_true (plB_true h).1).2

set_option maxRecDepth 100000 in
set_option maxHeartbeats 2000000 in
theorem specOrderRun_any (A : Option Addr) (n c : Nat) (L : List (List Int)) (f t : Int) (w : World) (h : RdM w A n L) (hs : SmallM L) :
    Calls Try.prog 70 #[.slice A n c, .int .i64 f, .int .i64 t] w fun e w' => (∃ (A' : Option Addr) (n' c' : Nat), e = .returned (.tuple #[.slice A' n' c', .bool (plB L f t)]) ∧ RdM w' A' n' (plR L f t)) ∧ Below w.heap.size w w' := by
  have hI := l7Places_any A n c L f t w h hs
  have HL := Lib.hid h.1
  cases hp : plB L f t with
  | false =>
    rw [plR_no hp]
    rw [hp] at hI
    clear h hs hp
    go_enter Try.func70, Try.ntmps70
    go_wp2_with fail
    refine hI.mono ?_
    rintro e w1 ⟨rfl, b1⟩
    go_wp2_with fail
    refine bodyPost_ret (results_tmp2 rfl _ _ _) rfl ?_
    exact ⟨⟨_, 0, 0, rfl, RdM.nil_ _ _⟩, below_alloc b1 _⟩
  | true =>
    rw [plR_yes hp]
    rw [hp] at hI
    have hst := plB_st hp
    obtain ⟨hq, a, b, rfl, rfl, hab, hbl⟩ := plB_true hp
    rw [HL.out] at hst hbl
    rw [Int.toNat_natCast, Int.toNat_natCast]
    have HRn := Lib.hid (fun W (hW : Below w.heap.size w W) => l7Run_any A n c a b L W (h.same hW) (by have := (pathB_len hq).2; rw [HL.out] at this; omega) hst hab hbl)
    clear h hs hp hst hq hab hbl
    go_enter Try.func70, Try.ntmps70
    go_wp2_with fail
    refine hI.mono ?_
    rintro e w1 ⟨rfl, b1⟩
    go_wp2_with fail
    refine (HRn.out _ b1).mono ?_
    rintro e w2 ⟨A2, c2, gs, rfl, o2, b2⟩
    have HO := Lib.hid o2.rd
    clear o2
    go_wp2_with fail
    refine bodyPost_ret (results_tmp2 rfl _ _ _) rfl ?_
    exact ⟨⟨_, _, _, rfl, HO.out⟩, below_then b1 b2⟩

set_option maxRecDepth 100000 in
set_option maxHeartbeats 2000000 in
theorem specOrderGain_any (A : Option Addr) (n c : Nat) (L : List (List Int)) (f t : Int) (w : World) (h : RdM w A n L) (hs : SmallM L) :
    Calls Try.prog 73 #[.slice A n c, .int .i64 f, .int .i64 t] w fun e w' => e = .returned (.tuple #[.int .i64 (plG L f t), .bool (plB L f t)]) ∧ Below w.heap.size w w' := by
  have hI := l7Places_any A n c L f t w h hs
  have HL := Lib.hid h.1
  cases hp : plB L f t with
  | false =>
    rw [plG_no hp]
    rw [hp] at hI
    clear h hs hp
    go_enter Try.func73, Try.ntmps73
    go_wp2_with fail
    refine hI.mono ?_
    rintro e w1 ⟨rfl, b1⟩
    go_wp2_with fail
    refine bodyPost_ret (results_tmp2 rfl _ _ _) rfl ?_
    exact ⟨rfl, b1⟩
  | true =>
    rw [plG_yes hp]
    rw [hp] at hI
    have hst := plB_st hp
    obtain ⟨hq, a, b, rfl, rfl, hab, hbl⟩ := plB_true hp
    rw [HL.out] at hst hbl
    rw [Int.toNat_natCast, Int.toNat_natCast]
    have HRn := Lib.hid (fun W (hW : Below w.heap.size w W) => l7Run_any A n c a b L W (h.same hW) (by have := (pathB_len hq).2; rw [HL.out] at this; omega) hst hab hbl)
    obtain ⟨hP, _⟩ := pathB_true hq
    have hP2 : IsPath (runP (ptsL L) a b) := hP.perm (runP_perm _ hab)
    have HA := Lib.hid (fun W A' n' c' (hr : RdM W A' n' (rowsOf (runP (ptsL L) a b))) => l6sArea_any A' n' c' _ W hr (pathB_rows hP2))
    have HA2 := Lib.hid (fun W (hW : Below w.heap.size w W) => l6sArea_any A n c L W (h.same hW) hq)
    have bd1 := areaP_part_bd hP (Nat.le_refl _)
    have bd2 := areaP_part_bd hP2 (Nat.le_refl _)
    have v1 : IntKind.i64.wrap (areaP (runP (ptsL L) a b) - areaP (ptsL L)) = areaP (runP (ptsL L) a b) - areaP (ptsL L) := wrap_is rfl (by unfold areaP; omega) (by unfold areaP; omega)
    rw [ptsL_rows] at HA
    generalize areaP (ptsL L) = z2 at *
    have HV := Lib.hid v1
    clear h hs hp hst hq hab hbl hP hP2 bd1 bd2 v1
    generalize areaP (runP (ptsL L) a b) = z1 at *
    have v1 := HV.out
    go_enter Try.func73, Try.ntmps73
    go_wp2_with fail
    refine hI.mono ?_
    rintro e w1 ⟨rfl, b1⟩
    go_wp2_with fail
    with_reducible refine (HRn.out _ b1).mono ?_
    rintro e w2 ⟨A2, c2, gs, rfl, o2, b2⟩
    have HO := Lib.hid o2.rd
    have b3 := below_then b1 b2
    clear o2 b1 b2
    go_wp2_with fail
    with_reducible refine (HA.out _ _ _ _ HO.out).mono ?_
    rintro e w3 ⟨rfl, b4⟩
    have b5 := below_then b3 b4
    clear b3 b4
    go_wp2_with fail
    with_reducible refine (HA2.out _ b5).mono ?_
    rintro e w4 ⟨rfl, b6⟩
    go_wp2_with fail
    refine bodyPost_ret (results_tmp2 rfl _ _ _) rfl ?_
    exact ⟨rfl, below_then b5 b6⟩
end Go.Proofs.Ythpgenkdiokpeaa
