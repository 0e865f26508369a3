/- The model's divisors and rims; areas, rims, corners of lists. -/
import Derived.Test.YtkjhkcnmhakfcaaPathS3
namespace Go.Proofs.Ytkjhkcnmhakfcaa
open Go.RowKit Go.Sort Go.Lib

set_option maxRecDepth 100000 in
set_option maxHeartbeats 2000000 in
theorem l6sDivisor_any (x y : Int) (w : World) (h1 : -1000000 ≤ x ∧ x ≤ 1000000) (h2 : -1000000 ≤ y ∧ y ≤ 1000000) :
    Calls Try.prog 130 #[.int .i64 x, .int .i64 y] w fun e w' => e = .returned (.int .i64 (gcdP (x, y))) ∧ Below w.heap.size w w' := by
  have v1 : IntKind.i64.wrap (-x) = -x := wrap_is rfl (by omega) (by omega)
  have v2 : IntKind.i64.wrap (-y) = -y := wrap_is rfl (by omega) (by omega)
  have v3 : IntKind.i64.wrap (0 - x) = -x := wrap_is (by omega) (by omega) (by omega)
  have v4 : IntKind.i64.wrap (0 - y) = -y := wrap_is (by omega) (by omega) (by omega)
  have HX := Lib.hid h1
  have HY := Lib.hid h2
  have HG := Lib.hid (show gcdP (x, y) = ((Nat.gcd x.natAbs y.natAbs : Nat) : Int) from rfl)
  generalize gcdP (x, y) = z at *
  clear h1 h2
  go_enter Try.func130, Try.ntmps130
  go_wp2_with fail
  all_goals
    go_loopw [0, 1, 5] (fun a b _ wr => ∃ A B : Nat, a = .int .i64 A ∧ b = .int .i64 B ∧ Nat.gcd A B = Nat.gcd x.natAbs y.natAbs ∧ A ≤ 1000000 ∧ B ≤ 1000000 ∧ Below w.heap.size w wr) (fun _ b _ _ => (intOf b).toNat)
    case atStart =>
      have hx := HX.out
      have hy := HY.out
      exact ⟨x.natAbs, y.natAbs, by congr 1; omega, by congr 1; omega, rfl, by omega, by omega, Below.refl _ _⟩
    case round =>
      obtain ⟨A, B, rfl, rfl, hg, hA, hB, hb⟩ := hrel
      have HH := Lib.hid hg
      clear hg
      by_cases h0 : B = 0
      · subst h0
        go_wp2_with fail
        go_ret
        have e := HH.out
        rw [Nat.gcd_zero_right] at e
        exact ⟨ret_i (by rw [HG.out, e]), hb⟩
      · have d1 : decide ((B : Int) > 0) = true := by simp; omega
        have d2 : ((B : Int) == 0) = false := by simp; omega
        have d3 : Int.tmod (A : Int) (B : Int) = ((A % B : Nat) : Int) := rfl
        have hlt : A % B < B := Nat.mod_lt _ (by omega)
        have HS := Lib.hid ((gcd_step A B).trans HH.out)
        have HL := Lib.hid hlt
        generalize A % B = C at *
        have v3 : IntKind.i64.wrap (C : Int) = (C : Int) := wrap_is rfl (by omega) (by omega)
        clear hlt
        go_wp2_with fail
        go_roundw
        case rel => first | exact ⟨B, C, rfl, rfl, HS.out, hB, by have := HL.out; omega, hb⟩ | ((repeat apply Exists.intro); exact ⟨⟨B, C, rfl, rfl, HS.out, hB, by have := HL.out; omega, hb⟩, rfl⟩)
        case measure => have := HL.out; simp [intOf]; omega

set_option maxRecDepth 100000 in
set_option maxHeartbeats 4000000 in
theorem l6sRim_any (A : Option Addr) (n c : Nat) (L : List (List Int)) (w : World) (h : RdM w A n L) (hp : pathB L = true) :
    Calls Try.prog 94 #[.slice A n c] w fun e w' => e = .returned (.int .i64 (rimP (ptsL L))) ∧ Below w.heap.size w w' := by
  obtain ⟨hP, hst⟩ := pathB_true hp
  have hlL := h.1
  have hl : (ptsL L).length = n := by simp [h.1]
  have hn8 : n ≤ 8 := by have := hP.hi; omega
  have HS := Lib.hid (show ∀ i, i < n → stepRow (rowL L i) = true from fun i hi => hst i (by omega))
  obtain ⟨F, eF⟩ : ∃ F : Nat → Int, F = fun i => gcdP (atP (ptsL L) i) := ⟨_, rfl⟩
  have hA : rimP (ptsL L) = sumF F n := by rw [eF, ← hl]; rfl
  rw [hA]
  have HBd := Lib.hid (show ∀ k, k ≤ n → 0 ≤ sumF F k ∧ sumF F k ≤ 72 from fun k hk => by rw [eF]; exact hP.rim_bd (by omega))
  have HF := Lib.hid (show ∀ k, k < n → F k = gcdP (rowPt (rowL L k)) from fun k hk => by rw [eF]; show gcdP (atP (ptsL L) k) = _; rw [ptsL_at (by omega)])
  clear hp hst hA hP hl eF
  go_enter Try.func94, Try.ntmps94
  go_wp2_with fail
  go_loopw [3, 4] (fun v i wr => ∃ k : Nat, k ≤ n ∧ i = .int .i64 k ∧ v = .int .i64 (sumF F k) ∧ Below w.heap.size w wr) (fun _ i _ => n - (intOf i).toNat)
  case atStart => exact ⟨0, Nat.zero_le _, rfl, rfl, Below.refl _ _⟩
  case round =>
    obtain ⟨k, hk, rfl, rfl, hb⟩ := hrel
    by_cases hlt : k < n
    · obtain ⟨b, off, rfl, hbl, hc⟩ := h.2 (by omega)
      obtain ⟨A1, c1, x1, r1⟩ := hc k hlt
      have hr2 := (stepRow_pt (HS.out k hlt))
      rw [hr2.2] at x1 r1
      obtain ⟨b1, off1, rfl, hbl1, hc1⟩ := r1.2 (by omega)
      have p1 : -9 ≤ (rowL L k).getD 0 0 ∧ (rowL L k).getD 0 0 ≤ 9 := hr2.1.1
      have p2 : -9 ≤ (rowL L k).getD 1 0 ∧ (rowL L k).getD 1 0 ≤ 9 := hr2.1.2.1
      have hF : F k = gcdP ((rowL L k).getD 0 0, (rowL L k).getD 1 0) := HF.out k hlt
      have k0 := (hb.cell (p := ⟨b, off + k, none⟩) hbl).trans x1
      have k1 := (hb.cell (p := ⟨b1, off1 + 0, none⟩) hbl1).trans (hc1 0 (by omega))
      have k2 := (hb.cell (p := ⟨b1, off1 + 1, none⟩) hbl1).trans (hc1 1 (by omega))
      rw [Nat.add_zero] at k1
      generalize (rowL L k).getD 0 0 = px at *
      generalize (rowL L k).getD 1 0 = py at *
      have cE : ∀ d os, Calls Try.prog 130 #[.int .i64 px, .int .i64 py] (grow (redrawn wr d) os) fun e w'' => e = .returned (.int .i64 (F k)) ∧ ∃ p : Regrown, w'' = grow (redrawn wr p.d) p.os := fun d os =>
        Calls.regrown_of (by rw [hF]; exact l6sDivisor_any px py _ (by omega) (by omega))
      have y0 := cell_regrown k0
      have y1 := cell_regrown k1
      have y2 := cell_regrown k2
      have b1' := HBd.out k (by omega)
      have b2' := HBd.out (k + 1) (by omega)
      have HSn := Lib.hid (show sumF F (k + 1) = sumF F k + F k from rfl)
      rw [HSn.out] at b2'
      have v1 : IntKind.i64.wrap (sumF F k + F k) = sumF F k + F k := wrap_is rfl (by omega) (by omega)
      have HB := Lib.hid hb
      have g1 : (k : Int) < (n : Int) := by omega
      have g2 : (0 : Int) ≤ (k : Int) := by omega
      have g3 : ((k : Int)).toNat = k := by omega
      generalize F k = fk at *
      clear hc h x1 r1 hc1 hr2 p1 p2 hF k0 k1 k2 hb b1' b2'
      go_wp2_with fail
      refine wp_region_quiet_below (by kernel_rfl) (by kernel_rfl) ?_
      repeat (go_big_quiet_step (with_reducible exact cE _ _))
      refine wpQuiet_nil ?_
      intro _ hw'
      obtain ⟨⟨dq, osq⟩, hw''⟩ := hw'
      subst hw''
      have bq := below_regrown wr dq osq
      generalize Go.Sort.grow (redrawn wr dq) osq = wq at bq ⊢
      go_wp2_with fail
      go_roundw
      case rel => exact ⟨k + 1, by omega, by go_num, by rw [HSn.out], HB.out.trans (bq.mono HB.out.size)⟩
      case measure => simp [intOf]; omega
    · obtain rfl : k = n := by omega
      clear h
      go_wp2_with fail
      go_ret
      exact ⟨rfl, hb⟩

/-- What is told of a path, or 0. -/
noncomputable def ifP (L : List (List Int)) (f : List Pt → Int) : Int := if pathB L then f (ptsL L) else 0
theorem ifP_yes {L : List (List Int)} (f : List Pt → Int) (h : pathB L = true) : ifP L f = f (ptsL L) := by unfold ifP; rw [if_pos h]
theorem ifP_no {L : List (List Int)} (f : List Pt → Int) (h : pathB L = false) : ifP L f = 0 := by unfold ifP; rw [h]; rfl
/-- The rows that are told of a path, or none. -/
noncomputable def ifR (L : List (List Int)) (f : List Pt → List (List Int)) : List (List Int) := if pathB L then f (ptsL L) else []
theorem ifR_yes {L : List (List Int)} (f : List Pt → List (List Int)) (h : pathB L = true) : ifR L f = f (ptsL L) := by unfold ifR; rw [if_pos h]
theorem ifR_no {L : List (List Int)} (f : List Pt → List (List Int)) (h : pathB L = false) : ifR L f = [] := by unfold ifR; rw [h]; rfl
theorem ret_ib3 {x y : Int} {a b : Bool} (h1 : x = y) (h : a = b) : Ending.returned (.tuple #[.int .i64 x, .bool a]) = .returned (.tuple #[.int .i64 y, .bool b]) := by rw [h, h1]
theorem ret_sb3 {A : Option Addr} {n c m : Nat} {a b : Bool} (h1 : n = m) (h : a = b) : Ending.returned (.tuple #[.slice A n c, .bool a]) = .returned (.tuple #[.slice A m c, .bool b]) := by rw [h, h1]

theorem specPathArea_any (A : Option Addr) (n c : Nat) (L : List (List Int)) (w : World) (h : RdM w A n L) (hs : SmallM L) :
    Calls Try.prog 33 #[.slice A n c] w fun e w' => e = .returned (.tuple #[.int .i64 (ifP L areaP), .bool (pathB L)]) ∧ Below w.heap.size w w' := by
  have hI := specPathIn_any A n c L w h hs
  cases hp : pathB L with
  | true =>
    rw [ifP_yes areaP hp]
    have hA := fun W (hW : Below w.heap.size w W) => l6sArea_any A n c L W (h.same hW) hp
    rw [hp] at hI
    clear h hs hp
    go_enter Try.func33, Try.ntmps33
    go_wp2_with fail
    refine hI.mono ?_
    rintro e w1 ⟨rfl, b1⟩
    go_wp2_with fail
    refine (hA _ b1).mono ?_
    rintro e w2 ⟨rfl, b2⟩
    go_wp2_with fail
    refine bodyPost_ret (results_tmp2 rfl _ _ _) rfl ?_
    exact ⟨rfl, below_then b1 b2⟩
  | false =>
    rw [ifP_no areaP hp]
    rw [hp] at hI
    clear h hs hp
    go_enter Try.func33, Try.ntmps33
    go_wp2_with fail
    refine hI.mono ?_
    rintro e w1 ⟨rfl, b1⟩
    go_wp2_with fail
    refine bodyPost_ret (results_tmp2 rfl _ _ _) rfl ?_
    exact ⟨rfl, b1⟩

theorem specPathRim_any (A : Option Addr) (n c : Nat) (L : List (List Int)) (w : World) (h : RdM w A n L) (hs : SmallM L) :
    Calls Try.prog 45 #[.slice A n c] w fun e w' => e = .returned (.tuple #[.int .i64 (ifP L rimP), .bool (pathB L)]) ∧ Below w.heap.size w w' := by
  have hI := specPathIn_any A n c L w h hs
  cases hp : pathB L with
  | true =>
    rw [ifP_yes rimP hp]
    have hA := fun W (hW : Below w.heap.size w W) => l6sRim_any A n c L W (h.same hW) hp
    rw [hp] at hI
    clear h hs hp
    go_enter Try.func45, Try.ntmps45
    go_wp2_with fail
    refine hI.mono ?_
    rintro e w1 ⟨rfl, b1⟩
    go_wp2_with fail
    refine (hA _ b1).mono ?_
    rintro e w2 ⟨rfl, b2⟩
    go_wp2_with fail
    refine bodyPost_ret (results_tmp2 rfl _ _ _) rfl ?_
    exact ⟨rfl, below_then b1 b2⟩
  | false =>
    rw [ifP_no rimP hp]
    rw [hp] at hI
    clear h hs hp
    go_enter Try.func45, Try.ntmps45
    go_wp2_with fail
    refine hI.mono ?_
    rintro e w1 ⟨rfl, b1⟩
    go_wp2_with fail
    refine bodyPost_ret (results_tmp2 rfl _ _ _) rfl ?_
    exact ⟨rfl, b1⟩

theorem specPathCorners_any (A : Option Addr) (n c : Nat) (L : List (List Int)) (w : World) (h : RdM w A n L) (hs : SmallM L) :
    Calls Try.prog 29 #[.slice A n c] w fun e w' => (∃ (A' : Option Addr) (n' c' : Nat), e = .returned (.tuple #[.slice A' n' c', .bool (pathB L)]) ∧ RdM w' A' n' (ifR L fun l => rowsOf (corL l))) ∧ Below w.heap.size w w' := by
  have hI := specPathIn_any A n c L w h hs
  cases hp : pathB L with
  | true =>
    rw [ifR_yes _ hp]
    have hA := fun W (hW : Below w.heap.size w W) => l6sCorners_any A n c L W (h.same hW) hp
    rw [hp] at hI
    clear h hs hp
    go_enter Try.func29, Try.ntmps29
    go_wp2_with fail
    refine hI.mono ?_
    rintro e w1 ⟨rfl, b1⟩
    go_wp2_with fail
    refine (hA _ b1).mono ?_
    rintro e w2 ⟨A', c', rfl, ⟨gs, ho⟩, b2⟩
    have HO := Lib.hid ho
    clear ho
    go_wp2_with fail
    refine bodyPost_ret (results_tmp2 rfl _ _ _) rfl ?_
    exact ⟨⟨A', n, c', rfl, HO.out.rd⟩, below_then b1 b2⟩
  | false =>
    rw [ifR_no _ hp]
    rw [hp] at hI
    clear h hs hp
    go_enter Try.func29, Try.ntmps29
    go_wp2_with fail
    refine hI.mono ?_
    rintro e w1 ⟨rfl, b1⟩
    go_wp2_with fail
    refine bodyPost_ret (results_tmp2 rfl _ _ _) rfl ?_
    exact ⟨⟨_, 0, 0, rfl, RdM.nil_ _ _⟩, below_alloc b1 _⟩
end Go.Proofs.Ytkjhkcnmhakfcaa
