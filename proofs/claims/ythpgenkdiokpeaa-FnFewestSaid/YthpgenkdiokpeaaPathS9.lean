/- The model's test whether a path is convex. -/
import Derived.Test.YthpgenkdiokpeaaPathS8
namespace Go.Proofs.Ythpgenkdiokpeaa
open Go.RowKit Go.Sort Go.Lib

theorem convB_no {l : List Pt} {i : Nat} (hi : i < l.length) (h : okB (atP l i) (nxt l i) = false) : convB l = false := by
  cases hc : convB l with
  | false => rfl
  | true =>
    unfold convB at hc
    rw [Bool.and_eq_true] at hc
    rw [turnsB_iff.1 hc.1 i hi] at h
    cases h
theorem convB_all {l : List Pt} (h : ∀ i, i < l.length → okB (atP l i) (nxt l i) = true) : convB l = decide (wrapsN l = 1) := by
  unfold convB
  rw [turnsB_iff.2 h, Bool.true_and]

set_option maxRecDepth 100000 in
set_option maxHeartbeats 8000000 in
theorem l6sConvex_any (A : Option Addr) (n c : Nat) (L : List (List Int)) (w : World) (h : RdM w A n L) (hp : pathB L = true) :
    Calls Try.prog 117 #[.slice A n c] w fun e w' => e = .returned (.bool (convB (ptsL L))) ∧ Below w.heap.size w w' := by
  obtain ⟨hP, hst⟩ := pathB_true hp
  have hlL := h.1
  have hl : (ptsL L).length = n := by simp [h.1]
  have hn8 : n ≤ 8 := by have := hP.hi; omega
  have hn3 : 3 ≤ n := by have := hP.lo; omega
  have HS := Lib.hid (show ∀ i, i < n → stepRow (rowL L i) = true from fun i hi => hst i (by omega))
  obtain ⟨F, eF⟩ : ∃ F : Nat → Bool, F = fun i => wrapB (atP (ptsL L) i) (nxt (ptsL L) i) := ⟨_, rfl⟩
  obtain ⟨O, eO⟩ : ∃ O : Nat → Bool, O = fun i => okB (atP (ptsL L) i) (nxt (ptsL L) i) := ⟨_, rfl⟩
  obtain ⟨cv, ecv⟩ : ∃ cv, cv = convB (ptsL L) := ⟨_, rfl⟩
  rw [← ecv]
  have HNo := Lib.hid (show ∀ k, k < n → O k = false → cv = false from fun k hk ho => by rw [ecv]; exact convB_no (i := k) (by omega) (by rw [eO] at ho; exact ho))
  have HAll := Lib.hid (show (∀ k, k < n → O k = true) → cv = decide (numN F n = 1) from fun ho => by
    rw [ecv, eF, ← hl]
    exact convB_all fun i hi => by have := ho i (by omega); rw [eO] at this; exact this)
  have HF := Lib.hid (show ∀ k, k < n → F k = wrapB (rowPt (rowL L k)) (rowPt (rowL L ((k + 1) % n))) from fun k hk => by
    rw [eF]; show wrapB (atP (ptsL L) k) (atP (ptsL L) ((k + 1) % (ptsL L).length)) = _; rw [hl, ptsL_at (i := k) (by omega), ptsL_at (i := (k + 1) % n) (by rw [hlL]; exact Nat.mod_lt _ (by omega))])
  have HO := Lib.hid (show ∀ k, k < n → O k = !(decide (crs (rowPt (rowL L k)) (rowPt (rowL L ((k + 1) % n))) < 0) || (decide (crs (rowPt (rowL L k)) (rowPt (rowL L ((k + 1) % n))) = 0) && decide (dotP (rowPt (rowL L k)) (rowPt (rowL L ((k + 1) % n))) < 0))) from fun k hk => by
    have hm : (k + 1) % n < n := Nat.mod_lt _ (by omega)
    rw [eO]
    show okB (atP (ptsL L) k) (atP (ptsL L) ((k + 1) % (ptsL L).length)) = _
    rw [okB_spec (ptn hP (by omega)) (ptn hP (Nat.mod_lt _ (by omega))), hl, ptsL_at (i := k) (by omega), ptsL_at (i := (k + 1) % n) (by omega)])
  clear hp hst hP hl eF eO ecv hlL
  go_enter Try.func117, Try.ntmps117
  go_wp2_with fail
  go_loopw [3, 4, 5, 6, 7] (fun v i _ _ _ wr => ∃ k : Nat, k ≤ n ∧ i = .int .i64 k ∧ v = .int .i64 ((numN F k : Nat) : Int) ∧ (∀ j, j < k → O j = true) ∧ Below w.heap.size w wr) (fun _ i _ _ _ _ => n - (intOf i).toNat)
  case atStart => exact ⟨0, Nat.zero_le _, rfl, rfl, fun j hj => absurd hj (by omega), Below.refl _ _⟩
  case round =>
    obtain ⟨k, hk, rfl, rfl, hok, hb⟩ := hrel
    by_cases hlt : k < n
    · have hm : (k + 1) % n < n := Nat.mod_lt _ (by omega)
      obtain ⟨b, off, rfl, hbl, hc⟩ := h.2 (by omega)
      obtain ⟨A1, c1, x1, r1⟩ := hc k hlt
      obtain ⟨A2, c2, x2, r2⟩ := hc ((k + 1) % n) hm
      have s1 := stepRow_pt (HS.out k hlt)
      have s2 := stepRow_pt (HS.out _ hm)
      rw [s1.2] at x1 r1
      rw [s2.2] at x2 r2
      replace r1 := r1.same hb
      replace r2 := r2.same hb
      replace x1 := (hb.cell (p := ⟨b, off + k, none⟩) hbl).trans x1
      replace x2 := (hb.cell (p := ⟨b, off + (k + 1) % n, none⟩) hbl).trans x2
      have p1 : -9 ≤ (rowL L k).getD 0 0 ∧ (rowL L k).getD 0 0 ≤ 9 := s1.1.1
      have p2 : -9 ≤ (rowL L k).getD 1 0 ∧ (rowL L k).getD 1 0 ≤ 9 := s1.1.2.1
      have p3 : -9 ≤ (rowL L ((k + 1) % n)).getD 0 0 ∧ (rowL L ((k + 1) % n)).getD 0 0 ≤ 9 := s2.1.1
      have p4 : -9 ≤ (rowL L ((k + 1) % n)).getD 1 0 ∧ (rowL L ((k + 1) % n)).getD 1 0 ≤ 9 := s2.1.2.1
      have hF := HF.out k hlt
      have hO := HO.out k hlt
      have t1 : Int.tmod ((k : Int) + 1) (n : Int) = (((k + 1) % n : Nat) : Int) := rfl
      have d0 : ((n : Int) == 0) = false := by simp; omega
      have v2 : IntKind.i64.wrap ((k : Int) + 1) = (k : Int) + 1 := wrap_is rfl (by omega) (by omega)
      generalize rowL L k = ra at *
      generalize rowL L ((k + 1) % n) = rb at *
      have hbd : ∀ a b : Int, (a = ra.getD 0 0 ∨ a = ra.getD 1 0) → (b = rb.getD 0 0 ∨ b = rb.getD 1 0) → -81 ≤ a * b ∧ a * b ≤ 81 := fun a b ha hb => by
        have := mul_sq (a := a) (b := b) (A := 9) (B := 9) (by rcases ha with rfl | rfl <;> omega) (by rcases ha with rfl | rfl <;> omega) (by rcases hb with rfl | rfl <;> omega) (by rcases hb with rfl | rfl <;> omega)
        omega
      have HC := Lib.hid (fun W (hW : Below wr.heap.size wr W) => l6sCross_any A1 A2 c1 c2 ra rb W (r1.same hW) (r2.same hW) (fun a b ha hb => by have := hbd a b ha hb; omega))
      have HBe := Lib.hid (fun (hz : 0 ≤ crs (rowPt ra) (rowPt rb)) W (hW : Below wr.heap.size wr W) => l6sBefore_any A2 A1 c2 c1 rb ra W (r2.same hW) (r1.same hW) (fun a b ha hb => by rw [Int.mul_comm]; have := hbd b a hb ha; omega) hz)
      rw [← hF] at HBe
      obtain ⟨ba, oa, rfl, hba, hca⟩ := r1.2 (by omega)
      obtain ⟨bb, ob, rfl, hbb, hcb⟩ := r2.2 (by omega)
      have ca0 := hca 0 (by omega)
      have ca1 := hca 1 (by omega)
      have cb0 := hcb 0 (by omega)
      have cb1 := hcb 1 (by omega)
      rw [Nat.add_zero] at ca0 cb0
      have m1 := hbd _ _ (.inl rfl) (.inl rfl)
      have m2 := hbd _ _ (.inr rfl) (.inr rfl)
      have hdot : dotP (rowPt ra) (rowPt rb) = ra.getD 0 0 * rb.getD 0 0 + ra.getD 1 0 * rb.getD 1 0 := rfl
      have HCA := Lib.hid hba
      have HCB := Lib.hid hbb
      have HOK := Lib.hid hok
      have HB := Lib.hid hb
      have HM := Lib.hid hm
      generalize ra.getD 0 0 = ax at *
      generalize ra.getD 1 0 = ay at *
      generalize rb.getD 0 0 = bx at *
      generalize rb.getD 1 0 = by_ at *
      generalize crs (rowPt ra) (rowPt rb) = z at *
      rw [hdot] at hO
      have v3 : IntKind.i64.wrap (ax * bx) = ax * bx := wrap_is rfl (by omega) (by omega)
      have v4 : IntKind.i64.wrap (ay * by_) = ay * by_ := wrap_is rfl (by omega) (by omega)
      have v5 : IntKind.i64.wrap (ax * bx + ay * by_) = ax * bx + ay * by_ := wrap_is rfl (by omega) (by omega)
      have HSn := Lib.hid (show numN F (k + 1) = numN F k + (if F k then 1 else 0) from rfl)
      have hnk := numN_le F k
      have v6 : IntKind.i64.wrap (((numN F k : Nat) : Int) + 1) = ((numN F k : Nat) : Int) + 1 := wrap_is rfl (by omega) (by omega)
      have g1 : (k : Int) < (n : Int) := by omega
      have g2 : (0 : Int) ≤ (k : Int) := by omega
      have g3 : ((k : Int)).toNat = k := by omega
      generalize (k + 1) % n = m at *
      have g4 : (m : Int) < (n : Int) := by omega
      have g5 : (0 : Int) ≤ (m : Int) := by omega
      have g6 : ((m : Int)).toNat = m := by omega
      have HO' := Lib.hid hO
      clear hc h r1 r2 hF hbd hca hcb p1 p2 p3 p4 s1 s2 hm hb hok hba hbb hO hdot m1 m2
      go_wp2_with fail
      with_reducible refine (HC.out _ (Below.refl _ _)).mono ?_
      rintro e w2 ⟨rfl, b2⟩
      replace ca0 := (b2.cell (p := ⟨ba, oa, none⟩) HCA.out).trans ca0
      replace ca1 := (b2.cell (p := ⟨ba, oa + 1, none⟩) HCA.out).trans ca1
      replace cb0 := (b2.cell (p := ⟨bb, ob, none⟩) HCB.out).trans cb0
      replace cb1 := (b2.cell (p := ⟨bb, ob + 1, none⟩) HCB.out).trans cb1
      by_cases hz : z < 0
      · have HR := Lib.hid (HNo.out k hlt (by rw [HO'.out, decide_eq_true hz]; rfl))
        have e1 : decide (z < 0) = true := decide_eq_true hz
        clear hz
        go_wp2_with fail
        go_quiet (fail)
        go_wp2_with fail
        go_ret
        exact ⟨ret_b HR.out.symm, HB.out.trans ((below_drewN b2 _).mono HB.out.size)⟩
      · have e1 : decide (z < 0) = false := decide_eq_false hz
        by_cases hz0 : z = 0
        · subst hz0
          by_cases hd : ax * bx + ay * by_ < 0
          · have HR := Lib.hid (HNo.out k hlt (by rw [HO'.out, decide_eq_true hd]; rfl))
            have e2 : decide (ax * bx + ay * by_ < 0) = true := decide_eq_true hd
            clear hz hd e1
            go_wp2_with fail
            go_quiet (fail)
            go_wp2_with fail
            go_ret
            exact ⟨ret_b HR.out.symm, HB.out.trans ((below_drewN b2 _).mono HB.out.size)⟩
          · have e2 : decide (ax * bx + ay * by_ < 0) = false := decide_eq_false hd
            have HOn := Lib.hid (show O k = true by rw [HO'.out, e2]; rfl)
            replace HBe := Lib.hid (HBe.out (Int.le_refl _))
            clear hz hd e1
            go_wp2_with fail
            go_quiet (fail)
            go_wp2_with fail
            with_reducible refine (HBe.out _ (below_drewN b2 _)).mono ?_
            rintro e w4 ⟨rfl, b4⟩
            replace b4 := below_then (below_drewN b2 _) b4
            have HOk := Lib.hid (show ∀ j, j < k + 1 → O j = true from fun j hj => by
              by_cases e : j = k
              · rw [e]; exact HOn.out
              · exact HOK.out j (by omega))
            cases hf : F k with
            | true =>
              have HS1 := Lib.hid (show numN F (k + 1) = numN F k + 1 by rw [HSn.out, hf]; rfl)
              clear hf
              go_wp2_with fail
              go_roundw
              case rel => exact ⟨k + 1, by omega, by go_num, by rw [HS1.out]; rfl, HOk.out, HB.out.trans (b4.mono HB.out.size)⟩
              case measure => simp [intOf]; omega
            | false =>
              have HS1 := Lib.hid (show numN F (k + 1) = numN F k by rw [HSn.out, hf]; rfl)
              clear hf
              go_wp2_with fail
              go_roundw
              case rel => exact ⟨k + 1, by omega, by go_num, by rw [HS1.out], HOk.out, HB.out.trans (b4.mono HB.out.size)⟩
              case measure => simp [intOf]; omega
        · have e2 : (z == 0) = false := by simpa using hz0
          have HOn := Lib.hid (show O k = true by rw [HO'.out, e1, decide_eq_false hz0]; rfl)
          replace HBe := Lib.hid (HBe.out (by omega))
          clear hz hz0
          go_wp2_with fail
          go_quiet (fail)
          go_wp2_with fail
          with_reducible refine (HBe.out _ (below_drewN b2 _)).mono ?_
          rintro e w4 ⟨rfl, b4⟩
          replace b4 := below_then (below_drewN b2 _) b4
          have HOk := Lib.hid (show ∀ j, j < k + 1 → O j = true from fun j hj => by
            by_cases e : j = k
            · rw [e]; exact HOn.out
            · exact HOK.out j (by omega))
          cases hf : F k with
          | true =>
            have HS1 := Lib.hid (show numN F (k + 1) = numN F k + 1 by rw [HSn.out, hf]; rfl)
            clear hf
            go_wp2_with fail
            go_roundw
            case rel => exact ⟨k + 1, by omega, by go_num, by rw [HS1.out]; rfl, HOk.out, HB.out.trans (b4.mono HB.out.size)⟩
            case measure => simp [intOf]; omega
          | false =>
            have HS1 := Lib.hid (show numN F (k + 1) = numN F k by rw [HSn.out, hf]; rfl)
            clear hf
            go_wp2_with fail
            go_roundw
            case rel => exact ⟨k + 1, by omega, by go_num, by rw [HS1.out], HOk.out, HB.out.trans (b4.mono HB.out.size)⟩
            case measure => simp [intOf]; omega
    · obtain rfl : k = n := by omega
      have HR := Lib.hid (HAll.out hok)
      have d1 : (((numN F k : Nat) : Int) == 1) = decide (numN F k = 1) := by rw [Bool.eq_iff_iff]; simp; omega
      generalize numN F k = q at *
      clear h hok
      go_wp2_with fail
      go_ret
      exact ⟨ret_b HR.out.symm, hb⟩

set_option maxRecDepth 100000 in
set_option maxHeartbeats 2000000 in
theorem specPathConvex_any (A : Option Addr) (n c : Nat) (L : List (List Int)) (w : World) (h : RdM w A n L) (hs : SmallM L) :
    Calls Try.prog 50 #[.slice A n c] w fun e w' => e = .returned (.bool (pathB L && convB (ptsL L))) ∧ Below w.heap.size w w' := by
  have hI := specPathIn_any A n c L w h hs
  cases hp : pathB L with
  | true =>
    have hA := fun W (hW : Below w.heap.size w W) => l6sConvex_any A n c L W (h.same hW) hp
    rw [hp] at hI
    rw [Bool.true_and]
    generalize convB (ptsL L) = cv at *
    clear h hs hp
    go_enter Try.func50, Try.ntmps50
    go_wp2_with fail
    refine hI.mono ?_
    rintro e w1 ⟨rfl, b1⟩
    go_wp2_with fail
    refine (hA _ b1).mono ?_
    rintro e w2 ⟨rfl, b2⟩
    go_wp2_with fail
    go_ret
    exact ⟨rfl, below_then b1 b2⟩
  | false =>
    rw [hp] at hI
    clear h hs hp
    go_enter Try.func50, Try.ntmps50
    go_wp2_with fail
    refine hI.mono ?_
    rintro e w1 ⟨rfl, b1⟩
    go_wp2_with fail
    go_ret
    exact ⟨rfl, b1⟩
end Go.Proofs.Ythpgenkdiokpeaa
