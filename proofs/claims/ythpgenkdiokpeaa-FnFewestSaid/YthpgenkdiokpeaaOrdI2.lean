/- The program's runs: OrderRun, OrderGain. -/
import Derived.Test.YthpgenkdiokpeaaOrdI1
import Derived.Test.YthpgenkdiokpeaaE6a
import Derived.Test.YthpgenkdiokpeaaPathI2
namespace Go.Proofs.Ythpgenkdiokpeaa
open Go.RowKit Go.Sort Go.Lib

/-- A path of at most a number of steps. -/
def pmB (L : List (List Int)) (mo : Nat) : Bool := pathB L && decide (L.length ≤ mo)
theorem pmB_true {L : List (List Int)} {mo : Nat} (h : pmB L mo = true) : pathB L = true ∧ L.length ≤ mo := by simpa [pmB] using h
theorem pathB_stepsB {L : List (List Int)} (h : pathB L = true) : stepsB L = true := by rw [pathB_steps] at h; simp only [Bool.and_eq_true] at h; exact h.1.1
theorem pathB_len {L : List (List Int)} (h : pathB L = true) : 3 ≤ L.length ∧ L.length ≤ 8 := by
  have := (pathB_true h).1
  exact ⟨by have := this.lo; simpa using this, by have := this.hi; simpa using this⟩
theorem ptsL_rows (l : List Pt) : ptsL (rowsOf l) = l := by
  simp only [ptsL, rowsOf, List.map_map]
  conv => rhs; rw [← List.map_id l]
  exact List.map_congr_left fun p _ => rfl
theorem stepRow_of {p : Pt} (h : stepP p) : stepRow (ptRow p) = true := by
  obtain ⟨h1, h2, h3⟩ := h
  have h4 : ¬ (p.1 = 0 ∧ p.2 = 0) := fun e => h3 (Prod.ext e.1 e.2)
  simp only [stepRow, ptRow, List.getD_eq_getElem?_getD, List.length_cons, List.length_nil, List.getElem?_cons_zero, List.getElem?_cons_succ, Option.getD_some]
  simp only [decide_eq_true h1.1, decide_eq_true h1.2, decide_eq_true h2.1, decide_eq_true h2.2, Bool.and_self]
  by_cases e : p.1 = 0
  · have : p.2 ≠ 0 := fun e2 => h4 ⟨e, e2⟩
    simp [e, this]
  · simp [e]
theorem stepsB_rows {l : List Pt} (h : ∀ s ∈ l, stepP s) : stepsB (rowsOf l) = true := List.all_eq_true.2 fun r hr => by
  obtain ⟨p, hp, rfl⟩ := List.mem_map.1 hr
  exact stepRow_of (h p hp)
theorem pathB_rows {l : List Pt} (h : IsPath l) : pathB (rowsOf l) = true := by
  rw [pathB_steps, stepsB_rows h.steps, rowsOf_len, decide_eq_true h.lo, decide_eq_true h.hi, ptsL_rows, decide_eq_true h.closed]; rfl

set_option maxRecDepth 100000 in
set_option maxHeartbeats 2000000 in
theorem pathSteps_any (A : Option Addr) (n c mo : Nat) (L : List (List Int)) (w : World) (h : RdM w A n L) (hs : SmallM L) (_hmo : mo ≤ 1000) :
    Calls Try.prog 124 #[.slice A n c, .int .i64 mo] w fun e w' => (∃ A' m c', e = .returned (.tuple #[.slice A' m c', .bool (pmB L mo)]) ∧ (pmB L mo = true → m = n ∧ OwnV w' w.heap.size A' m c' (ptsL L))) ∧ Below w.heap.size w w' := by
  have hI := pathIn_any A n c L w h hs
  have HL := Lib.hid h.1
  cases hp : pathB L with
  | false =>
    have HP := Lib.hid (show pmB L mo = false by unfold pmB; rw [hp]; rfl)
    rw [HP.out]
    rw [hp] at hI
    clear h hs hp
    go_enter Try.func124, Try.ntmps124
    go_wp2_with fail
    refine hI.mono ?_
    rintro e w1 ⟨rfl, b1⟩
    go_wp2_with fail
    refine bodyPost_ret (results_tmp2 rfl _ _ _) rfl ?_
    exact ⟨⟨_, _, _, rfl, fun e => by cases e⟩, b1⟩
  | true =>
    rw [hp] at hI
    have HS := Lib.hid (pathB_stepsB hp)
    have HN := Lib.hid (pathB_len hp)
    by_cases hm : n ≤ mo
    · have HP := Lib.hid (show pmB L mo = true by unfold pmB; rw [hp, HL.out]; simpa using hm)
      rw [HP.out]
      have d1 : decide (mo < n) = false := by simp; omega
      have HT := Lib.hid (fun W (hW : Below w.heap.size w W) => stepsOf_any A n c L W (h.same hW) hs (by have := HN.out; rw [HL.out] at this; omega))
      clear h hs hp hm
      go_enter Try.func124, Try.ntmps124
      go_wp2_with fail
      refine hI.mono ?_
      rintro e w1 ⟨rfl, b1⟩
      go_wp2_with fail
      refine (HT.out _ b1).mono ?_
      rintro e w2 ⟨⟨A2, m, c2, rfl, hv⟩, b2⟩
      obtain ⟨rfl, ho⟩ := hv HS.out
      have HO := Lib.hid (ho.lower b1.size)
      have HB := Lib.hid (below_then b1 b2)
      rw [HS.out]
      clear hv ho b1 b2
      go_wp2_with fail
      refine bodyPost_ret (results_tmp2 rfl _ _ _) rfl ?_
      exact ⟨⟨_, _, _, rfl, fun _ => ⟨rfl, HO.out⟩⟩, HB.out⟩
    · have HP := Lib.hid (show pmB L mo = false by unfold pmB; rw [hp, HL.out]; simpa using hm)
      rw [HP.out]
      have d1 : decide (mo < n) = true := by simp; omega
      clear h hs hp hm
      go_enter Try.func124, Try.ntmps124
      go_wp2_with fail
      refine hI.mono ?_
      rintro e w1 ⟨rfl, b1⟩
      go_wp2_with fail
      refine bodyPost_ret (results_tmp2 rfl _ _ _) rfl ?_
      exact ⟨⟨_, _, _, rfl, fun e => by cases e⟩, b1⟩

/-- Whether there are a path and a run. -/
def plB (L : List (List Int)) (f t : Int) : Bool := pathB L && (decide (0 ≤ f) && decide (f < L.length)) && (decide (f ≤ t) && decide (t < L.length))
def plR (L : List (List Int)) (f t : Int) : List (List Int) := if plB L f t then rowsOf (runP (ptsL L) f.toNat t.toNat) else []
def plG (L : List (List Int)) (f t : Int) : Int := if plB L f t then areaP (runP (ptsL L) f.toNat t.toNat) - areaP (ptsL L) else 0
theorem plR_yes {L : List (List Int)} {f t : Int} (h : plB L f t = true) : plR L f t = rowsOf (runP (ptsL L) f.toNat t.toNat) := by unfold plR; rw [if_pos h]
theorem plR_no {L : List (List Int)} {f t : Int} (h : plB L f t = false) : plR L f t = [] := by unfold plR; rw [h]; rfl
theorem plG_yes {L : List (List Int)} {f t : Int} (h : plB L f t = true) : plG L f t = areaP (runP (ptsL L) f.toNat t.toNat) - areaP (ptsL L) := by unfold plG; rw [if_pos h]
theorem plG_no {L : List (List Int)} {f t : Int} (h : plB L f t = false) : plG L f t = 0 := by unfold plG; rw [h]; rfl
theorem plB_true {L : List (List Int)} {f t : Int} (h : plB L f t = true) : pathB L = true ∧ ∃ a b : Nat, f = a ∧ t = b ∧ a ≤ b ∧ b < L.length := by
  simp only [plB, Bool.and_eq_true, decide_eq_true_eq] at h
  exact ⟨h.1.1, f.toNat, t.toNat, by omega, by omega, by omega, by omega⟩
theorem plB_small (L : List (List Int)) (f t : Int) : SmallM (plR L f t) := by
  cases h : plB L f t with
  | false => rw [plR_no h]; exact small_nil
  | true =>
    rw [plR_yes h]
    obtain ⟨hp, a, b, rfl, rfl, hab, _⟩ := plB_true h
    exact small_rows (by rw [runP_len _ (by omega)]; have := (pathB_len hp).2; simpa using this)

set_option maxRecDepth 100000 in
set_option maxHeartbeats 4000000 in
theorem orderRun_any (A : Option Addr) (n c : Nat) (L : List (List Int)) (f t : Int) (w : World) (h : RdM w A n L) (hs : SmallM L) :
    Calls Try.prog 69 #[.slice A n c, .int .i64 f, .int .i64 t] w fun e w' => (∃ (A' : Option Addr) (n' c' : Nat), e = .returned (.tuple #[.slice A' n' c', .bool (plB L f t)]) ∧ (∃ gs, OwnM w' w.heap.size A' n' c' gs (plR L f t)) ∧ SmallM (plR L f t)) ∧ Below w.heap.size w w' := by
  have hT := pathSteps_any A n c 8 L w h hs (by omega)
  have HL := Lib.hid h.1
  have HSM := Lib.hid (plB_small L f t)
  cases hp : plB L f t with
  | true =>
    rw [plR_yes hp] at HSM ⊢
    obtain ⟨hq, a, b, rfl, rfl, hab, hbl⟩ := plB_true hp
    rw [HL.out] at hbl
    rw [Int.toNat_natCast, Int.toNat_natCast] at HSM ⊢
    have hpm : pmB L 8 = true := by unfold pmB; rw [hq]; simpa using (pathB_len hq).2
    rw [hpm] at hT
    have h8 := Lib.hid (show n ≤ 8 by rw [← HL.out]; exact (pathB_len hq).2)
    have d1 : decide ((a : Int) < 0) = false := by rw [decide_eq_false_iff_not]; omega
    have d2 : decide (b < a) = false := by rw [decide_eq_false_iff_not]; omega
    have d3 : decide (n ≤ b) = false := by rw [decide_eq_false_iff_not]; omega
    have HAB := Lib.hid (And.intro hab hbl)
    clear h hs hp hq hpm hab hbl
    go_enter Try.func69, Try.ntmps69
    go_wp2_with fail
    refine hT.mono ?_
    rintro e w1 ⟨⟨A1, m, c1, rfl, hv⟩, b1⟩
    obtain ⟨rfl, ho⟩ := hv (by first | rfl | trivial)
    obtain ⟨b0, off, rfl, _, _⟩ := ho.rd.2 (by have := HAB.out; omega)
    have HW := Lib.hid (withRun_any b0 off m c1 a b (ptsL L) w1 ho.rd (by have := h8.out; omega) HAB.out.1 HAB.out.2)
    clear hv ho hT
    go_wp2_with fail
    refine HW.out.mono ?_
    rintro e w2 ⟨A2, c2, rfl, o2, b2⟩
    have HLs := Lib.hid (listsOf_any A2 m c2 _ w2 o2.rd (by have := h8.out; omega))
    have HB := Lib.hid (below_then b1 b2)
    clear b1 b2 o2
    go_wp2_with fail
    refine HLs.out.mono ?_
    rintro e w3 ⟨A3, c3, gs, rfl, o3, b3⟩
    have HO := Lib.hid (o3.lower HB.out.size)
    have HB3 := Lib.hid (below_then HB.out b3)
    clear o3 b3
    go_wp2_with fail
    refine bodyPost_ret (results_tmp2 rfl _ _ _) rfl ?_
    exact ⟨⟨A3, m, c3, rfl, ⟨gs, HO.out⟩, HSM.out⟩, HB3.out⟩
  | false =>
    rw [plR_no hp] at HSM ⊢
    cases hq : pathB L with
    | false =>
      have hpm : pmB L 8 = false := by unfold pmB; rw [hq]; rfl
      rw [hpm] at hT
      clear h hs hp hq hpm
      go_enter Try.func69, Try.ntmps69
      go_wp2_with fail
      refine hT.mono ?_
      rintro e w1 ⟨⟨A1, m, c1, rfl, _⟩, b1⟩
      have HE := Lib.hid (OwnM.empty w1 (B := w.heap.size) b1.size)
      go_wp2_with fail
      refine bodyPost_ret (results_tmp2 rfl _ _ _) rfl ?_
      exact ⟨⟨_, 0, 0, rfl, ⟨[], HE.out⟩, HSM.out⟩, below_alloc b1 _⟩
    | true =>
      have hpm : pmB L 8 = true := by unfold pmB; rw [hq]; simpa using (pathB_len hq).2
      rw [hpm] at hT
      have hor : f < 0 ∨ (¬ f < 0 ∧ t < f) ∨ (¬ f < 0 ∧ ¬ t < f ∧ (n : Int) ≤ t) := by
        simp only [plB, hq, Bool.true_and, Bool.and_eq_false_iff, decide_eq_false_iff_not] at hp
        rw [HL.out] at hp
        omega
      clear h hs hp hq hpm
      rcases hor with h1 | ⟨h1, h2⟩ | ⟨h1, h2, h3⟩
      · have d1 : decide (f < 0) = true := by simpa using h1
        go_enter Try.func69, Try.ntmps69
        go_wp2_with fail
        refine hT.mono ?_
        rintro e w1 ⟨⟨A1, m, c1, rfl, hv⟩, b1⟩
        obtain ⟨rfl, _⟩ := hv (by first | rfl | trivial)
        have HE := Lib.hid (OwnM.empty w1 (B := w.heap.size) b1.size)
        clear hv
        go_wp2_with fail
        refine bodyPost_ret (results_tmp2 rfl _ _ _) rfl ?_
        exact ⟨⟨_, 0, 0, rfl, ⟨[], HE.out⟩, HSM.out⟩, below_alloc b1 _⟩
      · have d1 : decide (f < 0) = false := by simpa using h1
        have d2 : decide (t < f) = true := by simpa using h2
        go_enter Try.func69, Try.ntmps69
        go_wp2_with fail
        refine hT.mono ?_
        rintro e w1 ⟨⟨A1, m, c1, rfl, hv⟩, b1⟩
        obtain ⟨rfl, _⟩ := hv (by first | rfl | trivial)
        have HE := Lib.hid (OwnM.empty w1 (B := w.heap.size) b1.size)
        clear hv
        go_wp2_with fail
        refine bodyPost_ret (results_tmp2 rfl _ _ _) rfl ?_
        exact ⟨⟨_, 0, 0, rfl, ⟨[], HE.out⟩, HSM.out⟩, below_alloc b1 _⟩
      · have d1 : decide (f < 0) = false := by simpa using h1
        have d2 : decide (t < f) = false := by simpa using h2
        have d3 : decide (t ≥ (n : Int)) = true := by simpa using h3
        go_enter Try.func69, Try.ntmps69
        go_wp2_with fail
        refine hT.mono ?_
        rintro e w1 ⟨⟨A1, m, c1, rfl, hv⟩, b1⟩
        obtain ⟨rfl, _⟩ := hv (by first | rfl | trivial)
        have HE := Lib.hid (OwnM.empty w1 (B := w.heap.size) b1.size)
        clear hv
        go_wp2_with fail
        refine bodyPost_ret (results_tmp2 rfl _ _ _) rfl ?_
        exact ⟨⟨_, 0, 0, rfl, ⟨[], HE.out⟩, HSM.out⟩, below_alloc b1 _⟩

set_option maxRecDepth 100000 in
set_option maxHeartbeats 4000000 in
theorem orderGain_any (A : Option Addr) (n c : Nat) (L : List (List Int)) (f t : Int) (w : World) (h : RdM w A n L) (hs : SmallM L) :
    Calls Try.prog 72 #[.slice A n c, .int .i64 f, .int .i64 t] w fun e w' => e = .returned (.tuple #[.int .i64 (plG L f t), .bool (plB L f t)]) ∧ Below w.heap.size w w' := by
  have hT := orderRun_any A n c L f t w h hs
  have HL := Lib.hid h.1
  cases hp : plB L f t with
  | false =>
    rw [plG_no hp]
    rw [hp] at hT
    clear h hs hp
    go_enter Try.func72, Try.ntmps72
    go_wp2_with fail
    refine hT.mono ?_
    rintro e w1 ⟨⟨A1, m, c1, rfl, _⟩, b1⟩
    go_wp2_with fail
    refine bodyPost_ret (results_tmp2 rfl _ _ _) rfl ?_
    exact ⟨rfl, b1⟩
  | true =>
    rw [hp] at hT
    rw [plG_yes hp]
    rw [plR_yes hp] at hT
    obtain ⟨hq, a, b, rfl, rfl, hab, hbl⟩ := plB_true hp
    rw [Int.toNat_natCast, Int.toNat_natCast] at hT ⊢
    obtain ⟨hP, _⟩ := pathB_true hq
    have hP2 : IsPath (runP (ptsL L) a b) := hP.perm (runP_perm _ hab)
    have HA := Lib.hid (fun W A' n' c' (hr : RdM W A' n' (rowsOf (runP (ptsL L) a b))) => pathArea_any A' n' c' _ W hr (small_rows hP2.hi))
    have HA2 := Lib.hid (fun W (hW : Below w.heap.size w W) => pathArea_any A n c L W (h.same hW) hs)
    have e1 : ifP (rowsOf (runP (ptsL L) a b)) areaP = areaP (runP (ptsL L) a b) := by rw [ifP_yes _ (pathB_rows hP2), ptsL_rows]
    have e2 : ifP L areaP = areaP (ptsL L) := ifP_yes _ hq
    have bd1 := areaP_part_bd hP (Nat.le_refl _)
    have bd2 := areaP_part_bd hP2 (Nat.le_refl _)
    have v1 : IntKind.i64.wrap (areaP (runP (ptsL L) a b) - areaP (ptsL L)) = areaP (runP (ptsL L) a b) - areaP (ptsL L) := wrap_is rfl (by unfold areaP; omega) (by unfold areaP; omega)
    rw [e1, pathB_rows hP2] at HA
    rw [e2, hq] at HA2
    generalize areaP (ptsL L) = z2 at *
    have HV := Lib.hid v1
    clear h hs hp hq hP hP2 e1 e2 bd1 bd2 hab hbl v1
    generalize areaP (runP (ptsL L) a b) = z1 at *
    have v1 := HV.out
    go_enter Try.func72, Try.ntmps72
    go_wp2_with fail
    refine hT.mono ?_
    rintro e w1 ⟨⟨A1, m, c1, rfl, ⟨gs, ho⟩, _⟩, b1⟩
    have HO := Lib.hid ho.rd
    clear ho hT
    go_wp2_with fail
    with_reducible refine (HA.out _ _ _ _ HO.out).mono ?_
    rintro e w2 ⟨rfl, b2⟩
    have b3 := below_then b1 b2
    clear b1 b2
    go_wp2_with fail
    with_reducible refine (HA2.out _ b3).mono ?_
    rintro e w3 ⟨rfl, b4⟩
    go_wp2_with fail
    refine bodyPost_ret (results_tmp2 rfl _ _ _) rfl ?_
    exact ⟨rfl, below_then b3 b4⟩
end Go.Proofs.Ythpgenkdiokpeaa
