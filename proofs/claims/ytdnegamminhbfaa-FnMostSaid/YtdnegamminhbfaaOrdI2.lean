/- The program's runs: OrderRun, OrderGain. -/
import Derived.Test.YtdnegamminhbfaaOrdI1
import Derived.Test.YtdnegamminhbfaaE6a
import Derived.Test.YtdnegamminhbfaaPathI2
namespace Go.Proofs.Ytdnegamminhbfaa
open Go.RowKit Go.Sort Go.Lib

/-- A path of at most a number of steps. -/
def pmB (L : List (List Int)) (mo : Nat) : Bool := pathB L && decide (L.length ≤ mo)
theorem pmB_true {L : List (List Int)} {mo : Nat} (h : pmB L mo = true) : pathB L = true ∧ L.length ≤ mo := by simpa [pmB] using h
theorem pathB_stepsB {L : List (List Int)} (h : pathB L = true) : stepsB L = true := by rw [pathB_steps] at h; simp only [Bool.and_eq_true] at h; exact h.1.1
theorem pathB_len {L : List (List Int)} (h : pathB L = true) : 3 ≤ L.length ∧ L.length ≤ 8 := by
  have := (pathB_true h).1
  exact ⟨by have := this.lo; simpa using this, by have := this.hi; simpa using this⟩
theorem ptsL_rows (l : List Pt) : ptsL (rowsOf l) = l := by
  simp only [ptsL, rowsOf, List.map_map]
  conv => rhs; rw [← List.map_id l]
  exact List.map_congr_left fun p _ => rfl
theorem stepRow_of {p : Pt} (h : stepP p) : stepRow (ptRow p) = true := by
  obtain ⟨h1, h2, h3⟩ := h
  have h4 : ¬ (p.1 = 0 ∧ p.2 = 0) := fun e => h3 (Prod.ext e.1 e.2)
  simp only [stepRow, ptRow, List.getD_eq_getElem?_getD, List.length_cons, List.length_nil, List.getElem?_cons_zero, List.getElem?_cons_succ, Option.getD_some]
  simp only [decide_eq_true h1.1, decide_eq_true h1.2, decide_eq_true h2.1, decide_eq_true h2.2, Bool.and_self]
  by_cases e : p.1 = 0
  · have : p.2 ≠ 0 := fun e2 => h4 ⟨e, e2⟩
    simp [e, this]
  · simp [e]
theorem stepsB_rows {l : List Pt} (h : ∀ s ∈ l, stepP s) : stepsB (rowsOf l) = true := List.all_eq_true.2 fun r hr => by
  obtain ⟨p, hp, rfl⟩ := List.mem_map.1 hr
  exact stepRow_of (h p hp)
theorem pathB_rows {l : List Pt} (h : IsPath l) : pathB (rowsOf l) = true := by
  rw [pathB_steps, stepsB_rows h.steps, rowsOf_len, decide_eq_true h.lo, decide_eq_true h.hi, ptsL_rows, decide_eq_true h.closed]; rfl

set_option maxRecDepth 100000 in
set_option maxHeartbeats 2000000 in
theorem pathSteps_any (A : Option Addr) (n c mo : Nat) (L : List (List Int)) (w : World) (h : RdM w A n L) (hs : SmallM L) (_hmo : mo ≤ 1000) :
    Calls Try.prog 75 #[.slice A n c, .int .i64 mo] w fun e w' => (∃ A' m c', e = .returned (.tuple #[.slice A' m c', .bool (pmB L mo)]) ∧ (pmB L mo = true → m = n ∧ OwnV w' w.heap.size A' m c' (ptsL L))) ∧ Below w.heap.size w w' := by
  have hI := pathIn_any A n c L w h hs
  have HL := Lib.hid h.1
  cases hp : pathB L with
  | false =>
    have HP := Lib.hid (show pmB L mo = false by unfold pmB; rw [hp]; rfl)
    rw [HP.out]
    rw [hp] at hI
    clear h hs hp
    go_enter Try.func75, Try.ntmps75
    go_wp2_with fail
    refine hI.mono ?_
    rintro e w1 ⟨rfl, b1⟩
    go_wp2_with fail
    refine bodyPost_ret (results_tmp2 rfl _ _ _) rfl ?_
    exact ⟨⟨_, _, _, rfl, fun e => by cases e⟩, b1⟩
  | true =>
    rw [hp] at hI
    have HS := Lib.hid (pathB_stepsB hp)
    have HN := Lib.hid (pathB_len hp)
    by_cases hm : n ≤ mo
    · have HP := Lib.hid (show pmB L mo = true by unfold pmB; rw [hp, HL.out]; simpa using hm)
      rw [HP.out]
      have d1 : decide (mo < n) = false := by simp; omega
      have HT := Lib.hid (fun W (hW : Below w.heap.size w W) => stepsOf_any A n c L W (h.same hW) hs (by have := HN.out; rw [HL.out] at this; omega))
      clear h hs hp hm
      go_enter Try.func75, Try.ntmps75
      go_wp2_with fail
      refine hI.mono ?_
      rintro e w1 ⟨rfl, b1⟩
      go_wp2_with fail
      refine (HT.out _ b1).mono ?_
      rintro e w2 ⟨⟨A2, m, c2, rfl, hv⟩, b2⟩
      obtain ⟨rfl, ho⟩ := hv HS.out
      have HO := Lib.hid (ho.lower b1.size)
      have HB := Lib.hid (below_then b1 b2)
      rw [HS.out]
      clear hv ho b1 b2
      go_wp2_with fail
      refine bodyPost_ret (results_tmp2 rfl _ _ _) rfl ?_
      exact ⟨⟨_, _, _, rfl, fun _ => ⟨rfl, HO.out⟩⟩, HB.out⟩
    · have HP := Lib.hid (show pmB L mo = false by unfold pmB; rw [hp, HL.out]; simpa using hm)
      rw [HP.out]
      have d1 : decide (mo < n) = true := by simp; omega
      clear h hs hp hm
      go_enter Try.func75, Try.ntmps75
      go_wp2_with fail
      refine hI.mono ?_
      rintro e w1 ⟨rfl, b1⟩
      go_wp2_with fail
      refine bodyPost_ret (results_tmp2 rfl _ _ _) rfl ?_
      exact ⟨⟨_, _, _, rfl, fun e => by cases e⟩, b1⟩

/-- Whether there are a path and a run. -/
def plB (L : List (List Int)) (f t : Int) : Bool := pathB L && (decide (0 ≤ f) && decide (f < L.length)) && (decide (f ≤ t) && decide (t < L.length))
def plR (L : List (List Int)) (f t : Int) : List (List Int) := if plB L f t then rowsOf (runP (ptsL L) f.toNat t.toNat) else []
def plG (L : List (List Int)) (f t : Int) : Int := if plB L f t then areaP (runP (ptsL L) f.toNat t.toNat) - areaP (ptsL L) else 0
theorem plR_yes {L : List (List Int)} {f t : Int} (h : plB L f t = true) : plR L f t = rowsOf (runP (ptsL L) f.toNat t.toNat) := by unfold plR; rw [if_pos h]
theorem plR_no {L : List (List Int)} {f t : Int} (h : plB L f t = false) : plR L f t = [] := by unfold plR; rw [h]; rfl
theorem plG_yes {L : List (List Int)} {f t : Int} (h : plB L f t = true) : plG L f t = areaP (runP (ptsL L) f.toNat t.toNat) - areaP (ptsL L) := by unfold plG; rw [if_pos h]
theorem plG_no {L : List (List Int)} {f t : Int} (h : plB L f t = false) : plG L f t = 0 := by unfold plG; rw [h]; rfl
theorem plB_true {L : List (List Int)} {f t : Int} (h : plB L f t = true) : pathB L = true ∧ ∃ a b : Nat, f = a ∧ t = b ∧ a ≤ b ∧ b < L.length := by
  simp only [plB, Bool.and_eq_true, decide_eq_true_eq] at h
  exact ⟨h.1.1, f.toNat, t.toNat, by omega, by omega, by omega, by omega⟩
theorem plB_small (L : List (List Int)) (f t : Int) : SmallM (plR L f t) := by
  cases h : plB L f t with
  | false => rw [plR_no h]; exact small_nil
  | true =>
    rw [plR_yes h]
    obtain ⟨hp, a, b, rfl, rfl, hab, _⟩ := plB_true h
    exact small_rows (by rw [runP_len _ (by omega)]; have := (pathB_len hp).2; simpa using this)

end Go.Proofs.Ytdnegamminhbfaa
