/- The program's paths that begin elsewhere. -/
import Derived.Test.YthpgenkdiokpeaaPathI2
namespace Go.Proofs.Ythpgenkdiokpeaa
open Go.RowKit Go.Sort Go.Lib

def rotN (gs : List Nat) (k : Nat) : List Nat := gs.drop k ++ gs.take k
theorem rotN_at {gs : List Nat} {k i : Nat} (hk : k ≤ gs.length) (hi : i < gs.length) : (rotN gs k).getD i 0 = gs.getD ((k + i) % gs.length) 0 := by
  unfold rotN
  simp only [List.getD_eq_getElem?_getD]
  by_cases h : i < gs.length - k
  · rw [List.getElem?_append_left (by simpa using h), List.getElem?_drop, Nat.mod_eq_of_lt (by omega)]
  · rw [List.getElem?_append_right (by simp; omega), List.length_drop, List.getElem?_take, if_pos (by omega)]
    rw [show (k + i) % gs.length = i - (gs.length - k) by rw [Nat.mod_eq_sub_mod (by omega), Nat.mod_eq_of_lt (by omega)]; omega]
theorem Ring.rot {w : World} {gs : List Nat} {ps : List Pt} (h : Ring w gs ps) {k : Nat} (hk : k < ps.length) : Ring w (rotN gs k) (rotL ps k) := by
  have hl := h.len
  refine ⟨by rw [rot_len, ← hl]; simp [rotN]; omega, by rw [rot_len]; exact h.pos, ?_, fun i hi => ?_⟩
  · unfold rotN
    have h1 := h.nodup
    rw [← List.take_append_drop k gs] at h1
    exact (List.perm_append_comm.nodup_iff).1 h1
  · rw [rot_len] at hi ⊢
    have hm : (i + 1) % ps.length < ps.length := Nat.mod_lt _ (by omega)
    rw [rot_at (by omega) hi, rotN_at (by omega) (by omega), rotN_at (by omega) (by omega), hl]
    have hc := h.cells ((k + i) % ps.length) (Nat.mod_lt _ (by omega))
    rw [show (k + (i + 1) % ps.length) % ps.length = ((k + i) % ps.length + 1) % ps.length by rw [Nat.add_mod_mod, Nat.mod_add_mod, Nat.add_assoc]]
    exact hc
/-- Whether there is a path, and a place in it. -/
def begB (L : List (List Int)) (a : Int) : Bool := pathB L && (decide (0 ≤ a) && decide (a < (L.length : Int)))
noncomputable def begR (L : List (List Int)) (a : Int) : List (List Int) := if begB L a then rowsOf (rotL (ptsL L) a.toNat) else []
theorem begR_yes {L : List (List Int)} {a : Int} (h : begB L a = true) : begR L a = rowsOf (rotL (ptsL L) a.toNat) := by unfold begR; rw [if_pos h]
theorem begR_no {L : List (List Int)} {a : Int} (h : begB L a = false) : begR L a = [] := by unfold begR; rw [h]; rfl

theorem tellStep_any (gs : List Nat) (ps : List Pt) (i : Nat) (w : World) (hi : i < ps.length) (hps : 0 < ps.length) (hb : ∀ i, i < ps.length → (-1000 ≤ (atP ps i).1 ∧ (atP ps i).1 ≤ 1000) ∧ (-1000 ≤ (atP ps i).2 ∧ (atP ps i).2 ≤ 1000)) (hR : Ring w gs ps) :
    Calls Try.prog 102 #[ptrV (gs.getD i 0)] w fun e w'' => e = .returned (vecX (subP (atP ps ((i + 1) % ps.length)) (atP ps i)).1 (subP (atP ps ((i + 1) % ps.length)) (atP ps i)).2) ∧ Below w.heap.size w w'' := by
  have h1 := hb i hi
  have h2 := hb _ (Nat.mod_lt (i + 1) hps)
  exact step_any _ _ _ _ _ _ _ _ (hR.cells i hi) (hR.cells _ (Nat.mod_lt (i + 1) hps)) (by omega) (by omega)

set_option maxRecDepth 100000 in
set_option maxHeartbeats 2000000 in
theorem pathBegin_any (A : Option Addr) (n c : Nat) (L : List (List Int)) (a : Int) (w : World) (h : RdM w A n L) (hs : SmallM L) (hwf : (Lit.int .i64 a).wf = true) :
    Calls Try.prog 31 #[.slice A n c, .int .i64 a] w fun e w' => (∃ (A' : Option Addr) (n' c' : Nat), e = .returned (.tuple #[.slice A' n' c', .bool (begB L a)]) ∧ (∃ gs, OwnM w' w.heap.size A' n' c' gs (begR L a)) ∧ SmallM (begR L a)) ∧ Below w.heap.size w w' := by
  have hI := pathOf_any A n c L w h hs
  have hl := h.1
  cases hb : begB L a with
  | true =>
    rw [begR_yes hb]
    simp only [begB, Bool.and_eq_true, decide_eq_true_eq] at hb
    obtain ⟨hp, ha0, ha1⟩ := hb
    obtain ⟨hP, _⟩ := pathB_true hp
    obtain ⟨k, rfl⟩ : ∃ k : Nat, a = k := ⟨a.toNat, by omega⟩
    have hk : k < n := by omega
    rw [Int.toNat_natCast]
    have hcl : (corL (ptsL L)).length = n := by rw [corL_len]; simp [hl]
    have hn8 : n ≤ 8 := by have := hP.hi; simp at this; omega
    have hS : SmallM (rowsOf (rotL (ptsL L) k)) := small_rows (by rw [rot_len]; exact hP.hi)
    have hbx := cor_box hP
    have hA := fun W gs (hR : Ring W gs (corL (ptsL L))) => lists_any 102 (fun i => subP (atP (rotL (corL (ptsL L)) k) ((i + 1) % (rotL (corL (ptsL L)) k).length)) (atP (rotL (corL (ptsL L)) k) i)) (rotN gs k) _ W (hR.rot (k := k) (by omega)) (by rw [rot_len]; omega)
      (fun W' i hi hR' => tellStep_any _ _ i W' hi (by rw [rot_len]; omega) (fun i hi => by rw [rot_len] at hi; rw [rot_at (by omega) hi]; have := hbx _ (Nat.mod_lt (k + i) (by omega : 0 < (corL (ptsL L)).length)); omega) hR') (enters_of Try.func102 (by kernel_rfl) rfl)
    have e : (List.range (rotL (corL (ptsL L)) k).length).map (fun i => subP (atP (rotL (corL (ptsL L)) k) ((i + 1) % (rotL (corL (ptsL L)) k).length)) (atP (rotL (corL (ptsL L)) k) i)) = rotL (ptsL L) k := by
      apply List.ext_getElem (by simp [rot_len, corL_len])
      intro i h1 h2
      rw [rot_len] at h2
      have h3 : i < (corL (ptsL L)).length := by rw [corL_len]; exact h2
      have h4 : 0 < (corL (ptsL L)).length := by omega
      rw [List.getElem_map, List.getElem_range, rot_len, rot_at (by omega) (Nat.mod_lt _ h4), rot_at (by omega) h3, ← atP_lt (by rw [rot_len]; exact h2), rot_at (by simp; omega) h2]
      rw [show (k + (i + 1) % (corL (ptsL L)).length) % (corL (ptsL L)).length = ((k + i) % (corL (ptsL L)).length + 1) % (corL (ptsL L)).length by rw [Nat.add_mod_mod, Nat.mod_add_mod, Nat.add_assoc]]
      rw [stp_cor hP.closed (by rw [corL_len]; exact Nat.mod_lt _ (by omega)), corL_len]
    rw [e] at hA
    have HA := Lib.hid hA
    have HS := Lib.hid hS
    have HC := Lib.hid hcl
    rw [hp] at hI
    have hg0 : ∀ gs : List Nat, gs.length = n → (rotN gs k).getD 0 0 = gs.getD k 0 := fun gs hgl => by rw [rotN_at (by omega) (by omega), hgl, Nat.add_zero, Nat.mod_eq_of_lt hk]
    have HG := Lib.hid hg0
    have d1 : decide ((k : Int) < 0) = false := by rw [decide_eq_false_iff_not]; omega
    have d2 : decide ((k : Int) ≥ (n : Int)) = false := by simp; omega
    have HB := Lib.hid (show begB L (k : Int) = true by simp only [begB, hp, Bool.true_and, Bool.and_eq_true, decide_eq_true_eq]; omega)
    clear h hs hp hP hA hS hcl e hg0 hbx ha0 ha1 hl hwf
    go_enter Try.func31, Try.ntmps31
    go_wp2_with fail
    refine hI.mono ?_
    rintro e w1 ⟨⟨v, rfl, hv⟩, b1⟩
    obtain ⟨gs, rfl, hR, _⟩ := hv (by first | rfl | trivial)
    have HR := Lib.hid hR
    have HB1 := Lib.hid b1
    clear hv hR b1
    obtain ⟨g0, eg⟩ : ∃ g0, g0 = gs.getD 0 0 := ⟨_, rfl⟩
    rw [← eg]
    have EG := Lib.hid eg
    clear eg
    go_wp2_with fail
    go_loopw [6, 27] (fun cv i wr => ∃ j : Nat, j ≤ k ∧ i = .int .i64 j ∧ cv = ptrV (gs.getD j 0) ∧ w1 = wr) (fun _ i _ => k - (intOf i).toNat)
    case atStart => exact ⟨0, Nat.zero_le _, rfl, by rw [EG.out], rfl⟩
    case round =>
      obtain ⟨j, hj, rfl, rfl, rfl⟩ := hrel
      by_cases hlt : j < k
      · have hc := HR.out.cells j (by rw [HC.out]; omega)
        rw [HC.out, Nat.mod_eq_of_lt (show j + 1 < n by omega)] at hc
        obtain ⟨_, _, k2⟩ := hc.cells
        clear hc
        have EJ := Lib.hid (show gs.getD (j + 1) 0 = gs.getD (j + 1) 0 from rfl)
        generalize gs.getD j 0 = gj at *
        obtain ⟨gj1, e1⟩ : ∃ gj1, gj1 = gs.getD (j + 1) 0 := ⟨_, rfl⟩
        rw [← e1] at k2
        have E1 := Lib.hid e1
        clear e1
        go_wp2_with fail
        go_roundw
        case rel => exact ⟨j + 1, by omega, by go_num, by rw [E1.out], by first | rfl | trivial⟩
        case measure => simp [intOf]; omega
      · obtain rfl : j = k := by omega
        have hT := HA.out w1 gs HR.out
        rw [HG.out gs (by rw [HR.out.len, HC.out])] at hT
        have HT := Lib.hid hT
        clear hT
        generalize gs.getD j 0 = gj at *
        go_wp2_with fail
        refine HT.out.mono ?_
        rintro e w2 ⟨⟨A', c', rfl, hs', ho⟩, b2⟩
        have HO := Lib.hid (ho.lower HB1.out.size)
        have HB2 := Lib.hid (below_then HB1.out b2)
        clear ho b2
        go_wp2_with fail
        refine bodyPost_ret (results_tmp2 rfl _ _ _) rfl ?_
        exact ⟨⟨A', _, c', rfl, ⟨_, HO.out⟩, HS.out⟩, HB2.out⟩
  | false =>
    rw [begR_no hb]
    cases hp : pathB L with
    | false =>
      rw [hp] at hI
      clear h hs hp hb hl hwf
      go_enter Try.func31, Try.ntmps31
      go_wp2_with fail
      refine hI.mono ?_
      rintro e w1 ⟨⟨v, rfl, _⟩, b1⟩
      have HE := Lib.hid (OwnM.empty w1 (B := w.heap.size) b1.size)
      go_wp2_with fail
      refine bodyPost_ret (results_tmp2 rfl _ _ _) rfl ?_
      exact ⟨⟨_, 0, 0, rfl, ⟨[], HE.out⟩, small_nil⟩, below_alloc b1 _⟩
    | true =>
      have hor : a < 0 ∨ (n : Int) ≤ a := by
        simp only [begB, hp, Bool.true_and, Bool.and_eq_false_iff, decide_eq_false_iff_not] at hb
        omega
      rw [hp] at hI
      have hI' := hI.mono (R' := fun e w' => (∃ v, e = Ending.returned (.tuple #[v, .bool true])) ∧ Below w.heap.size w w') (fun e w' h => ⟨⟨_, h.1.choose_spec.1⟩, h.2⟩)
      clear h hs hp hb hI hl hwf
      by_cases ha : a < 0
      · have d1 : decide (a < 0) = true := by simpa using ha
        clear hor ha
        go_enter Try.func31, Try.ntmps31
        go_wp2_with fail
        refine hI'.mono ?_
        rintro e w1 ⟨⟨v, rfl⟩, b1⟩
        have HE := Lib.hid (OwnM.empty w1 (B := w.heap.size) b1.size)
        go_wp2_with fail
        refine bodyPost_ret (results_tmp2 rfl _ _ _) rfl ?_
        exact ⟨⟨_, 0, 0, rfl, ⟨[], HE.out⟩, small_nil⟩, below_alloc b1 _⟩
      · have d1 : decide (a < 0) = false := by simpa using ha
        have d2 : decide (a ≥ (n : Int)) = true := by simp; omega
        clear hor ha
        go_enter Try.func31, Try.ntmps31
        go_wp2_with fail
        refine hI'.mono ?_
        rintro e w1 ⟨⟨v, rfl⟩, b1⟩
        have HE := Lib.hid (OwnM.empty w1 (B := w.heap.size) b1.size)
        go_wp2_with fail
        refine bodyPost_ret (results_tmp2 rfl _ _ _) rfl ?_
        exact ⟨⟨_, 0, 0, rfl, ⟨[], HE.out⟩, small_nil⟩, below_alloc b1 _⟩
end Go.Proofs.Ythpgenkdiokpeaa
