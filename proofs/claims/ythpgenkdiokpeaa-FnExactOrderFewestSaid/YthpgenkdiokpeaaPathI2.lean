/- The program's corners and turned paths. -/
import Derived.Test.YthpgenkdiokpeaaRLists
import Derived.Test.YthpgenkdiokpeaaPathI1
namespace Go.Proofs.Ythpgenkdiokpeaa
open Go.RowKit Go.Sort Go.Lib

theorem cell_back {fn : Func} {W : World} {g : Nat} {x y : Int} {R : Ending → World → Prop} {a : Act} (hr : fn.results = #[.cell 2 55]) (ht : a.defers = []) (h2 : a.tmps.getD 2 undef = ptrV g) (h : W.heap[g]? = some (vecO x y)) (hR : R (.returned (vecX x y)) W) :
    bodyPost Try.prog fn R .ret a W := by
  obtain ⟨u0, u1, _, _⟩ := pr_cells h
  have h2' : a.tmps[2]?.getD undef = ptrV g := by simpa using h2
  refine bodyPost_ret (v := vecX x y) ?_ ht hR
  simp [results, hr, go_sem, u0, u1, h2']

theorem tellCorner_any (gs : List Nat) (ps : List Pt) (i : Nat) (w : World) (hi : i < ps.length) (hR : Ring w gs ps) :
    Calls Try.prog 107 #[ptrV (gs.getD i 0)] w fun e w'' => e = .returned (vecX (atP ps i).1 (atP ps i).2) ∧ Below w.heap.size w w'' := by
  have hb := below_alloc (Below.refl w.heap.size w) (vecO 0 0)
  obtain ⟨k0, k1, k2⟩ := ((hR.cells i hi).same hb).cells
  have hb2 := Lib.hid (below_alloc (Below.refl w.heap.size w) (vecO (atP ps i).1 (atP ps i).2))
  have hv := Lib.hid (World.alloc_heap_new w (vecO (atP ps i).1 (atP ps i).2))
  generalize gs.getD i 0 = g at *
  generalize (atP ps i).1 = x at *
  generalize (atP ps i).2 = y at *
  clear hR hb
  go_enter Try.func107, Try.ntmps107
  go_wp2_with fail
  exact cell_back (g := w.heap.size) rfl rfl rfl hv.out ⟨rfl, hb2.out⟩

set_option maxHeartbeats 1000000 in
theorem tellTurn_any (gs : List Nat) (ps : List Pt) (i : Nat) (w : World) (hi : i < ps.length) (hps : 0 < ps.length) (hb : ∀ i, i < ps.length → (-1000 ≤ (atP ps i).1 ∧ (atP ps i).1 ≤ 1000) ∧ (-1000 ≤ (atP ps i).2 ∧ (atP ps i).2 ≤ 1000)) (hR : Ring w gs ps) :
    Calls Try.prog 112 #[ptrV (gs.getD i 0)] w fun e w'' => e = .returned (vecX (-(subP (atP ps ((i + 1) % ps.length)) (atP ps i)).2) (subP (atP ps ((i + 1) % ps.length)) (atP ps i)).1) ∧ Below w.heap.size w w'' := by
  have h1 := hb i hi
  have h2 := hb _ (Nat.mod_lt (i + 1) hps)
  have hB := Lib.hid (below_alloc (Below.refl w.heap.size w) (vecO 0 0))
  have hV := Lib.hid (World.alloc_heap_new w (vecO 0 0))
  have hS := Lib.hid (step_any _ _ _ _ _ _ _ _ ((hR.cells i hi).same hB.out) ((hR.cells _ (Nat.mod_lt (i + 1) hps)).same hB.out) (by omega) (by omega))
  have hQ := Lib.hid (fun W => quarter_any ((atP ps ((i + 1) % ps.length)).1 - (atP ps i).1) ((atP ps ((i + 1) % ps.length)).2 - (atP ps i).2) W (by omega) (by omega))
  have e : subP (atP ps ((i + 1) % ps.length)) (atP ps i) = ((atP ps ((i + 1) % ps.length)).1 - (atP ps i).1, (atP ps ((i + 1) % ps.length)).2 - (atP ps i).2) := rfl
  rw [e]
  generalize gs.getD i 0 = g at *
  generalize (atP ps ((i + 1) % ps.length)).1 - (atP ps i).1 = x at *
  generalize (atP ps ((i + 1) % ps.length)).2 - (atP ps i).2 = y at *
  show Calls Try.prog 112 #[ptrV g] w fun e w'' => e = .returned (vecX (-y) x) ∧ Below w.heap.size w w''
  clear hR hb h1 h2 e
  go_enter Try.func112, Try.ntmps112
  go_wp2_with fail
  refine hS.out.mono ?_
  rintro e w1 ⟨rfl, b1⟩
  go_wp2_with fail
  refine (hQ.out _).mono ?_
  rintro e w2 ⟨rfl, b2⟩
  have b3 := below_then b1 b2
  have hV2 := (b3.block _ (Array.getElem?_eq_some_iff.1 hV.out).1).trans hV.out
  obtain ⟨u0, u1, f0, f1⟩ := pr_cells hV2
  have HN := Lib.hid (pr_set hV2 (.int .i64 (-y)) (.int .i64 x))
  have HB := Lib.hid (pr_below (hB.out.trans (b3.mono hB.out.size)) (Nat.le_refl _) (.int .i64 (-y)) (.int .i64 x))
  clear b1 b2 b3 hV2
  go_wp2_with fail
  exact cell_back (g := w.heap.size) rfl rfl rfl HN.out ⟨rfl, HB.out⟩

set_option maxHeartbeats 1000000 in
theorem tellBack_any (gs : List Nat) (ps : List Pt) (i : Nat) (w : World) (hi : i < ps.length) (hps : 0 < ps.length) (hb : ∀ i, i < ps.length → (-1000 ≤ (atP ps i).1 ∧ (atP ps i).1 ≤ 1000) ∧ (-1000 ≤ (atP ps i).2 ∧ (atP ps i).2 ≤ 1000)) (hR : Ring w gs ps) :
    Calls Try.prog 103 #[ptrV (gs.getD i 0)] w fun e w'' => e = .returned (vecX (-(subP (atP ps ((i + 1) % ps.length)) (atP ps i)).1) (-(subP (atP ps ((i + 1) % ps.length)) (atP ps i)).2)) ∧ Below w.heap.size w w'' := by
  have h1 := hb i hi
  have h2 := hb _ (Nat.mod_lt (i + 1) hps)
  have hB := Lib.hid (below_alloc (Below.refl w.heap.size w) (vecO 0 0))
  have hV := Lib.hid (World.alloc_heap_new w (vecO 0 0))
  have hS := Lib.hid (step_any _ _ _ _ _ _ _ _ ((hR.cells i hi).same hB.out) ((hR.cells _ (Nat.mod_lt (i + 1) hps)).same hB.out) (by omega) (by omega))
  have hQ := Lib.hid (fun W => opposite_any ((atP ps ((i + 1) % ps.length)).1 - (atP ps i).1) ((atP ps ((i + 1) % ps.length)).2 - (atP ps i).2) W (by omega) (by omega))
  have e : subP (atP ps ((i + 1) % ps.length)) (atP ps i) = ((atP ps ((i + 1) % ps.length)).1 - (atP ps i).1, (atP ps ((i + 1) % ps.length)).2 - (atP ps i).2) := rfl
  rw [e]
  generalize gs.getD i 0 = g at *
  generalize (atP ps ((i + 1) % ps.length)).1 - (atP ps i).1 = x at *
  generalize (atP ps ((i + 1) % ps.length)).2 - (atP ps i).2 = y at *
  show Calls Try.prog 103 #[ptrV g] w fun e w'' => e = .returned (vecX (-x) (-y)) ∧ Below w.heap.size w w''
  clear hR hb h1 h2 e
  go_enter Try.func103, Try.ntmps103
  go_wp2_with fail
  refine hS.out.mono ?_
  rintro e w1 ⟨rfl, b1⟩
  go_wp2_with fail
  refine (hQ.out _).mono ?_
  rintro e w2 ⟨rfl, b2⟩
  have b3 := below_then b1 b2
  have hV2 := (b3.block _ (Array.getElem?_eq_some_iff.1 hV.out).1).trans hV.out
  obtain ⟨u0, u1, f0, f1⟩ := pr_cells hV2
  have HN := Lib.hid (pr_set hV2 (.int .i64 (-x)) (.int .i64 (-y)))
  have HB := Lib.hid (pr_below (hB.out.trans (b3.mono hB.out.size)) (Nat.le_refl _) (.int .i64 (-x)) (.int .i64 (-y)))
  clear b1 b2 b3 hV2
  go_wp2_with fail
  exact cell_back (g := w.heap.size) rfl rfl rfl HN.out ⟨rfl, HB.out⟩

def turnP (p : Pt) : Pt := (-p.2, p.1)
theorem small_rows {ps : List Pt} (h : ps.length ≤ 8) : SmallM (rowsOf ps) := by
  have key : ∀ k, k ≤ ps.length → lenTo (rowsOf ps) k = 2 * k := by
    intro k
    induction k with
    | zero => intro _; rfl
    | succ k ih =>
      intro hk
      rw [lenTo_succ (by rw [rowsOf_len]; omega), ih (by omega), rowsOf_at (by omega)]
      simp; omega
  unfold SmallM
  rw [rowsOf_len, key _ (Nat.le_refl _)]
  omega
theorem small_nil : SmallM [] := by unfold SmallM; simp [lenTo]
/-- Rows that are told of a path, or none; and true. -/
def RowsGot (L : List (List Int)) (f : List Pt → List Pt) (w : World) (e : Ending) (w' : World) : Prop :=
  (∃ (A' : Option Addr) (n' c' : Nat), e = .returned (.tuple #[.slice A' n' c', .bool (pathB L)]) ∧ (∃ gs, OwnM w' w.heap.size A' n' c' gs (ifR L fun l => rowsOf (f l))) ∧ SmallM (ifR L fun l => rowsOf (f l))) ∧ Below w.heap.size w w'

theorem pathCorners_any (A : Option Addr) (n c : Nat) (L : List (List Int)) (w : World) (h : RdM w A n L) (hs : SmallM L) :
    Calls Try.prog 34 #[.slice A n c] w (RowsGot L corL w) := by
  have hI := pathOf_any A n c L w h hs
  unfold RowsGot
  cases hp : pathB L with
  | true =>
    rw [ifR_yes _ hp]
    obtain ⟨hP, _⟩ := pathB_true hp
    have h8 : (corL (ptsL L)).length ≤ 8 := by rw [corL_len]; exact hP.hi
    have hS := small_rows h8
    have hA := fun W gs (hR : Ring W gs (corL (ptsL L))) => lists_any 107 (fun i => atP (corL (ptsL L)) i) gs _ W hR (by omega) (fun W' i hi hR' => tellCorner_any gs _ i W' hi hR') (enters_of Try.func107 (by kernel_rfl) rfl)
    have e : (List.range (corL (ptsL L)).length).map (fun i => atP (corL (ptsL L)) i) = corL (ptsL L) := by
      apply List.ext_getElem (by simp)
      intro i h1 h2
      simp at h1
      simp [atP, List.getD_eq_getElem?_getD, h1]
    rw [e] at hA
    have HA := Lib.hid hA
    have HS := Lib.hid hS
    rw [hp] at hI
    clear h hs hp hP hA hS h8 e
    go_enter Try.func34, Try.ntmps34
    go_wp2_with fail
    refine hI.mono ?_
    rintro e w1 ⟨⟨v, rfl, hv⟩, b1⟩
    obtain ⟨gs, rfl, hR, _⟩ := hv (by first | rfl | trivial)
    have HR := Lib.hid hR
    clear hv hR
    go_wp2_with fail
    refine (HA.out _ gs HR.out).mono ?_
    rintro e w2 ⟨⟨A', c', rfl, hs', ho⟩, b2⟩
    have HO := Lib.hid (ho.lower b1.size)
    clear ho
    go_wp2_with fail
    refine bodyPost_ret (results_tmp2 rfl _ _ _) rfl ?_
    exact ⟨⟨A', _, c', rfl, ⟨_, HO.out⟩, HS.out⟩, below_then b1 b2⟩
  | false =>
    rw [ifR_no _ hp]
    rw [hp] at hI
    clear h hs hp
    go_enter Try.func34, Try.ntmps34
    go_wp2_with fail
    refine hI.mono ?_
    rintro e w1 ⟨⟨v, rfl, _⟩, b1⟩
    have HE := Lib.hid (OwnM.empty w1 (B := w.heap.size) b1.size)
    go_wp2_with fail
    refine bodyPost_ret (results_tmp2 rfl _ _ _) rfl ?_
    exact ⟨⟨_, 0, 0, rfl, ⟨[], HE.out⟩, small_nil⟩, below_alloc b1 _⟩

theorem pathTurn_any (A : Option Addr) (n c : Nat) (L : List (List Int)) (w : World) (h : RdM w A n L) (hs : SmallM L) :
    Calls Try.prog 40 #[.slice A n c] w (RowsGot L (fun l => l.map turnP) w) := by
  have hI := pathOf_any A n c L w h hs
  unfold RowsGot
  cases hp : pathB L with
  | true =>
    rw [ifR_yes _ hp]
    obtain ⟨hP, _⟩ := pathB_true hp
    have h8 : (corL (ptsL L)).length ≤ 8 := by rw [corL_len]; exact hP.hi
    have h3 : 0 < (corL (ptsL L)).length := by rw [corL_len]; have := hP.lo; omega
    have hS : SmallM (rowsOf ((ptsL L).map turnP)) := small_rows (by rw [List.length_map]; exact hP.hi)
    have hA := fun W gs (hR : Ring W gs (corL (ptsL L))) => lists_any 112 (fun i => turnP (subP (atP (corL (ptsL L)) ((i + 1) % (corL (ptsL L)).length)) (atP (corL (ptsL L)) i))) gs _ W hR (by omega) (fun W' i hi hR' => tellTurn_any gs _ i W' hi h3 (fun i hi => by have := cor_box hP i hi; omega) hR') (enters_of Try.func112 (by kernel_rfl) rfl)
    have e : (List.range (corL (ptsL L)).length).map (fun i => turnP (subP (atP (corL (ptsL L)) ((i + 1) % (corL (ptsL L)).length)) (atP (corL (ptsL L)) i))) = (ptsL L).map turnP := by
      apply List.ext_getElem (by simp [corL_len])
      intro i h1 h2
      rw [List.length_map] at h2
      rw [List.getElem_map, List.getElem_map, List.getElem_range, stp_cor hP.closed h2, atP_lt h2]
    rw [e] at hA
    have HA := Lib.hid hA
    have HS := Lib.hid hS
    rw [hp] at hI
    clear h hs hp hP hA hS h8 h3 e
    go_enter Try.func40, Try.ntmps40
    go_wp2_with fail
    refine hI.mono ?_
    rintro e w1 ⟨⟨v, rfl, hv⟩, b1⟩
    obtain ⟨gs, rfl, hR, _⟩ := hv (by first | rfl | trivial)
    have HR := Lib.hid hR
    clear hv hR
    go_wp2_with fail
    refine (HA.out _ gs HR.out).mono ?_
    rintro e w2 ⟨⟨A', c', rfl, hs', ho⟩, b2⟩
    have HO := Lib.hid (ho.lower b1.size)
    clear ho
    go_wp2_with fail
    refine bodyPost_ret (results_tmp2 rfl _ _ _) rfl ?_
    exact ⟨⟨A', _, c', rfl, ⟨_, HO.out⟩, HS.out⟩, below_then b1 b2⟩
  | false =>
    rw [ifR_no _ hp]
    rw [hp] at hI
    clear h hs hp
    go_enter Try.func40, Try.ntmps40
    go_wp2_with fail
    refine hI.mono ?_
    rintro e w1 ⟨⟨v, rfl, _⟩, b1⟩
    have HE := Lib.hid (OwnM.empty w1 (B := w.heap.size) b1.size)
    go_wp2_with fail
    refine bodyPost_ret (results_tmp2 rfl _ _ _) rfl ?_
    exact ⟨⟨_, 0, 0, rfl, ⟨[], HE.out⟩, small_nil⟩, below_alloc b1 _⟩
end Go.Proofs.Ythpgenkdiokpeaa
