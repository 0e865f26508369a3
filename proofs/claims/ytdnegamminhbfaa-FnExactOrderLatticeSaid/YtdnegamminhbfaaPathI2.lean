/- The program's corners and turned paths. -/
import Derived.Test.YtdnegamminhbfaaRLists
import Derived.Test.YtdnegamminhbfaaPathI1
namespace Go.Proofs.Ytdnegamminhbfaa
open Go.RowKit Go.Sort Go.Lib

theorem cell_back {fn : Func} {W : World} {g : Nat} {x y : Int} {R : Ending → World → Prop} {a : Act} (hr : fn.results = #[.cell 2 65]) (ht : a.defers = []) (h2 : a.tmps.getD 2 undef = ptrV g) (h : W.heap[g]? = some (vecO x y)) (hR : R (.returned (vecX x y)) W) :
    bodyPost Try.prog fn R .ret a W := by
  obtain ⟨u0, u1, _, _⟩ := pr_cells h
  have h2' : a.tmps[2]?.getD undef = ptrV g := by simpa using h2
  refine bodyPost_ret (v := vecX x y) ?_ ht hR
  simp [results, hr, go_sem, u0, u1, h2']

set_option maxHeartbeats 1000000 in
theorem tellBack_any (gs : List Nat) (ps : List Pt) (i : Nat) (w : World) (hi : i < ps.length) (hps : 0 < ps.length) (hb : ∀ i, i < ps.length → (-1000 ≤ (atP ps i).1 ∧ (atP ps i).1 ≤ 1000) ∧ (-1000 ≤ (atP ps i).2 ∧ (atP ps i).2 ≤ 1000)) (hR : Ring w gs ps) :
    Calls Try.prog 88 #[ptrV (gs.getD i 0)] w fun e w'' => e = .returned (vecX (-(subP (atP ps ((i + 1) % ps.length)) (atP ps i)).1) (-(subP (atP ps ((i + 1) % ps.length)) (atP ps i)).2)) ∧ Below w.heap.size w w'' := by
  have h1 := hb i hi
  have h2 := hb _ (Nat.mod_lt (i + 1) hps)
  have hB := Lib.hid (below_alloc (Below.refl w.heap.size w) (vecO 0 0))
  have hV := Lib.hid (World.alloc_heap_new w (vecO 0 0))
  have hS := Lib.hid (step_any _ _ _ _ _ _ _ _ ((hR.cells i hi).same hB.out) ((hR.cells _ (Nat.mod_lt (i + 1) hps)).same hB.out) (by omega) (by omega))
  have hQ := Lib.hid (fun W => opposite_any ((atP ps ((i + 1) % ps.length)).1 - (atP ps i).1) ((atP ps ((i + 1) % ps.length)).2 - (atP ps i).2) W (by omega) (by omega))
  have e : subP (atP ps ((i + 1) % ps.length)) (atP ps i) = ((atP ps ((i + 1) % ps.length)).1 - (atP ps i).1, (atP ps ((i + 1) % ps.length)).2 - (atP ps i).2) := rfl
  rw [e]
  generalize gs.getD i 0 = g at *
  generalize (atP ps ((i + 1) % ps.length)).1 - (atP ps i).1 = x at *
  generalize (atP ps ((i + 1) % ps.length)).2 - (atP ps i).2 = y at *
  show Calls Try.prog 88 #[ptrV g] w fun e w'' => e = .returned (vecX (-x) (-y)) ∧ Below w.heap.size w w''
  clear hR hb h1 h2 e
  go_enter Try.func88, Try.ntmps88
  go_wp2_with fail
  refine hS.out.mono ?_
  rintro e w1 ⟨rfl, b1⟩
  go_wp2_with fail
  refine (hQ.out _).mono ?_
  rintro e w2 ⟨rfl, b2⟩
  have b3 := below_then b1 b2
  have hV2 := (b3.block _ (Array.getElem?_eq_some_iff.1 hV.out).1).trans hV.out
  obtain ⟨u0, u1, f0, f1⟩ := pr_cells hV2
  have HN := Lib.hid (pr_set hV2 (.int .i64 (-x)) (.int .i64 (-y)))
  have HB := Lib.hid (pr_below (hB.out.trans (b3.mono hB.out.size)) (Nat.le_refl _) (.int .i64 (-x)) (.int .i64 (-y)))
  clear b1 b2 b3 hV2
  go_wp2_with fail
  exact cell_back (g := w.heap.size) rfl rfl rfl HN.out ⟨rfl, HB.out⟩

def turnP (p : Pt) : Pt := (-p.2, p.1)
theorem small_rows {ps : List Pt} (h : ps.length ≤ 8) : SmallM (rowsOf ps) := by
  have key : ∀ k, k ≤ ps.length → lenTo (rowsOf ps) k = 2 * k := by
    intro k
    induction k with
    | zero => intro _; rfl
    | succ k ih =>
      intro hk
      rw [lenTo_succ (by rw [rowsOf_len]; omega), ih (by omega), rowsOf_at (by omega)]
      simp; omega
  unfold SmallM
  rw [rowsOf_len, key _ (Nat.le_refl _)]
  omega
theorem small_nil : SmallM [] := by unfold SmallM; simp [lenTo]
/-- Rows that are told of a path, or none; and true. -/
def RowsGot (L : List (List Int)) (f : List Pt → List Pt) (w : World) (e : Ending) (w' : World) : Prop :=
  (∃ (A' : Option Addr) (n' c' : Nat), e = .returned (.tuple #[.slice A' n' c', .bool (pathB L)]) ∧ (∃ gs, OwnM w' w.heap.size A' n' c' gs (ifR L fun l => rowsOf (f l))) ∧ SmallM (ifR L fun l => rowsOf (f l))) ∧ Below w.heap.size w w'

end Go.Proofs.Ytdnegamminhbfaa
