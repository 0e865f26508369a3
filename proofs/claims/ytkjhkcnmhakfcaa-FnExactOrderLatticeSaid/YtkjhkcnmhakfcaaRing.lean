/- Corners: a ring of blocks; the step of a corner. -/
import Derived.Test.YtkjhkcnmhakfcaaDiv
namespace Go.Proofs.Ytkjhkcnmhakfcaa
open Go.RowKit Go.Sort Go.Lib

abbrev ptrV (g : Nat) : Value := .pointer (some ⟨g, 0, none⟩)
abbrev cnO (x y : Int) (g2 : Nat) : Obj := .cells #[.int .i64 x, .int .i64 y, ptrV g2] 53
/-- A corner's block. -/
def CnAt (w : World) (g : Nat) (x y : Int) (g2 : Nat) : Prop := w.heap[g]? = some (.cells #[.int .i64 x, .int .i64 y, ptrV g2] 53 (0, 0))
theorem CnAt.lt {w : World} {g g2 : Nat} {x y : Int} (h : CnAt w g x y g2) : g < w.heap.size := (Array.getElem?_eq_some_iff.1 h).1
theorem CnAt.same {w w' : World} {g g2 : Nat} {x y : Int} (h : CnAt w g x y g2) (hb : Below w.heap.size w w') : CnAt w' g x y g2 := (hb.block _ h.lt).trans h
theorem CnAt.cells {w : World} {g g2 : Nat} {x y : Int} (h : CnAt w g x y g2) : w.cell? ⟨g, 0, none⟩ = some (.int .i64 x) ∧ w.cell? ⟨g, 1, none⟩ = some (.int .i64 y) ∧ w.cell? ⟨g, 2, none⟩ = some (ptrV g2) := by
  refine ⟨?_, ?_, ?_⟩
  · rw [cell_of_row w _ 0 _ _ _ h]; rfl
  · rw [cell_of_row w _ 1 _ _ _ h]; rfl
  · rw [cell_of_row w _ 2 _ _ _ h]; rfl

set_option maxRecDepth 100000 in
set_option maxHeartbeats 4000000 in
theorem step_any (g g2 g3 : Nat) (x y u v : Int) (w : World) (h : CnAt w g x y g2) (h2 : CnAt w g2 u v g3) (hx : -1000000 ≤ u - x ∧ u - x ≤ 1000000) (hy : -1000000 ≤ v - y ∧ v - y ≤ 1000000) :
    Calls Try.prog 86 #[ptrV g] w fun e w' => e = .returned (vecX (u - x) (v - y)) ∧ Below w.heap.size w w' := by
  have hb := below_alloc (Below.refl w.heap.size w) (vecO 0 0)
  obtain ⟨k0, k1, k2⟩ := (h.same hb).cells
  obtain ⟨k3, k4, k5⟩ := (h2.same hb).cells
  have hR := World.alloc_heap_new w (vecO 0 0)
  have hM := fun W => minus_any u v x y W hx hy
  have HB := Lib.hid hb
  have HR := Lib.hid hR
  clear h h2 hx hy hb hR
  go_enter Try.func86, Try.ntmps86
  go_wp2_with fail
  go_region_with (go_at_call 127; refine (hM _).mono ?_; rintro e w3 ⟨rfl, b3⟩; have hR3 := (b3.block _ (Array.getElem?_eq_some_iff.1 HR.out).1).trans HR.out; obtain ⟨j0, j1, f0, f1⟩ := pr_cells hR3; have hb3 := (HB.out.drew).trans (b3.mono HB.out.size); clear b3)
  all_goals
    go_wp2_with fail
    have hRn := pr_set hR3 (.int .i64 (u - x)) (.int .i64 (v - y))
    have b5 := pr_below hb3 (Nat.le_refl _) (.int .i64 (u - x)) (.int .i64 (v - y))
    generalize (w3.setCell ⟨w.heap.size, 0, none⟩ (.int .i64 (u - x))).setCell ⟨w.heap.size, 1, none⟩ (.int .i64 (v - y)) = W4 at hRn b5 ⊢
    obtain ⟨u0, u1, _, _⟩ := pr_cells hRn
    refine bodyPost_ret (v := vecX (u - x) (v - y)) ?_ rfl ⟨rfl, b5⟩
    simp [results, Try.f86, go_sem, u0, u1]

theorem isStepNumber_any (x : Int) (w : World) : Calls Try.prog 147 #[.int .i64 x] w fun e w' => e = .returned (.bool (decide (-9 ≤ x) && decide (x ≤ 9))) ∧ w = w' := by
  by_cases h1 : -9 ≤ x
  · have d1 : decide (x ≥ -9) = true := by simpa using h1
    go_enter Try.func147, Try.ntmps147
    go_wp2
    go_ret
    exact ⟨by simp [h1], rfl⟩
  · have d1 : decide (x ≥ -9) = false := by simpa using h1
    go_enter Try.func147, Try.ntmps147
    go_wp2
    go_ret
    exact ⟨by simp, rfl⟩
end Go.Proofs.Ytkjhkcnmhakfcaa
