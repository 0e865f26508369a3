/- Contracts of chapter 2: triangles, their areas and kinds. -/
import Derived.Test.YtliplbifgldjeaaSMany
import Derived.Test.YtliplbifgldjeaaApp
import Derived.Lib.QuietBelow
namespace Go.Proofs.Ytliplbifgldjeaa
open Go.RowKit Go.Sort

/-- A list that is a triangle. -/
noncomputable def triLB (xs : List Int) : Bool := decide (xs.length = 3) && bundleB xs && triB (xs.getD 0 0) (xs.getD 1 0) (xs.getD 2 0)
theorem triLB_len {xs : List Int} (h : ¬ xs.length = 3) : triLB xs = false := by unfold triLB; simp [h]
theorem triLB_not {xs : List Int} (h : bundleB xs = false) : triLB xs = false := by unfold triLB; simp [h]
theorem triLB_of {xs : List Int} (h3 : xs.length = 3) (h : bundleB xs = true) : triLB xs = triB (xs.getD 0 0) (xs.getD 1 0) (xs.getD 2 0) := by unfold triLB; simp [h3, h]
/-- Three lengths in order that are sides. -/
def TriP (a b c : Int) : Prop := 1 ≤ a ∧ a ≤ b ∧ b ≤ c ∧ c ≤ 60 ∧ c < a + b
theorem triB_asc {a b c : Int} (_h1 : 1 ≤ a) (h2 : a ≤ b) (h3 : b ≤ c) : triB a b c = decide (c < a + b) := by
  unfold triB
  rw [Bool.eq_iff_iff]
  simp only [Bool.and_eq_true, decide_eq_true_eq]
  omega
theorem triLB_yes {xs : List Int} (h : triLB xs = true) : xs.length = 3 ∧ bundleB xs = true ∧ TriP (xs.getD 0 0) (xs.getD 1 0) (xs.getD 2 0) := by
  unfold triLB at h
  simp only [Bool.and_eq_true, decide_eq_true_eq] at h
  obtain ⟨⟨h3, hb⟩, ht⟩ := h
  have hbd := bundleB_true hb
  have b0 := hbd.2.2.1 0 (by omega)
  have b2 := hbd.2.2.1 2 (by omega)
  have a0 := hbd.2.2.2 0 (by omega)
  have a1 := hbd.2.2.2 1 (by omega)
  refine ⟨h3, hb, b0.1, a0, a1, b2.2, ?_⟩
  rw [triB_asc b0.1 a0 a1] at ht
  simpa using ht
theorem triLB_mk {a b c : Int} (h : TriP a b c) : triLB [a, b, c] = true := by
  obtain ⟨h1, h2, h3, h4, h5⟩ := h
  have hb : bundleB [a, b, c] = true := bundleB_mk ⟨by simp, by simp, fun j hj => by
    match j, hj with
    | 0, _ => exact ⟨h1, by show a ≤ 60; omega⟩
    | 1, _ => exact ⟨by show 1 ≤ b; omega, by show b ≤ 60; omega⟩
    | 2, _ => exact ⟨by show 1 ≤ c; omega, h4⟩, fun j hj => by
    match j, hj with
    | 0, _ => exact h2
    | 1, _ => exact h3⟩
  rw [triLB_of rfl hb]
  show triB a b c = true
  rw [triB_asc h1 h2 h3]
  simpa using h5
theorem list3 {xs : List Int} (h : xs.length = 3) : xs = [xs.getD 0 0, xs.getD 1 0, xs.getD 2 0] :=
  match xs, h with
  | [_, _, _], _ => rfl
theorem keep_below {P : Program} {f : FuncId} {args : Array Value} {w : World} {v : Value} (h : Calls P f args w fun e w' => e = .returned v ∧ w = w') : Calls P f args w fun e w' => e = .returned v ∧ Below w.heap.size w w' :=
  h.mono fun _ _ ⟨he, hw⟩ => ⟨he, by subst hw; exact Below.refl _ _⟩
theorem mul_bd {a b A B : Int} (h1 : 0 ≤ a) (h2 : a ≤ A) (h3 : 0 ≤ b) (h4 : b ≤ B) : 0 ≤ a * b ∧ a * b ≤ A * B :=
  ⟨Int.mul_nonneg h1 h3, Int.mul_le_mul h2 h4 h3 (by omega)⟩

theorem three_set {W : World} {g : Nat} {a b c : Value} {T : TypeId} (h : W.heap[g]? = some (.cells #[a, b, c] T (0, 0))) (x y z : Value) :
    (((W.setCell ⟨g, 0, none⟩ x).setCell ⟨g, 1, none⟩ y).setCell ⟨g, 2, none⟩ z).heap[g]? = some (.cells #[x, y, z] T (0, 0)) := by
  have h1 := heap_setCell_same W g 0 _ _ x h
  have h2 := heap_setCell_same _ g 1 _ _ y h1
  have h3 := heap_setCell_same _ g 2 _ _ z h2
  simpa using h3
theorem three_cells {W : World} {g : Nat} {a b c : Value} {T : TypeId} (h : W.heap[g]? = some (.cells #[a, b, c] T (0, 0))) :
    W.cell? ⟨g, 0, none⟩ = some a ∧ W.cell? ⟨g, 1, none⟩ = some b ∧ W.cell? ⟨g, 2, none⟩ = some c ∧ W.frozen? ⟨g, 0, none⟩ = false ∧ W.frozen? ⟨g, 1, none⟩ = false ∧ W.frozen? ⟨g, 2, none⟩ = false := by
  refine ⟨?_, ?_, ?_, frozen_of_row W _ 0 _ _ h, frozen_of_row W _ 1 _ _ h, frozen_of_row W _ 2 _ _ h⟩
  · rw [cell_of_row W _ 0 _ _ _ h]; rfl
  · rw [cell_of_row W _ 1 _ _ _ h]; rfl
  · rw [cell_of_row W _ 2 _ _ _ h]; rfl
theorem three_below {w W : World} {g : Nat} (h : Below w.heap.size w W) (hg : w.heap.size ≤ g) (x y z : Value) :
    Below w.heap.size w (((W.setCell ⟨g, 0, none⟩ x).setCell ⟨g, 1, none⟩ y).setCell ⟨g, 2, none⟩ z) :=
  ((h.setCell (p := ⟨g, 0, none⟩) hg _).setCell (p := ⟨g, 1, none⟩) hg _).setCell (p := ⟨g, 2, none⟩) hg _

/-- The answer 'none' of triangleOf. -/
def NoTri (w : World) (e : Ending) (w' : World) : Prop := e = .returned (.tuple #[.agg #[.int .i64 0, .int .i64 0, .int .i64 0], .bool false]) ∧ Below w.heap.size w w'
end Go.Proofs.Ytliplbifgldjeaa
