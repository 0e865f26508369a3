/- The program's areas and pieces of zonogons. -/
import Derived.Test.YtdnegamminhbfaaOrdI3
import Derived.Test.YtdnegamminhbfaaArea
namespace Go.Proofs.Ytdnegamminhbfaa
open Go.RowKit Go.Sort Go.Lib Go.Shelf
attribute [local go_sem] Oper.semAt_some

theorem box_cell {W : World} {g : Nat} {v : Value} {T : TypeId} (h : W.heap[g]? = some (.cells #[v] T (0, 0))) : W.cell? ⟨g, 0, none⟩ = some v ∧ W.frozen? ⟨g, 0, none⟩ = false :=
  ⟨by rw [cell_of_row W _ 0 _ _ _ h]; rfl, frozen_of_row W _ 0 _ _ h⟩
theorem box_set {W : World} {g : Nat} {v : Value} {T : TypeId} (h : W.heap[g]? = some (.cells #[v] T (0, 0))) (u : Value) : (W.setCell ⟨g, 0, none⟩ u).heap[g]? = some (.cells #[u] T (0, 0)) := by
  have h1 := heap_setCell_same W g 0 _ _ u h
  simpa using h1
theorem sq81 {x y u v : Int} (h1 : stepP (x, y)) (h2 : stepP (u, v)) : ∀ a b : Int, (a = x ∨ a = y) → (b = u ∨ b = v) → -1000000 ≤ a * b ∧ a * b ≤ 1000000 := fun a b ha hb => by
  unfold stepP at h1 h2
  have := mul_sq (a := a) (b := b) (A := 9) (B := 9) (by rcases ha with rfl | rfl <;> omega) (by rcases ha with rfl | rfl <;> omega) (by rcases hb with rfl | rfl <;> omega) (by rcases hb with rfl | rfl <;> omega)
  omega

end Go.Proofs.Ytdnegamminhbfaa
