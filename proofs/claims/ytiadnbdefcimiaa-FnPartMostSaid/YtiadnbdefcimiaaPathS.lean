/- Joined: PathS, PathS2, PathS3, PathS4. -/
import Derived.Test.YtiadnbdefcimiaaPathR
import Derived.Test.YtiadnbdefcimiaaKit
import Derived.Test.YtiadnbdefcimiaaDiv
import Derived.BigQuiet
/- The model's reading of a path; its corners. -/
namespace Go.Proofs.Ytiadnbdefcimiaa
open Go.RowKit Go.Sort Go.Lib

end Go.Proofs.Ytiadnbdefcimiaa

/- The model's corners, areas, rims. -/
namespace Go.Proofs.Ytiadnbdefcimiaa
open Go.RowKit Go.Sort Go.Lib

abbrev ptRow (p : Pt) : List Int := [p.1, p.2]
/-- Points as rows. -/
def rowsOf (ps : List Pt) : List (List Int) := ps.map ptRow
theorem rowsOf_len (ps : List Pt) : (rowsOf ps).length = ps.length := by simp [rowsOf]
theorem rowsOf_at {ps : List Pt} {i : Nat} (h : i < ps.length) : rowL (rowsOf ps) i = ptRow (atP ps i) := by
  simp [rowL, rowsOf, atP, List.getD_eq_getElem?_getD, h]
theorem rowsOf_succ {f : Nat → Pt} (k : Nat) : rowsOf ((List.range (k + 1)).map f) = rowsOf ((List.range k).map f) ++ [ptRow (f k)] := by
  simp [rowsOf, List.range_succ]
theorem OwnM.fresh {w : World} {B n c : Nat} {A : Option Addr} {gs : List Nat} {L : List (List Int)} (h : OwnM w B A n c gs L) : w.heap.size ∉ gs := fun hm => by
  obtain ⟨i, hi, e⟩ := List.getElem_of_mem hm
  have hi' : i < L.length := by rw [← h.len]; exact hi
  have := (h.rows i hi').2.lt
  have e2 : gs.getD i 0 = w.heap.size := by simp [List.getD_eq_getElem?_getD, hi, e]
  omega
theorem box_two (w : World) (o : Obj) (v : Value) (t : TypeId) : ((w.alloc o).alloc (.cells #[v] t)).cell? ⟨w.heap.size + 1, 0, none⟩ = some v := by
  rw [cell_of_row _ (w.heap.size + 1) 0 _ _ _ (al_new2 w _ _)]; rfl
theorem row_new (w : World) (r : List Int) (o : Obj) (h : r.length ≤ 16777216) : RowBlk ((w.alloc (.cells (ints r).toArray 3)).alloc o) w.heap.size r := ⟨al_old (World.alloc_heap_new w _), h⟩
theorem box_one (w : World) (v : Value) (t : TypeId) : (w.alloc (.cells #[v] t)).cell? ⟨w.heap.size, 0, none⟩ = some v := by
  rw [cell_of_row _ w.heap.size 0 _ _ _ (World.alloc_heap_new w _)]; rfl

end Go.Proofs.Ytiadnbdefcimiaa

/- The model's areas and rims. -/
namespace Go.Proofs.Ytiadnbdefcimiaa
open Go.RowKit Go.Sort Go.Lib

theorem cor_sq {l : List Pt} (h : IsPath l) {i j : Nat} (hi : i ≤ l.length) (hj : j ≤ l.length) : ∀ a b : Int, (a = (cor l i).1 ∨ a = (cor l i).2) → (b = (cor l j).1 ∨ b = (cor l j).2) → -1000000 ≤ a * b ∧ a * b ≤ 1000000 := fun a b ha hb => by
  have h1 := h.bd72 hi
  have h2 := h.bd72 hj
  have := mul_sq (a := a) (b := b) (A := 72) (B := 72) (by rcases ha with rfl | rfl <;> omega) (by rcases ha with rfl | rfl <;> omega) (by rcases hb with rfl | rfl <;> omega) (by rcases hb with rfl | rfl <;> omega)
  omega

end Go.Proofs.Ytiadnbdefcimiaa

/- The model's divisors and rims; areas, rims, corners of lists. -/
namespace Go.Proofs.Ytiadnbdefcimiaa
open Go.RowKit Go.Sort Go.Lib

/-- What is told of a path, or 0. -/
noncomputable def ifP (L : List (List Int)) (f : List Pt → Int) : Int := if pathB L then f (ptsL L) else 0
theorem ifP_yes {L : List (List Int)} (f : List Pt → Int) (h : pathB L = true) : ifP L f = f (ptsL L) := by unfold ifP; rw [if_pos h]
theorem ifP_no {L : List (List Int)} (f : List Pt → Int) (h : pathB L = false) : ifP L f = 0 := by unfold ifP; rw [h]; rfl
/-- The rows that are told of a path, or none. -/
noncomputable def ifR (L : List (List Int)) (f : List Pt → List (List Int)) : List (List Int) := if pathB L then f (ptsL L) else []
theorem ifR_yes {L : List (List Int)} (f : List Pt → List (List Int)) (h : pathB L = true) : ifR L f = f (ptsL L) := by unfold ifR; rw [if_pos h]
theorem ifR_no {L : List (List Int)} (f : List Pt → List (List Int)) (h : pathB L = false) : ifR L f = [] := by unfold ifR; rw [h]; rfl
theorem ret_ib3 {x y : Int} {a b : Bool} (h1 : x = y) (h : a = b) : Ending.returned (.tuple #[.int .i64 x, .bool a]) = .returned (.tuple #[.int .i64 y, .bool b]) := by rw [h, h1]
theorem ret_sb3 {A : Option Addr} {n c m : Nat} {a b : Bool} (h1 : n = m) (h : a = b) : Ending.returned (.tuple #[.slice A n c, .bool a]) = .returned (.tuple #[.slice A m c, .bool b]) := by rw [h, h1]

end Go.Proofs.Ytiadnbdefcimiaa
