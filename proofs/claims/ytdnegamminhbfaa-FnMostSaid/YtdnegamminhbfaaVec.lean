/- Contracts of the program's vectors. -/
import Derived.Test.YtdnegamminhbfaaRowH
import Derived.Test.YtdnegamminhbfaaPathP
import Derived.Lib.QuietBelow
namespace Go.Proofs.Ytdnegamminhbfaa
open Go.RowKit Go.Sort Go.Lib

abbrev vecX (x y : Int) : Value := .agg #[.int .i64 x, .int .i64 y]
abbrev vecO (x y : Int) : Obj := .cells #[.int .i64 x, .int .i64 y] 65
theorem pr_cells {W : World} {g : Nat} {a b : Value} {T : TypeId} (h : W.heap[g]? = some (.cells #[a, b] T (0, 0))) :
    W.cell? ⟨g, 0, none⟩ = some a ∧ W.cell? ⟨g, 1, none⟩ = some b ∧ W.frozen? ⟨g, 0, none⟩ = false ∧ W.frozen? ⟨g, 1, none⟩ = false := by
  refine ⟨?_, ?_, frozen_of_row W _ 0 _ _ h, frozen_of_row W _ 1 _ _ h⟩
  · rw [cell_of_row W _ 0 _ _ _ h]; rfl
  · rw [cell_of_row W _ 1 _ _ _ h]; rfl
theorem pr_set {W : World} {g : Nat} {a b : Value} {T : TypeId} (h : W.heap[g]? = some (.cells #[a, b] T (0, 0))) (x y : Value) :
    ((W.setCell ⟨g, 0, none⟩ x).setCell ⟨g, 1, none⟩ y).heap[g]? = some (.cells #[x, y] T (0, 0)) := by
  have h1 := heap_setCell_same W g 0 _ _ x h
  have h2 := heap_setCell_same _ g 1 _ _ y h1
  simpa using h2
theorem pr_below {w W : World} {B g : Nat} (h : Below B w W) (hg : B ≤ g) (x y : Value) :
    Below B w ((W.setCell ⟨g, 0, none⟩ x).setCell ⟨g, 1, none⟩ y) := (h.setCell (p := ⟨g, 0, none⟩) hg _).setCell (p := ⟨g, 1, none⟩) hg _
theorem al_old {w : World} {g : Nat} {o o' : Obj} (h : w.heap[g]? = some o) : (w.alloc o').heap[g]? = some o := (Below.heap_alloc _ _ _ (Array.getElem?_eq_some_iff.1 h).1).trans h
theorem al_new2 (w : World) (o o' : Obj) : ((w.alloc o).alloc o').heap[w.heap.size + 1]? = some o' := by
  have := World.alloc_heap_new (w.alloc o) o'
  rwa [World.size_alloc] at this
theorem al_new3 (w : World) (o o' o'' : Obj) : (((w.alloc o).alloc o').alloc o'').heap[w.heap.size + 1 + 1]? = some o'' := by
  have := al_new2 (w.alloc o) o' o''
  rwa [World.size_alloc] at this

set_option maxRecDepth 100000 in
set_option maxHeartbeats 1000000 in
theorem cross_any (x y u v : Int) (w : World) (h : ∀ a b : Int, (a = x ∨ a = y) → (b = u ∨ b = v) → -1000000 ≤ a * b ∧ a * b ≤ 1000000) :
    Calls Try.prog 124 #[vecX x y, vecX u v] w fun e w' => e = .returned (.int .i64 (crs (x, y) (u, v))) ∧ Below w.heap.size w w' := by
  have h1 := h x v (.inl rfl) (.inr rfl)
  have h2 := h y u (.inr rfl) (.inl rfl)
  have v1 : IntKind.i64.wrap (x * v) = x * v := wrap_is rfl (by omega) (by omega)
  have v2 : IntKind.i64.wrap (y * u) = y * u := wrap_is rfl (by omega) (by omega)
  have v3 : IntKind.i64.wrap (x * v - y * u) = crs (x, y) (u, v) := wrap_is rfl (by omega) (by omega)
  have hP := al_old (o' := vecO u v) (World.alloc_heap_new w (vecO x y))
  have hQ := al_new2 w (vecO x y) (vecO u v)
  obtain ⟨k0, k1, _, _⟩ := pr_cells hP
  obtain ⟨k2, k3, _, _⟩ := pr_cells hQ
  have b := below_alloc (below_alloc (Below.refl w.heap.size w) (vecO x y)) (vecO u v)
  clear hP hQ h h1 h2
  generalize crs (x, y) (u, v) = z at *
  go_enter Try.func124, Try.ntmps124
  go_wp2_with fail
  go_ret
  exact ⟨rfl, b⟩

set_option maxRecDepth 100000 in
set_option maxHeartbeats 1000000 in
theorem plus_any (x y u v : Int) (w : World) (h1 : -1000000 ≤ x + u ∧ x + u ≤ 1000000) (h2 : -1000000 ≤ y + v ∧ y + v ≤ 1000000) :
    Calls Try.prog 122 #[vecX x y, vecX u v] w fun e w' => e = .returned (vecX (x + u) (y + v)) ∧ Below w.heap.size w w' := by
  have v1 : IntKind.i64.wrap (x + u) = x + u := wrap_is rfl (by omega) (by omega)
  have v2 : IntKind.i64.wrap (y + v) = y + v := wrap_is rfl (by omega) (by omega)
  have hP := al_old (o' := vecO 0 0) (al_old (o' := vecO u v) (World.alloc_heap_new w (vecO x y)))
  have hQ := al_old (o' := vecO 0 0) (al_new2 w (vecO x y) (vecO u v))
  have hR := al_new3 w (vecO x y) (vecO u v) (vecO 0 0)
  obtain ⟨k0, k1, _, _⟩ := pr_cells hP
  obtain ⟨k2, k3, _, _⟩ := pr_cells hQ
  obtain ⟨k4, k5, f4, f5⟩ := pr_cells hR
  have HR := Lib.hid (al_new3 w (vecO x y) (vecO u v) (vecO (x + u) (y + v)))
  have HB := Lib.hid (below_alloc (below_alloc (below_alloc (Below.refl w.heap.size w) (vecO x y)) (vecO u v)) (vecO (x + u) (y + v)))
  clear hP hQ hR h1 h2
  go_enter Try.func122, Try.ntmps122
  go_wp2_with fail
  obtain ⟨u0, u1, _, _⟩ := pr_cells HR.out
  refine bodyPost_ret (v := vecX (x + u) (y + v)) ?_ rfl ⟨rfl, HB.out⟩
  simp [results, Try.f122, go_sem, u0, u1]

set_option maxRecDepth 100000 in
set_option maxHeartbeats 1000000 in
theorem minus_any (x y u v : Int) (w : World) (h1 : -1000000 ≤ x - u ∧ x - u ≤ 1000000) (h2 : -1000000 ≤ y - v ∧ y - v ≤ 1000000) :
    Calls Try.prog 131 #[vecX x y, vecX u v] w fun e w' => e = .returned (vecX (x - u) (y - v)) ∧ Below w.heap.size w w' := by
  have v1 : IntKind.i64.wrap (x - u) = x - u := wrap_is rfl (by omega) (by omega)
  have v2 : IntKind.i64.wrap (y - v) = y - v := wrap_is rfl (by omega) (by omega)
  have hP := al_old (o' := vecO 0 0) (al_old (o' := vecO u v) (World.alloc_heap_new w (vecO x y)))
  have hQ := al_old (o' := vecO 0 0) (al_new2 w (vecO x y) (vecO u v))
  have hR := al_new3 w (vecO x y) (vecO u v) (vecO 0 0)
  obtain ⟨k0, k1, _, _⟩ := pr_cells hP
  obtain ⟨k2, k3, _, _⟩ := pr_cells hQ
  obtain ⟨k4, k5, f4, f5⟩ := pr_cells hR
  have HR := Lib.hid (al_new3 w (vecO x y) (vecO u v) (vecO (x - u) (y - v)))
  have HB := Lib.hid (below_alloc (below_alloc (below_alloc (Below.refl w.heap.size w) (vecO x y)) (vecO u v)) (vecO (x - u) (y - v)))
  clear hP hQ hR h1 h2
  go_enter Try.func131, Try.ntmps131
  go_wp2_with fail
  obtain ⟨u0, u1, _, _⟩ := pr_cells HR.out
  refine bodyPost_ret (v := vecX (x - u) (y - v)) ?_ rfl ⟨rfl, HB.out⟩
  simp [results, Try.f131, go_sem, u0, u1]

set_option maxRecDepth 100000 in
set_option maxHeartbeats 1000000 in
theorem opposite_any (x y : Int) (w : World) (h1 : -1000000 ≤ x ∧ x ≤ 1000000) (h2 : -1000000 ≤ y ∧ y ≤ 1000000) :
    Calls Try.prog 90 #[vecX x y] w fun e w' => e = .returned (vecX (-x) (-y)) ∧ Below w.heap.size w w' := by
  have v1 : IntKind.i64.wrap (-x) = -x := wrap_is rfl (by omega) (by omega)
  have v2 : IntKind.i64.wrap (-y) = -y := wrap_is rfl (by omega) (by omega)
  have hP := al_old (o' := vecO 0 0) (World.alloc_heap_new w (vecO x y))
  have hR := al_new2 w (vecO x y) (vecO 0 0)
  obtain ⟨k0, k1, _, _⟩ := pr_cells hP
  obtain ⟨k4, k5, f4, f5⟩ := pr_cells hR
  have HR := Lib.hid (al_new2 w (vecO x y) (vecO (-x) (-y)))
  have HB := Lib.hid (below_alloc (below_alloc (Below.refl w.heap.size w) (vecO x y)) (vecO (-x) (-y)))
  clear hP hR h1 h2
  go_enter Try.func90, Try.ntmps90
  go_wp2_with fail
  obtain ⟨u0, u1, _, _⟩ := pr_cells HR.out
  refine bodyPost_ret (v := vecX (-x) (-y)) ?_ rfl ⟨rfl, HB.out⟩
  simp [results, Try.f90, go_sem, u0, u1]

set_option maxRecDepth 100000 in
set_option maxHeartbeats 1000000 in
theorem list_any (x y : Int) (w : World) :
    Calls Try.prog 130 #[vecX x y] w fun e w' => e = .returned (.slice (some ⟨w.heap.size + 1, 0, none⟩) 2 2) ∧ RowBlk w' (w.heap.size + 1) [x, y] ∧ Below w.heap.size w w' := by
  have hP := World.alloc_heap_new w (vecO x y)
  obtain ⟨k0, k1, _, _⟩ := pr_cells hP
  have HR := Lib.hid (RowBlk.made (w.alloc (vecO x y)) [x, y] (by simp))
  have HB := Lib.hid (below_alloc (below_alloc (Below.refl w.heap.size w) (vecO x y)) (.cells (ints [x, y]).toArray 3))
  clear hP
  go_enter Try.func130, Try.ntmps130
  go_wp2_with fail
  go_ret
  have h := HR.out
  rw [World.size_alloc] at h
  exact ⟨rfl, h, HB.out⟩

end Go.Proofs.Ytdnegamminhbfaa
