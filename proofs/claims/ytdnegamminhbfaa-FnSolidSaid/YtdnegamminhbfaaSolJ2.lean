/- Contracts of the program's functions of chapter 8: a face. -/
import Derived.Test.YtdnegamminhbfaaSolI
namespace Go.Proofs.Ytdnegamminhbfaa
open Go.RowKit Go.Sort

abbrev thrV (a b c : Int) : Value := .agg #[.int .i64 a, .int .i64 b, .int .i64 c]
abbrev thrO (a b c : Int) : Obj := .cells #[.int .i64 a, .int .i64 b, .int .i64 c] 93
def ThrAt (w : World) (g : Nat) (a b c : Int) : Prop := w.heap[g]? = some (.cells #[.int .i64 a, .int .i64 b, .int .i64 c] 93 (0, 0))
theorem ThrAt.cells {w : World} {g : Nat} {a b c : Int} (h : ThrAt w g a b c) : w.cell? ⟨g, 0, none⟩ = some (.int .i64 a) ∧ w.cell? ⟨g, 1, none⟩ = some (.int .i64 b) ∧ w.cell? ⟨g, 2, none⟩ = some (.int .i64 c) ∧ ∀ j, w.frozen? ⟨g, j, none⟩ = false := by
  unfold ThrAt at h
  refine ⟨?_, ?_, ?_, fun j => frozen_of_row w _ j _ _ h⟩
  · rw [cell_of_row w _ 0 _ _ _ h]; rfl
  · rw [cell_of_row w _ 1 _ _ _ h]; rfl
  · rw [cell_of_row w _ 2 _ _ _ h]; rfl
theorem ThrAt.put {w : World} {g : Nat} {a b c : Int} (h : ThrAt w g a b c) (x y z : Int) : ThrAt (((w.setCell ⟨g, 0, none⟩ (.int .i64 x)).setCell ⟨g, 1, none⟩ (.int .i64 y)).setCell ⟨g, 2, none⟩ (.int .i64 z)) g x y z := by
  have h1 := heap_setCell_same w g 0 _ _ (.int .i64 x) h
  have h2 := heap_setCell_same _ g 1 _ _ (.int .i64 y) h1
  have h3 := heap_setCell_same _ g 2 _ _ (.int .i64 z) h2
  unfold ThrAt
  rw [h3]; simp
theorem thr_back {f : Func} {k : Nat} (hf : f.results = #[.cell k 93]) {W : World} {g : Nat} {x y z : Int} {R : Ending → World → Prop} {a : Act} (ht : a.defers = []) (hr : a.tmps.getD k undef = .pointer (some ⟨g, 0, none⟩)) (h : ThrAt W g x y z) (h2 : R (.returned (thrV x y z)) W) :
    bodyPost Try.prog f R .ret a W := by
  obtain ⟨u0, u1, u2, _⟩ := h.cells
  refine bodyPost_ret (v := thrV x y z) ?_ ht h2
  have hr' : a.tmps[k]?.getD undef = .pointer (some ⟨g, 0, none⟩) := by simpa using hr
  simp [results, hf, go_sem, u0, u1, u2, hr']

set_option maxRecDepth 100000 in
set_option maxHeartbeats 4000000 in
theorem face_any (xs : List Int) (i j k : Int) (w : World) (hl : xs.length = 6) (hi : 0 ≤ i ∧ i ≤ 3) (hj : 0 ≤ j ∧ j ≤ 3) (hk : 0 ≤ k ∧ k ≤ 3) (h1 : i ≠ j) (h2 : i ≠ k) (h3 : j ≠ k) :
    Calls Try.prog 136 #[solV xs, .int .i64 i, .int .i64 j, .int .i64 k] w fun e w' => e = .returned (thrV (xs.getD (edg i j) 0) (xs.getD (edg i k) 0) (xs.getD (edg j k) 0)) ∧ Below w.heap.size w w' := by
  have hA := fun W => between_any xs i j W hl hi hj h1
  have hB := fun W => between_any xs i k W hl hi hk h2
  have hC := fun W => between_any xs j k W hl hj hk h3
  generalize xs.getD (edg i j) 0 = x at *
  generalize xs.getD (edg i k) 0 = y at *
  generalize xs.getD (edg j k) 0 = z at *
  obtain ⟨x0, x1, x2, x3, x4, x5, rfl⟩ := six_of hl
  obtain ⟨W1, hW1⟩ : ∃ W1, W1 = (w.alloc (solO [x0, x1, x2, x3, x4, x5])).alloc (thrO 0 0 0) := ⟨_, rfl⟩
  have bW : Below w.heap.size w W1 := by rw [hW1]; exact below_alloc (below_alloc (Below.refl _ _) _) _
  have s1 : SolAt W1 w.heap.size [x0, x1, x2, x3, x4, x5] := by rw [hW1]; exact (SolAt.new w _).same (below_alloc (Below.refl _ _) _)
  have t1 : ThrAt W1 (w.heap.size + 1) 0 0 0 := by
    rw [hW1]
    have := World.alloc_heap_new (w.alloc (solO [x0, x1, x2, x3, x4, x5])) (thrO 0 0 0)
    rwa [World.size_alloc] at this
  obtain ⟨c0, c1, c2, c3, c4, c5, _⟩ := s1.cells
  have HT := Lib.hid (fun W' (h : Below W1.heap.size W1 W') => show ThrAt W' (w.heap.size + 1) 0 0 0 from (h.block _ (Array.getElem?_eq_some_iff.1 t1).1).trans t1)
  have HW := Lib.hid hW1
  have HBW := Lib.hid bW
  have y0 := cell_regrown c0
  have y1 := cell_regrown c1
  have y2 := cell_regrown c2
  have y3 := cell_regrown c3
  have y4 := cell_regrown c4
  have y5 := cell_regrown c5
  have cA : ∀ r d os, CallsIn Fence.wide r Try.prog 134 #[sixV x0 x1 x2 x3 x4 x5, .int .i64 i, .int .i64 j] (grow (redrawn W1 d) os) fun e w'' => e = .returned (.int .i64 x) ∧ ∃ p : Regrown, w'' = grow (redrawn W1 p.d) p.os := fun r d os => CallsIn.regrown_of (callsIn_wide.2 (hA _))
  have cB : ∀ r d os, CallsIn Fence.wide r Try.prog 134 #[sixV x0 x1 x2 x3 x4 x5, .int .i64 i, .int .i64 k] (grow (redrawn W1 d) os) fun e w'' => e = .returned (.int .i64 y) ∧ ∃ p : Regrown, w'' = grow (redrawn W1 p.d) p.os := fun r d os => CallsIn.regrown_of (callsIn_wide.2 (hB _))
  have cC : ∀ r d os, CallsIn Fence.wide r Try.prog 134 #[sixV x0 x1 x2 x3 x4 x5, .int .i64 j, .int .i64 k] (grow (redrawn W1 d) os) fun e w'' => e = .returned (.int .i64 z) ∧ ∃ p : Regrown, w'' = grow (redrawn W1 p.d) p.os := fun r d os => CallsIn.regrown_of (callsIn_wide.2 (hC _))
  have hfn : Fence.wide.fn 134 := trivial
  clear hA hB hC hW1 bW s1 t1 c0 c1 c2 c3 c4 c5 hl hi hj hk h1 h2 h3
  refine (callsIn_wide (n := 5)).1 ?_
  refine callsIn_of_wp Try.func136 rfl trivial ?_ rfl
  simp only [Try.ntmps136, List.size_toArray, List.length_cons, List.length_nil, Nat.reduceAdd, Nat.reduceSub, Array.replicate_succ, Array.replicate_zero, List.push_toArray, List.append_toArray, List.nil_append, List.cons_append]
  gi_wp2_with fail
  change Code.wpIn _ _ _ _ _ _ ((w.alloc (solO [x0, x1, x2, x3, x4, x5])).alloc (thrO 0 0 0))
  rw [← HW.out]
  refine region_qtail 12 (by kernel_rfl) (by kernel_rfl) ?_
  simp only [List.take_succ_cons, List.take_zero, List.drop_succ_cons, List.drop_zero]
  repeat (quiet_step_in (first | with_reducible exact cA _ _ _ | with_reducible exact cB _ _ _ | with_reducible exact cC _ _ _))
  refine wpQuietIn_nil ?_
  intro _ hw'
  obtain ⟨⟨dq, osq⟩, hw''⟩ := hw'
  subst hw''
  have bq := below_regrown W1 dq osq
  generalize grow (redrawn W1 dq) osq = wq at bq ⊢
  have HT2 := Lib.hid (HT.out wq bq)
  obtain ⟨g0, g1, g2, gf⟩ := (HT.out wq bq).cells
  clear y0 y1 y2 y3 y4 y5 cA cB cC
  gi_wp2_with fail
  trace_state
  refine thr_back (f := Try.f136) rfl rfl rfl (HT2.out.put x y z) ?_
  exact ⟨rfl, (((below_then HBW.out bq).setCell (p := ⟨w.heap.size + 1, 0, none⟩) (by show w.heap.size ≤ w.heap.size + 1; omega) _).setCell (p := ⟨w.heap.size + 1, 1, none⟩) (by show w.heap.size ≤ w.heap.size + 1; omega) _).setCell (p := ⟨w.heap.size + 1, 2, none⟩) (by show w.heap.size ≤ w.heap.size + 1; omega) _⟩
end Go.Proofs.Ytdnegamminhbfaa
