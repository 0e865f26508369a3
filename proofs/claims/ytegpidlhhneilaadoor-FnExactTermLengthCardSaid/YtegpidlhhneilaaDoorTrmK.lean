/- The program's lengths of walks, and walkOf, shortWalkOf. -/
import Derived.Test.YtegpidlhhneilaaDoorTrmI
import Derived.Test.YtegpidlhhneilaaDoorFloat
import Derived.Test.YtegpidlhhneilaaDoorTrmJ
namespace Go.Proofs.YtegpidlhhneilaaDoor
open Go.RowKit Go.Sort Go.Lib
set_option maxHeartbeats 1000000 in
set_option maxRecDepth 100000 in
theorem lenR_of (d n : Nat) (t : Tm) (hd : d ≤ 9) (hn : n ≤ 201) (ih : ∀ w, Calls Tryd.prog (lenId t) #[rcV t] w fun e w' => e = .returned (.int .i64 n) ∧ Below w.heap.size w w') (W : World) : Calls Tryd.prog 60 #[.agg #[.int .i64 d, tmV t]] W fun e w' => e = .returned (.int .i64 ((min (d * n) 201 : Nat) : Int)) ∧ Below W.heap.size W w' := by
  have hm := meth_len t
  have hc := lenId_call t
  have H := Lib.hid ih
  rw [tmV_is]
  generalize tyT t = T at *
  generalize rcV t = x at *
  generalize lenId t = fid at *
  clear ih
  refine (callsIn_wide (n := 5)).1 ?_
  refine callsIn_of_wp Tryd.func60 rfl trivial ?_ rfl
  simp only [Tryd.ntmps60, List.size_toArray, List.length_cons, List.length_nil, Nat.reduceAdd, Nat.reduceSub, Array.replicate_succ, Array.replicate_zero, List.push_toArray, List.append_toArray, List.nil_append, List.cons_append]
  gi_wp2_with fail
  have b1 : Below W.heap.size W (W.alloc (.cells #[.int .i64 d, .iface T x] 58)) := below_alloc (Below.refl _ _) _
  have y0 : (W.alloc (.cells #[.int .i64 d, .iface T x] 58)).cell? ⟨W.heap.size, 0, none⟩ = some (.int .i64 d) := by go_simp
  have y1 : (W.alloc (.cells #[.int .i64 d, .iface T x] 58)).cell? ⟨W.heap.size, 1, none⟩ = some (.iface T x) := by go_simp
  have bT := fun w (h : Below (W.alloc (.cells #[.int .i64 d, .iface T x] 58)).heap.size (W.alloc (.cells #[.int .i64 d, .iface T x] 58)) w) => below_then b1 h
  generalize W.alloc (.cells #[.int .i64 d, .iface T x] 58) = W1 at *
  generalize W.heap.size = B at *
  have z0 := cell_regrown y0
  have z1 := cell_regrown y1
  have HRG := Lib.hid (show Rg W1 W1.drew from regrown_of_below (Below.refl _ _).drew)
  clear y0 y1
  have hmul : IntKind.i64.wrap ((d : Int) * n) = (d : Int) * n := by
    have h1 : d * n ≤ 9 * 201 := Nat.mul_le_mul hd hn
    have h2 : ((d : Int) * n) = ((d * n : Nat) : Int) := by push_cast; rfl
    rw [h2]
    exact wrap_is rfl (by omega) (by omega)
  refine region_pick 7 [(true, 0), (true, 1), (true, 2), (true, 3), (false, 4), (false, 5), (false, 6), (false, 7)] (by kernel_rfl) (by kernel_rfl) (fun _ _ t _ _ h => by cases t <;> exact h) ?_
  simp only [pickOps, List.map_cons, List.map_nil, List.getD_cons_zero, List.getD_cons_succ]
  refine pick_read HRG.out (.pointer (some ⟨B, 0, none⟩)) rfl (fun _ => rfl) (by rintro _ ⟨⟨d, os⟩, rfl⟩; go_simp) ?_
  refine pick_read HRG.out (.int .i64 d) rfl (fun _ => rfl) (by rintro _ ⟨⟨d, os⟩, rfl⟩; go_simp) ?_
  refine pick_read HRG.out (.pointer (some ⟨B, 1, none⟩)) rfl (fun _ => rfl) (by rintro _ ⟨⟨d, os⟩, rfl⟩; go_simp) ?_
  refine pick_read HRG.out (.iface T x) rfl (fun _ => rfl) (by rintro _ ⟨⟨d, os⟩, rfl⟩; go_simp) ?_
  clear z0 z1
  refine pick_step (fun K hK => ?_)
  unfold wpStep
  go_simp
  refine ⟨trivial, (callsIn_wide.2 (H.out _)).mono ?_⟩
  rintro e w2 ⟨rfl, b2⟩
  have d2 : Below W1.heap.size W1 w2 := (Below.refl _ _).drew.trans b2
  refine hK _ _ (fun _ => regrown_of_below d2) ?_
  have d3 : Below B W w2 := bT _ d2
  clear hK K b2
  refine pick_step (fun K hK => ?_)
  unfold wpStep
  go_simp
  refine hK _ _ (fun _ => regrown_of_below d2) ?_
  clear hK K
  refine pick_step (fun K hK => ?_)
  unfold wpStep
  go_simp
  refine hK _ _ (fun _ => regrown_of_below d2) ?_
  clear hK K
  refine pick_step (fun K hK => ?_)
  unfold wpStep
  go_simp
  refine hK _ _ (fun h => absurd h (by omega)) ?_
  clear hK K
  unfold wpPick
  gi_wp2_with fail
  go_ret
  exact ⟨by rw [show ((min (d * n) 201 : Nat) : Int) = min ((d : Int) * n) 201 by have := Int.natCast_mul d n; omega]; rfl, d3⟩
set_option maxHeartbeats 1000000 in
set_option maxRecDepth 100000 in
theorem lenJ_of (n m : Nat) (t u : Tm) (hn : n ≤ 201) (hm' : m ≤ 201) (ih1 : ∀ w, Calls Tryd.prog (lenId t) #[rcV t] w fun e w' => e = .returned (.int .i64 n) ∧ Below w.heap.size w w') (ih2 : ∀ w, Calls Tryd.prog (lenId u) #[rcV u] w fun e w' => e = .returned (.int .i64 m) ∧ Below w.heap.size w w') (W : World) : Calls Tryd.prog 65 #[.agg #[tmV t, tmV u]] W fun e w' => e = .returned (.int .i64 ((min (n + m) 201 : Nat) : Int)) ∧ Below W.heap.size W w' := by
  have hm := meth_len t
  have hc := lenId_call t
  have hm2 := meth_len u
  have hc2 := lenId_call u
  have H := Lib.hid ih1
  have H2 := Lib.hid ih2
  rw [tmV_is, tmV_is u]
  generalize tyT t = T at *
  generalize rcV t = x at *
  generalize lenId t = fid at *
  generalize tyT u = T2 at *
  generalize rcV u = x2 at *
  generalize lenId u = fid2 at *
  clear ih1 ih2
  refine (callsIn_wide (n := 5)).1 ?_
  refine callsIn_of_wp Tryd.func65 rfl trivial ?_ rfl
  simp only [Tryd.ntmps65, List.size_toArray, List.length_cons, List.length_nil, Nat.reduceAdd, Nat.reduceSub, Array.replicate_succ, Array.replicate_zero, List.push_toArray, List.append_toArray, List.nil_append, List.cons_append]
  gi_wp2_with fail
  have b1 : Below W.heap.size W (W.alloc (.cells #[.iface T x, .iface T2 x2] 61)) := below_alloc (Below.refl _ _) _
  have y0 : (W.alloc (.cells #[.iface T x, .iface T2 x2] 61)).cell? ⟨W.heap.size, 0, none⟩ = some (.iface T x) := by go_simp
  have y1 : (W.alloc (.cells #[.iface T x, .iface T2 x2] 61)).cell? ⟨W.heap.size, 1, none⟩ = some (.iface T2 x2) := by go_simp
  have bT := fun w (h : Below (W.alloc (.cells #[.iface T x, .iface T2 x2] 61)).heap.size (W.alloc (.cells #[.iface T x, .iface T2 x2] 61)) w) => below_then b1 h
  generalize W.alloc (.cells #[.iface T x, .iface T2 x2] 61) = W1 at *
  generalize W.heap.size = B at *
  have z0 := cell_regrown y0
  have z1 := cell_regrown y1
  have HRG := Lib.hid (show Rg W1 W1.drew from regrown_of_below (Below.refl _ _).drew)
  clear y0 y1
  have hadd : IntKind.i64.wrap ((n : Int) + m) = (n : Int) + m := wrap_is rfl (by omega) (by omega)
  refine region_pick 8 [(true, 0), (true, 1), (true, 3), (true, 4), (false, 2), (false, 5), (false, 6), (false, 7), (false, 8)] (by kernel_rfl) (by kernel_rfl) (fun _ _ t _ _ h => by cases t <;> exact h) ?_
  simp only [pickOps, List.map_cons, List.map_nil, List.getD_cons_zero, List.getD_cons_succ]
  refine pick_read HRG.out (.pointer (some ⟨B, 0, none⟩)) rfl (fun _ => rfl) (by rintro _ ⟨⟨d, os⟩, rfl⟩; go_simp) ?_
  refine pick_read HRG.out (.iface T x) rfl (fun _ => rfl) (by rintro _ ⟨⟨d, os⟩, rfl⟩; go_simp) ?_
  refine pick_read HRG.out (.pointer (some ⟨B, 1, none⟩)) rfl (fun _ => rfl) (by rintro _ ⟨⟨d, os⟩, rfl⟩; go_simp) ?_
  refine pick_read HRG.out (.iface T2 x2) rfl (fun _ => rfl) (by rintro _ ⟨⟨d, os⟩, rfl⟩; go_simp) ?_
  clear z0 z1
  refine pick_step (fun K hK => ?_)
  unfold wpStep
  go_simp
  refine ⟨trivial, (callsIn_wide.2 (H.out _)).mono ?_⟩
  rintro e w2 ⟨rfl, b2⟩
  have d2 : Below W1.heap.size W1 w2 := (Below.refl _ _).drew.trans b2
  refine hK _ _ (fun _ => regrown_of_below d2) ?_
  clear hK K b2
  refine pick_step (fun K hK => ?_)
  unfold wpStep
  go_simp
  refine ⟨trivial, (callsIn_wide.2 (H2.out _)).mono ?_⟩
  rintro e w3 ⟨rfl, b3⟩
  have d3 : Below W1.heap.size W1 w3 := d2.trans (b3.mono d2.size)
  refine hK _ _ (fun _ => regrown_of_below d3) ?_
  have d4 : Below B W w3 := bT _ d3
  clear hK K b3
  refine pick_step (fun K hK => ?_)
  unfold wpStep
  go_simp
  refine hK _ _ (fun _ => regrown_of_below d3) ?_
  clear hK K
  refine pick_step (fun K hK => ?_)
  unfold wpStep
  go_simp
  refine hK _ _ (fun _ => regrown_of_below d3) ?_
  clear hK K
  refine pick_step (fun K hK => ?_)
  unfold wpStep
  go_simp
  refine hK _ _ (fun h => absurd h (by omega)) ?_
  clear hK K
  unfold wpPick
  gi_wp2_with fail
  go_ret
  exact ⟨by rw [show ((min (n + m) 201 : Nat) : Int) = min ((n : Int) + m) 201 by omega]; rfl, d4⟩
set_option maxHeartbeats 1000000 in
set_option maxRecDepth 100000 in
theorem lenU_of (t : Tm) (n : Nat) (ih : ∀ w, Calls Tryd.prog (lenId t) #[rcV t] w fun e w' => e = .returned (.int .i64 n) ∧ Below w.heap.size w w') (w : World) : Calls Tryd.prog 57 #[.agg #[tmV t]] w fun e w' => e = .returned (.int .i64 n) ∧ Below w.heap.size w w' := by
  have hm := meth_len t
  have hc := lenId_call t
  have H := Lib.hid ih
  rw [tmV_is]
  generalize tyT t = T at *
  generalize rcV t = x at *
  generalize lenId t = fid at *
  clear ih
  go_enter Tryd.func57, Tryd.ntmps57
  go_wp2_with fail
  refine (H.out _).mono ?_
  rintro e w2 ⟨rfl, b2⟩
  go_wp2_with fail
  go_ret
  exact ⟨rfl, below_then (below_alloc (Below.refl _ _) _) b2⟩
/-- Every walk's length, or one more than 200. -/
theorem length_any : ∀ (t : Tm), okTm t = true → ∀ w, Calls Tryd.prog (lenId t) #[rcV t] w fun e w' => e = .returned (.int .i64 (capT 201 t : Nat)) ∧ Below w.heap.size w w'
  | .l k, _, w => lenL_any k w
  | .b t, h, w => lenB_of t _ (length_any t h) w
  | .u t, h, w => lenU_of t _ (length_any t h) w
  | .r d t, h, w => by
    have h2 : okTm (.r d t) = (decide (2 ≤ d ∧ d ≤ 9) && okTm t) := rfl
    rw [h2] at h
    simp only [Bool.and_eq_true, decide_eq_true_eq] at h
    exact lenR_of d _ t (by omega) (cap_bd t h.2 (by omega)) (length_any t h.2) w
  | .j a c, h, w => by
    have h2 : okTm (.j a c) = (okTm a && okTm c) := rfl
    rw [h2] at h
    simp only [Bool.and_eq_true] at h
    exact lenJ_of _ _ a c (cap_bd a h.1 (by omega)) (cap_bd c h.2 (by omega)) (length_any a h.1) (length_any c h.2) w
end Go.Proofs.YtegpidlhhneilaaDoor
