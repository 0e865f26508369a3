/- Contracts of the program's functions of chapter 8: solids with other names of corners. -/
import Derived.Test.YtdnegamminhbfaaSolN
namespace Go.Proofs.Ytdnegamminhbfaa
open Go.RowKit Go.Sort

theorem c24_bd : ∀ l ∈ C24, (0 ≤ l.getD 0 0 ∧ l.getD 0 0 ≤ 3) ∧ (0 ≤ l.getD 1 0 ∧ l.getD 1 0 ≤ 3) ∧ (0 ≤ l.getD 2 0 ∧ l.getD 2 0 ≤ 3) ∧ (0 ≤ l.getD 3 0 ∧ l.getD 3 0 ≤ 3) ∧ l.getD 0 0 ≠ l.getD 1 0 ∧ l.getD 0 0 ≠ l.getD 2 0 ∧ l.getD 0 0 ≠ l.getD 3 0 ∧ l.getD 1 0 ≠ l.getD 2 0 ∧ l.getD 1 0 ≠ l.getD 3 0 ∧ l.getD 2 0 ≠ l.getD 3 0 := by decide +kernel
theorem corn_bd {a b c d : Int} (h : cornB [a, b, c, d] = true) : (0 ≤ a ∧ a ≤ 3) ∧ (0 ≤ b ∧ b ≤ 3) ∧ (0 ≤ c ∧ c ≤ 3) ∧ (0 ≤ d ∧ d ≤ 3) ∧ a ≠ b ∧ a ≠ c ∧ a ≠ d ∧ b ≠ c ∧ b ≠ d ∧ c ≠ d := c24_bd _ (corn_mem h)
theorem SolAt.rd {w : World} {g : Nat} {xs : List Int} (h : SolAt w g xs) : Rd w (some ⟨g, 0, none⟩) xs.length xs :=
  ⟨rfl, fun _ => ⟨g, 0, rfl, h.lt, fun j hj => by rw [Nat.zero_add]; exact h.cell hj⟩⟩

theorem list_any (x0 x1 x2 x3 x4 x5 : Int) (w : World) :
    Calls Try.prog 97 #[sixV x0 x1 x2 x3 x4 x5] w fun e w' => ∃ A' c', e = .returned (.slice A' 6 c') ∧ Own w' w.heap.size A' 6 c' [x0, x1, x2, x3, x4, x5] ∧ Below w.heap.size w w' := by
  have b0 := below_alloc (Below.refl w.heap.size w) (.cells #[.int .i64 x0, .int .i64 x1, .int .i64 x2, .int .i64 x3, .int .i64 x4, .int .i64 x5] 81)
  have hC := fun c => cloneA_any ⟨w.heap.size, 0, none⟩ 6 c _ _ (six_new w x0 x1 x2 x3 x4 x5).rd (by omega)
  have hl := (six_new w x0 x1 x2 x3 x4 x5).lt
  go_enter Try.func97, Try.ntmps97
  go_wp2_with fail
  refine (hC _).mono ?_
  rintro e w2 ⟨A2, c2, rfl, o2, b2⟩
  go_wp2_with fail
  go_ret
  exact ⟨A2, c2, rfl, o2.lower b0.size, below_then b0 b2⟩

set_option maxRecDepth 100000 in
set_option maxHeartbeats 8000000 in
theorem named_any (x0 x1 x2 x3 x4 x5 a b c d : Int) (w : World) (hc : cornB [a, b, c, d] = true) :
    Calls Try.prog 96 #[sixV x0 x1 x2 x3 x4 x5, fouV a b c d] w fun e w' => e = .returned (solV (nmd (plcC [a, b, c, d]) [x0, x1, x2, x3, x4, x5])) ∧ Below w.heap.size w w' := by
  obtain ⟨ha, hb, hcc, hd, n1, n2, n3, n4, n5, n6⟩ := corn_bd hc
  have e1 := fun W => between_any [x0, x1, x2, x3, x4, x5] a b W rfl ha hb n1
  have e2 := fun W => between_any [x0, x1, x2, x3, x4, x5] a c W rfl ha hcc n2
  have e3 := fun W => between_any [x0, x1, x2, x3, x4, x5] a d W rfl ha hd n3
  have e4 := fun W => between_any [x0, x1, x2, x3, x4, x5] b c W rfl hb hcc n4
  have e5 := fun W => between_any [x0, x1, x2, x3, x4, x5] b d W rfl hb hd n5
  have e6 := fun W => between_any [x0, x1, x2, x3, x4, x5] c d W rfl hcc hd n6
  have ep : nmd (plcC [a, b, c, d]) [x0, x1, x2, x3, x4, x5] = [([x0, x1, x2, x3, x4, x5] : List Int).getD (edg a b) 0, ([x0, x1, x2, x3, x4, x5] : List Int).getD (edg a c) 0, ([x0, x1, x2, x3, x4, x5] : List Int).getD (edg a d) 0, ([x0, x1, x2, x3, x4, x5] : List Int).getD (edg b c) 0, ([x0, x1, x2, x3, x4, x5] : List Int).getD (edg b d) 0, ([x0, x1, x2, x3, x4, x5] : List Int).getD (edg c d) 0] := rfl
  rw [ep]
  generalize ([x0, x1, x2, x3, x4, x5] : List Int).getD (edg a b) 0 = y1 at *
  generalize ([x0, x1, x2, x3, x4, x5] : List Int).getD (edg a c) 0 = y2 at *
  generalize ([x0, x1, x2, x3, x4, x5] : List Int).getD (edg a d) 0 = y3 at *
  generalize ([x0, x1, x2, x3, x4, x5] : List Int).getD (edg b c) 0 = y4 at *
  generalize ([x0, x1, x2, x3, x4, x5] : List Int).getD (edg b d) 0 = y5 at *
  generalize ([x0, x1, x2, x3, x4, x5] : List Int).getD (edg c d) 0 = y6 at *
  have k1 : ∀ W, Calls Try.prog 134 #[sixV x0 x1 x2 x3 x4 x5, .int .i64 a, .int .i64 b] W fun e w' => e = .returned (.int .i64 y1) ∧ Below W.heap.size W w' := e1
  have k2 : ∀ W, Calls Try.prog 134 #[sixV x0 x1 x2 x3 x4 x5, .int .i64 a, .int .i64 c] W fun e w' => e = .returned (.int .i64 y2) ∧ Below W.heap.size W w' := e2
  have k3 : ∀ W, Calls Try.prog 134 #[sixV x0 x1 x2 x3 x4 x5, .int .i64 a, .int .i64 d] W fun e w' => e = .returned (.int .i64 y3) ∧ Below W.heap.size W w' := e3
  have k4 : ∀ W, Calls Try.prog 134 #[sixV x0 x1 x2 x3 x4 x5, .int .i64 b, .int .i64 c] W fun e w' => e = .returned (.int .i64 y4) ∧ Below W.heap.size W w' := e4
  have k5 : ∀ W, Calls Try.prog 134 #[sixV x0 x1 x2 x3 x4 x5, .int .i64 b, .int .i64 d] W fun e w' => e = .returned (.int .i64 y5) ∧ Below W.heap.size W w' := e5
  have k6 : ∀ W, Calls Try.prog 134 #[sixV x0 x1 x2 x3 x4 x5, .int .i64 c, .int .i64 d] W fun e w' => e = .returned (.int .i64 y6) ∧ Below W.heap.size W w' := e6
  obtain ⟨W1, hW1⟩ : ∃ W1, W1 = ((w.alloc (sixO x0 x1 x2 x3 x4 x5)).alloc (fouO a b c d)).alloc (sixO 0 0 0 0 0 0) := ⟨_, rfl⟩
  have bW : Below w.heap.size w W1 := by rw [hW1]; exact below_alloc (below_alloc (below_alloc (Below.refl _ _) _) _) _
  have s1 : SolAt W1 w.heap.size [x0, x1, x2, x3, x4, x5] := by rw [hW1]; exact ((six_new w x0 x1 x2 x3 x4 x5).same (below_alloc (Below.refl _ _) _)).same (below_alloc (Below.refl _ _) _)
  have f1 : FouAt W1 (w.heap.size + 1) a b c d := by
    rw [hW1]
    have := (fou_new (w.alloc (sixO x0 x1 x2 x3 x4 x5)) a b c d).same (below_alloc (Below.refl _ _) (sixO 0 0 0 0 0 0))
    rwa [World.size_alloc] at this
  have r1 : SolAt W1 (w.heap.size + 2) [0, 0, 0, 0, 0, 0] := by
    rw [hW1]
    have := six_new ((w.alloc (sixO x0 x1 x2 x3 x4 x5)).alloc (fouO a b c d)) 0 0 0 0 0 0
    rwa [World.size_alloc, World.size_alloc] at this
  obtain ⟨c0, c1, c2, c3, c4, c5, _⟩ := s1.cells
  obtain ⟨q0, q1, q2, q3, _⟩ := f1.cells
  have HW := Lib.hid hW1
  have HBW := Lib.hid bW
  have HR := Lib.hid (fun W' (h : Below W1.heap.size W1 W') => r1.same h)
  have u0 := cell_regrown c0
  have u1 := cell_regrown c1
  have u2 := cell_regrown c2
  have u3 := cell_regrown c3
  have u4 := cell_regrown c4
  have u5 := cell_regrown c5
  have v0 := cell_regrown q0
  have v1 := cell_regrown q1
  have v2 := cell_regrown q2
  have v3 := cell_regrown q3
  have cA : ∀ r dr os, CallsIn Fence.wide r Try.prog 134 #[sixV x0 x1 x2 x3 x4 x5, .int .i64 a, .int .i64 b] (grow (redrawn W1 dr) os) fun e w'' => e = .returned (.int .i64 y1) ∧ ∃ p : Regrown, w'' = grow (redrawn W1 p.d) p.os := fun r dr os => CallsIn.regrown_of (callsIn_wide.2 (k1 _))
  have cB : ∀ r dr os, CallsIn Fence.wide r Try.prog 134 #[sixV x0 x1 x2 x3 x4 x5, .int .i64 a, .int .i64 c] (grow (redrawn W1 dr) os) fun e w'' => e = .returned (.int .i64 y2) ∧ ∃ p : Regrown, w'' = grow (redrawn W1 p.d) p.os := fun r dr os => CallsIn.regrown_of (callsIn_wide.2 (k2 _))
  have cC : ∀ r dr os, CallsIn Fence.wide r Try.prog 134 #[sixV x0 x1 x2 x3 x4 x5, .int .i64 a, .int .i64 d] (grow (redrawn W1 dr) os) fun e w'' => e = .returned (.int .i64 y3) ∧ ∃ p : Regrown, w'' = grow (redrawn W1 p.d) p.os := fun r dr os => CallsIn.regrown_of (callsIn_wide.2 (k3 _))
  have cD : ∀ r dr os, CallsIn Fence.wide r Try.prog 134 #[sixV x0 x1 x2 x3 x4 x5, .int .i64 b, .int .i64 c] (grow (redrawn W1 dr) os) fun e w'' => e = .returned (.int .i64 y4) ∧ ∃ p : Regrown, w'' = grow (redrawn W1 p.d) p.os := fun r dr os => CallsIn.regrown_of (callsIn_wide.2 (k4 _))
  have cE : ∀ r dr os, CallsIn Fence.wide r Try.prog 134 #[sixV x0 x1 x2 x3 x4 x5, .int .i64 b, .int .i64 d] (grow (redrawn W1 dr) os) fun e w'' => e = .returned (.int .i64 y5) ∧ ∃ p : Regrown, w'' = grow (redrawn W1 p.d) p.os := fun r dr os => CallsIn.regrown_of (callsIn_wide.2 (k5 _))
  have cF : ∀ r dr os, CallsIn Fence.wide r Try.prog 134 #[sixV x0 x1 x2 x3 x4 x5, .int .i64 c, .int .i64 d] (grow (redrawn W1 dr) os) fun e w'' => e = .returned (.int .i64 y6) ∧ ∃ p : Regrown, w'' = grow (redrawn W1 p.d) p.os := fun r dr os => CallsIn.regrown_of (callsIn_wide.2 (k6 _))
  have hfn : Fence.wide.fn 134 := trivial
  clear e1 e2 e3 e4 e5 e6 ep hW1 bW s1 f1 r1 hc ha hb hcc hd n1 n2 n3 n4 n5 n6 k1 k2 k3 k4 k5 k6 c0 c1 c2 c3 c4 c5 q0 q1 q2 q3
  refine (callsIn_wide (n := 5)).1 ?_
  refine callsIn_of_wp Try.func96 rfl trivial ?_ rfl
  simp only [Try.ntmps96, List.size_toArray, List.length_cons, List.length_nil, Nat.reduceAdd, Nat.reduceSub, Array.replicate_succ, Array.replicate_zero, List.push_toArray, List.append_toArray, List.nil_append, List.cons_append]
  gi_wp2_with fail
  change Code.wpIn _ _ _ _ _ _ (((w.alloc (sixO x0 x1 x2 x3 x4 x5)).alloc (fouO a b c d)).alloc (sixO 0 0 0 0 0 0))
  rw [← HW.out]
  refine region_qtail 36 (by kernel_rfl) (by kernel_rfl) ?_
  simp only [List.take_succ_cons, List.take_zero, List.drop_succ_cons, List.drop_zero]
  repeat (quiet_step_in (first | with_reducible exact cA _ _ _ | with_reducible exact cB _ _ _ | with_reducible exact cC _ _ _ | with_reducible exact cD _ _ _ | with_reducible exact cE _ _ _ | with_reducible exact cF _ _ _))
  refine wpQuietIn_nil ?_
  intro _ hw'
  obtain ⟨⟨dq, osq⟩, hw''⟩ := hw'
  subst hw''
  have bq := below_regrown W1 dq osq
  generalize grow (redrawn W1 dq) osq = wq at bq ⊢
  have HZ := Lib.hid (six_set (HR.out wq bq) rfl y1 y2 y3 y4 y5 y6)
  have HB := Lib.hid (six_below (below_then HBW.out bq) (show w.heap.size ≤ w.heap.size + 2 by omega) y1 y2 y3 y4 y5 y6)
  obtain ⟨z0, z1, z2, z3, z4, z5, zf⟩ := (HR.out wq bq).cells
  clear u0 u1 u2 u3 u4 u5 v0 v1 v2 v3 cA cB cC cD cE cF
  gi_wp2_with fail
  refine sol_back1 (f := Try.f96) (k := 4) rfl (xs := [y1, y2, y3, y4, y5, y6]) rfl rfl rfl HZ.out ?_
  exact ⟨rfl, HB.out⟩
end Go.Proofs.Ytdnegamminhbfaa
