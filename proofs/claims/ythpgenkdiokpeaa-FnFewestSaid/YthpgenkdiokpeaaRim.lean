/- Sums over the corners of a ring: the rim. -/
import Derived.Test.YthpgenkdiokpeaaArea
namespace Go.Proofs.Ythpgenkdiokpeaa
open Go.RowKit Go.Sort Go.Lib Go.Shelf
attribute [local go_sem] Oper.semAt_some

theorem gcdP_le (x y : Int) : 0 ≤ gcdP (x, y) ∧ gcdP (x, y) ≤ x.natAbs + y.natAbs := by
  show 0 ≤ ((Nat.gcd x.natAbs y.natAbs : Nat) : Int) ∧ ((Nat.gcd x.natAbs y.natAbs : Nat) : Int) ≤ _
  rcases Nat.eq_zero_or_pos x.natAbs with e | e
  · rw [e, Nat.gcd_zero_left]; omega
  · have := Nat.gcd_le_left y.natAbs e
    omega

set_option maxRecDepth 100000 in
set_option maxHeartbeats 4000000 in
theorem rim_any (gs : List Nat) (ps : List Pt) (w : World) (hR : Ring w gs ps) (hn8 : ps.length < 1000000) (hb : ∀ i, i < ps.length → (-1000 ≤ (atP ps i).1 ∧ (atP ps i).1 ≤ 1000) ∧ (-1000 ≤ (atP ps i).2 ∧ (atP ps i).2 ≤ 1000)) :
    Calls Try.prog 118 #[ptrV (gs.getD 0 0)] w fun e w' => e = .returned (.int .i64 (sumF (fun i => gcdP (subP (atP ps ((i + 1) % ps.length)) (atP ps i))) ps.length)) ∧ Below w.heap.size w w' := by
  have HR := Lib.hid hR
  have HN := Lib.hid hn8
  obtain ⟨g0, eg⟩ : ∃ g0, g0 = gs.getD 0 0 := ⟨_, rfl⟩
  rw [← eg]
  have EG := Lib.hid eg
  have hps := hR.pos
  clear hR hn8 eg
  have HF := Lib.hid (sumP_firsts (fun i => gcdP (subP (atP ps ((i + 1) % ps.length)) (atP ps i))) hps ps.length (Nat.le_refl _))
  have HBd := Lib.hid (sumP_bd (n := ps.length) (f := fun i => gcdP (subP (atP ps ((i + 1) % ps.length)) (atP ps i))) (b := 2000000) (fun i => by
    have h1 := hb i.1 i.2
    have h2 := hb ((i.1 + 1) % ps.length) (Nat.mod_lt _ hps)
    have := gcdP_le ((atP ps ((i.1 + 1) % ps.length)).1 - (atP ps i.1).1) ((atP ps ((i.1 + 1) % ps.length)).2 - (atP ps i.1).2)
    unfold subP
    omega))
  obtain ⟨F, eF⟩ : ∃ F : Nat → Int, F = fun i => gcdP (subP (atP ps ((i + 1) % ps.length)) (atP ps i)) := ⟨_, rfl⟩
  rw [← eF] at HF HBd ⊢
  have EF := Lib.hid eF
  clear eF
  refine (callsIn_wide (n := 5)).1 ?_
  refine callsIn_of_wp_marks Try.func118 rfl trivial ?_ rfl
  simp only [Try.ntmps118, List.size_toArray, List.length_cons, List.length_nil, Nat.reduceAdd, Nat.reduceSub, Array.replicate_succ, Array.replicate_zero, List.push_toArray, List.append_toArray, List.nil_append, List.cons_append]
  gi_wp2_with fail
  refine ⟨trivial, (around_in Fence.wide _ trivial rfl _ _).mono ?_⟩
  rintro e w3 ⟨rfl, rfl⟩
  gi_wp2_with fail
  have bM := (Boxed.new w 3 (.int .i64 0)).alloc (.cells #[ptrV g0] 47)
  have bS := Boxed.new (w.alloc (.cells #[.int .i64 0] 3)) 47 (ptrV g0)
  rw [World.size_alloc] at bS
  have hB0 : Below w.heap.size w ((w.alloc (.cells #[.int .i64 0] 3)).alloc (.cells #[ptrV g0] 47)) := below_alloc (below_alloc (Below.refl _ _) _) _
  have hsz : ((w.alloc (.cells #[.int .i64 0] 3)).alloc (.cells #[ptrV g0] 47)).heap.size = w.heap.size + 2 := by simp
  obtain ⟨W0, hW0⟩ : ∃ W0, (w.alloc (.cells #[.int .i64 0] 3)).alloc (.cells #[ptrV g0] 47) = W0 := ⟨_, rfl⟩
  rw [hW0] at bM bS hB0 hsz ⊢
  clear hW0
  refine wpIn_rangeFunc_ownH (F := Fence.wide) rfl (by omega) (gf := 173) (lb := #[ptrV (w.heap.size + 1)]) rfl trivial (enters_of Try.func173 (by kernel_rfl) rfl)
    (around_stops _ (w.heap.size + 1) w.heap.size gs ps HN.out W0 (HR.out.same hB0) (fun i hi => HR.out.lt hi) hB0.size (by omega) (by rw [← EG.out]; exact bS.cell)) KpC.trans (KpC.put (by omega) (by omega)) (Below.refl _ _) (fun _ => rfl)
    (fun pre W => (Boxed W w.heap.size 3 (.int .i64 (sumP F pre)) ∧ w.heap.size + 2 ≤ W.heap.size) ∧ Below w.heap.size w W)
    (fun _ _ _ => False)
    (OwnFrom.and (OwnFrom.and (Own.from (boxed_own _ _ _) _) (bx_size _ _)) (ownFrom_below (Nat.le_refl _) (by omega)))
    (fun _ _ _ _ _ hs _ _ => hs)
    ⟨⟨bM, by omega⟩, hB0⟩
    (fun x a' _ => a' = { tmps := #[ptrV g0, undef, .int .i64 0, ptrV w.heap.size, ptrV (gs.getD x.1 0), ptrV g0, .func (.func 173) #[] #[ptrV (w.heap.size + 1)], ptrV (gs.getD x.1 0), undef, undef, undef, undef, undef, undef], defers := [] })
    (fun _ _ _ _ _ _ hs _ _ => hs)
    ?assign ?body ?done ?stop
  case assign =>
    rintro l pre x W K ⟨⟨bM1, hz1⟩, hB1⟩ hK
    simp only [encC]
    gi_wp2
    exact hK _ _ ((KeepsOthers.refl _).from _) (KpC.refl _ _ _) ⟨⟨bM1, hz1⟩, hB1⟩ rfl
  case body =>
    rintro l pre x a' W hl ⟨r, hr⟩ ⟨⟨bM1, hz1⟩, hB1⟩ rfl hlt
    have hs2 := hB1.size
    have hRW := HR.out.same hB1
    obtain ⟨k0, k1, k2⟩ := (hRW.cells x.1 x.2).cells
    obtain ⟨k3, k4, k5⟩ := (hRW.cells _ (Nat.mod_lt (x.1 + 1) hps)).cells
    have h1 := hb x.1 x.2
    have h2 := hb _ (Nat.mod_lt (x.1 + 1) hps)
    have hx : -1000000 ≤ (atP ps ((x.1 + 1) % ps.length)).1 - (atP ps x.1).1 ∧ (atP ps ((x.1 + 1) % ps.length)).1 - (atP ps x.1).1 ≤ 1000000 := by omega
    have hy : -1000000 ≤ (atP ps ((x.1 + 1) % ps.length)).2 - (atP ps x.1).2 ∧ (atP ps ((x.1 + 1) % ps.length)).2 - (atP ps x.1).2 ≤ 1000000 := by omega
    have hC := fun W' => divisor_any ((atP ps ((x.1 + 1) % ps.length)).1 - (atP ps x.1).1) ((atP ps ((x.1 + 1) % ps.length)).2 - (atP ps x.1).2) W' hx hy
    have hS := fun (W' : World) (hb' : Below W.heap.size W W') => step_any _ _ _ _ _ _ _ W' ((hRW.cells x.1 x.2).same hb') ((hRW.cells _ (Nat.mod_lt (x.1 + 1) hps)).same hb') hx hy
    have hbd := HBd.out (pre ++ [x])
    have HSn := Lib.hid (sumP_snoc F pre x)
    have e0 : gcdP ((atP ps ((x.1 + 1) % ps.length)).1 - (atP ps x.1).1, (atP ps ((x.1 + 1) % ps.length)).2 - (atP ps x.1).2) = F x.1 := by rw [EF.out]; rfl
    rw [e0] at hC
    rw [HSn.out, List.length_append, List.length_singleton] at hbd
    have v1 : IntKind.i64.wrap (sumP F pre + F x.1) = sumP F pre + F x.1 := wrap_is rfl (by omega) (by omega)
    clear h1 h2 e0 hbd hRW hx hy k0 k1 k2 k3 k4 k5
    generalize (atP ps ((x.1 + 1) % ps.length)).1 - (atP ps x.1).1 = px at *
    generalize (atP ps ((x.1 + 1) % ps.length)).2 - (atP ps x.1).2 = py at *
    generalize gs.getD ((x.1 + 1) % ps.length) 0 = g2 at *
    generalize gs.getD x.1 0 = g1 at *
    have hmx : Try.prog.follows .mixedOrders = true := by kernel_rfl
    have hf1 : Fence.wide.fn 102 := trivial
    have hf2 : Fence.wide.fn 161 := trivial
    have cM := bM1.cell
    have cS : ∀ r d os, CallsIn (Fence.wide.inRound l) r Try.prog 102 #[ptrV g1] (grow (redrawn W d) os) fun e w'' => e = .returned (vecX px py) ∧ ∃ p : Regrown, w'' = grow (redrawn W p.d) p.os :=
      fun r d os => CallsIn.regrown_of (CallsIn.inRound l (callsIn_wide.2 (hS _ (below_regrown W d os))))
    have cC : ∀ r d os, CallsIn (Fence.wide.inRound l) r Try.prog 161 #[vecX px py] (grow (redrawn W d) os) fun e w'' => e = .returned (.int .i64 (F x.1)) ∧ ∃ p : Regrown, w'' = grow (redrawn W p.d) p.os :=
      fun r d os => CallsIn.regrown_of (CallsIn.inRound l (callsIn_wide.2 (hC _)))
    have yM := cell_regrown cM
    have HB1 := Lib.hid hB1
    have HM1 := Lib.hid bM1
    clear hC hS hb cM hB1 bM1 hmx
    gi_wp2_with fail
    refine region_qtail 5 (by kernel_rfl) (by kernel_rfl) ?_
    simp only [List.take_succ_cons, List.take_zero, List.drop_succ_cons, List.drop_zero]
    repeat (quiet_step_in (first | exact cC _ _ _ | exact cS _ _ _ | exact ⟨fun h => (by cases h), cC _ _ _⟩ | exact ⟨fun h => (by cases h), cS _ _ _⟩))
    refine wpQuietIn_nil ?_
    intro _ hw'
    obtain ⟨⟨dq, osq⟩, hw''⟩ := hw'
    subst hw''
    have bq := below_regrown W dq osq
    generalize grow (redrawn W dq) osq = wq at bq ⊢
    have bM3 : Boxed wq w.heap.size 3 (.int .i64 (sumP F pre)) := Boxed.kept HM1.out (grown_of_below bq) (by simp)
    have cM3 := bM3.cell
    have fM3 := bM3.frozen
    have HQ := Lib.hid bq
    clear bq yM cC cS
    gi_wp2
    have hs3 := HQ.out.size
    refine ⟨((keeps_b HQ.out).trans (KeepsOthers.setCell _ _ _)).from _, (KpC.below HQ.out (by omega) (by omega)).trans (KpC.of (grownBy_setCell' _ _ _) (by omega) (by omega) (fun k e => by cases e; omega)), ⟨?_, by simp [World.setCell]; omega⟩, (HB1.out.trans (HQ.out.mono hs2)).setCell (p := ⟨w.heap.size, 0, none⟩) (Nat.le_refl _) _⟩
    rw [HSn.out]
    exact bM3.set _
  case done =>
    rintro D ys W hD rfl ⟨⟨bM1, hz1⟩, hB1⟩ hK
    have cM := bM1.cell
    rw [HF.out] at cM
    gi_wp2
    refine ⟨by simp, .inl ⟨_, _, rfl, run_takeDeferred hK, ?_⟩⟩
    refine ⟨_, results_tmp rfl _ _ _, ?_⟩
    exact ⟨rfl, hB1.trans (belowK_b (w := w) (Nat.le_refl _) W D _ _ (by omega) hK rfl rfl)⟩
  case stop =>
    rintro D c' pre W _ _ h _
    exact h.elim
end Go.Proofs.Ythpgenkdiokpeaa
