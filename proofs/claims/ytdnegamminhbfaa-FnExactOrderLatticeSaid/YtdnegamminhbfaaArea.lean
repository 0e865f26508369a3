/- Sums over the corners of a ring: the area. -/
import Derived.Test.YtdnegamminhbfaaRing
import Derived.Test.YtdnegamminhbfaaQuiTail
namespace Go.Proofs.Ytdnegamminhbfaa
open Go.RowKit Go.Sort Go.Lib Go.Shelf
attribute [local go_sem] Oper.semAt_some

theorem around_stops (m cb B : Nat) (gs : List Nat) (ps : List Pt) (hn8 : ps.length < 1000000) (w0 : World) (hR : Ring w0 gs ps) (hB : ∀ i, i < ps.length → gs.getD i 0 < B) (_hBw : B ≤ w0.heap.size) (hcb : cb < w0.heap.size) (hBs : w0.cell? ⟨cb, 0, none⟩ = some (ptrV (gs.getD 0 0))) :
    SeqStopsK Fence.wide m Try.prog 145 #[ptrV cb] (encC gs (n := ps.length)) (KpC B cb) (fun ys => ys = firsts hR.pos ps.length) (fun _ => True) 1000000 w0 :=
  fun l J Jx W hW hJ _ hY h0 => around1_in m l B cb gs ps hn8 J Jx _ hJ W (hR.same hW) hR.pos hB hY ((hW.cell (p := ⟨cb, 0, none⟩) hcb).trans hBs) h0

/-- What is told of the corners so far, added up. -/
def sumP {n : Nat} (f : Nat → Int) (pre : List (Fin n)) : Int := (pre.map fun i => f i.1).sum
theorem sumP_snoc {n : Nat} (f : Nat → Int) (pre : List (Fin n)) (x : Fin n) : sumP f (pre ++ [x]) = sumP f pre + f x.1 := by simp [sumP]
theorem sumP_bd {n : Nat} {f : Nat → Int} {b : Int} (h : ∀ i : Fin n, -b ≤ f i.1 ∧ f i.1 ≤ b) : ∀ pre : List (Fin n), -(b * pre.length) ≤ sumP f pre ∧ sumP f pre ≤ b * pre.length
  | [] => by simp [sumP]
  | x :: t => by
    have h1 := sumP_bd h t
    have h2 := h x
    have e : sumP f (x :: t) = f x.1 + sumP f t := by simp [sumP]
    have e2 : b * ((x :: t).length : Int) = b * t.length + b := by rw [List.length_cons, Int.natCast_add, Int.mul_add]; simp
    rw [e, e2]
    omega
theorem sumP_firsts {n : Nat} (f : Nat → Int) (h : 0 < n) : ∀ k, k ≤ n → sumP f (firsts h k) = sumF f k
  | 0, _ => by simp [sumP, firsts, sumF]
  | k + 1, hk => by rw [firsts_succ, sumP_snoc, sumP_firsts f h k (by omega), fz_val h (by omega), sumF]
theorem bx_size {β : Type} (B k : Nat) : OwnFrom B (fun (_ : β) (W : World) => k ≤ W.heap.size) := fun _ _ _ _ hs hg _ => Nat.le_trans hs hg.size

theorem keeps_b {W W' : World} (h : Below W.heap.size W W') : KeepsOthers W W' := KeepsOthers.of_grownBy (grown_of_below h) (fun j o e => by cases e)

set_option maxRecDepth 100000 in
set_option maxHeartbeats 4000000 in
theorem area_any (gs : List Nat) (ps : List Pt) (w : World) (hR : Ring w gs ps) (hn8 : ps.length < 1000000) (hb : ∀ i, i < ps.length → (-1000 ≤ (atP ps i).1 ∧ (atP ps i).1 ≤ 1000) ∧ (-1000 ≤ (atP ps i).2 ∧ (atP ps i).2 ≤ 1000)) :
    Calls Try.prog 79 #[ptrV (gs.getD 0 0)] w fun e w' => e = .returned (.int .i64 (sumF (fun i => crs (atP ps i) (atP ps ((i + 1) % ps.length))) ps.length)) ∧ Below w.heap.size w w' := by
  have HR := Lib.hid hR
  have HN := Lib.hid hn8
  obtain ⟨g0, eg⟩ : ∃ g0, g0 = gs.getD 0 0 := ⟨_, rfl⟩
  rw [← eg]
  have EG := Lib.hid eg
  have hps := hR.pos
  clear hR hn8 eg
  have HF := Lib.hid (sumP_firsts (fun i => crs (atP ps i) (atP ps ((i + 1) % ps.length))) hps ps.length (Nat.le_refl _))
  have HBd := Lib.hid (sumP_bd (n := ps.length) (f := fun i => crs (atP ps i) (atP ps ((i + 1) % ps.length))) (b := 2000000) (fun i => by
    have h1 := hb i.1 i.2
    have h2 := hb ((i.1 + 1) % ps.length) (Nat.mod_lt _ hps)
    have := crs_bd h1.1 h1.2 h2.1 h2.2
    omega))
  obtain ⟨F, eF⟩ : ∃ F : Nat → Int, F = fun i => crs (atP ps i) (atP ps ((i + 1) % ps.length)) := ⟨_, rfl⟩
  rw [← eF] at HF HBd ⊢
  have EF := Lib.hid eF
  clear eF
  refine (callsIn_wide (n := 5)).1 ?_
  refine callsIn_of_wp_marks Try.func79 rfl trivial ?_ rfl
  simp only [Try.ntmps79, List.size_toArray, List.length_cons, List.length_nil, Nat.reduceAdd, Nat.reduceSub, Array.replicate_succ, Array.replicate_zero, List.push_toArray, List.append_toArray, List.nil_append, List.cons_append]
  gi_wp2_with fail
  refine ⟨trivial, (around_in Fence.wide _ trivial rfl _ _).mono ?_⟩
  rintro e w3 ⟨rfl, rfl⟩
  gi_wp2_with fail
  have bM := (Boxed.new w 3 (.int .i64 0)).alloc (.cells #[ptrV g0] 66)
  have bS := Boxed.new (w.alloc (.cells #[.int .i64 0] 3)) 66 (ptrV g0)
  rw [World.size_alloc] at bS
  have hB0 : Below w.heap.size w ((w.alloc (.cells #[.int .i64 0] 3)).alloc (.cells #[ptrV g0] 66)) := below_alloc (below_alloc (Below.refl _ _) _) _
  have hsz : ((w.alloc (.cells #[.int .i64 0] 3)).alloc (.cells #[ptrV g0] 66)).heap.size = w.heap.size + 2 := by simp
  obtain ⟨W0, hW0⟩ : ∃ W0, (w.alloc (.cells #[.int .i64 0] 3)).alloc (.cells #[ptrV g0] 66) = W0 := ⟨_, rfl⟩
  rw [hW0] at bM bS hB0 hsz ⊢
  clear hW0
  refine wpIn_rangeFunc_ownH (F := Fence.wide) rfl (by omega) (gf := 145) (lb := #[ptrV (w.heap.size + 1)]) rfl trivial (enters_of Try.func145 (by kernel_rfl) rfl)
    (around_stops _ (w.heap.size + 1) w.heap.size gs ps HN.out W0 (HR.out.same hB0) (fun i hi => HR.out.lt hi) hB0.size (by omega) (by rw [← EG.out]; exact bS.cell)) KpC.trans (KpC.put (by omega) (by omega)) (Below.refl _ _) (fun _ => rfl)
    (fun pre W => (Boxed W w.heap.size 3 (.int .i64 (sumP F pre)) ∧ w.heap.size + 2 ≤ W.heap.size) ∧ Below w.heap.size w W)
    (fun _ _ _ => False)
    (OwnFrom.and (OwnFrom.and (Own.from (boxed_own _ _ _) _) (bx_size _ _)) (ownFrom_below (Nat.le_refl _) (by omega)))
    (fun _ _ _ _ _ hs _ _ => hs)
    ⟨⟨bM, by omega⟩, hB0⟩
    (fun x a' _ => a' = { tmps := #[ptrV g0, undef, .int .i64 0, ptrV w.heap.size, ptrV (gs.getD x.1 0), ptrV g0, .func (.func 145) #[] #[ptrV (w.heap.size + 1)], ptrV (gs.getD x.1 0), undef, undef, undef, undef, undef, undef, undef, undef, undef, undef, undef, undef, undef, undef, undef], defers := [] })
    (fun _ _ _ _ _ _ hs _ _ => hs)
    ?assign ?body ?done ?stop
  case assign =>
    rintro l pre x W K ⟨⟨bM1, hz1⟩, hB1⟩ hK
    simp only [encC]
    gi_wp2
    exact hK _ _ ((KeepsOthers.refl _).from _) (KpC.refl _ _ _) ⟨⟨bM1, hz1⟩, hB1⟩ rfl
  case body =>
    rintro l pre x a' W hl ⟨r, hr⟩ ⟨⟨bM1, hz1⟩, hB1⟩ rfl hlt
    have hs2 := hB1.size
    have hRW := HR.out.same hB1
    obtain ⟨k0, k1, k2⟩ := (hRW.cells x.1 x.2).cells
    obtain ⟨k3, k4, k5⟩ := (hRW.cells _ (Nat.mod_lt (x.1 + 1) hps)).cells
    have h1 := hb x.1 x.2
    have h2 := hb _ (Nat.mod_lt (x.1 + 1) hps)
    have hC := fun W' => cross_any (atP ps x.1).1 (atP ps x.1).2 (atP ps ((x.1 + 1) % ps.length)).1 (atP ps ((x.1 + 1) % ps.length)).2 W' (fun a b ha hb' => by
      have := mul_sq (a := a) (b := b) (A := 1000) (B := 1000) (by rcases ha with rfl | rfl <;> omega) (by rcases ha with rfl | rfl <;> omega) (by rcases hb' with rfl | rfl <;> omega) (by rcases hb' with rfl | rfl <;> omega)
      omega)
    have hbd := HBd.out (pre ++ [x])
    have HSn := Lib.hid (sumP_snoc F pre x)
    have e0 : crs ((atP ps x.1).1, (atP ps x.1).2) ((atP ps ((x.1 + 1) % ps.length)).1, (atP ps ((x.1 + 1) % ps.length)).2) = F x.1 := by rw [EF.out]
    rw [e0] at hC
    rw [HSn.out, List.length_append, List.length_singleton] at hbd
    have v1 : IntKind.i64.wrap (sumP F pre + F x.1) = sumP F pre + F x.1 := wrap_is rfl (by omega) (by omega)
    clear h1 h2 e0 hbd hRW
    generalize (atP ps x.1).1 = px at *
    generalize (atP ps x.1).2 = py at *
    generalize (atP ps ((x.1 + 1) % ps.length)).1 = qx at *
    generalize (atP ps ((x.1 + 1) % ps.length)).2 = qy at *
    generalize gs.getD ((x.1 + 1) % ps.length) 0 = g2 at *
    generalize gs.getD x.1 0 = g1 at *
    have hmx : Try.prog.follows .mixedOrders = true := by kernel_rfl
    have hfn : Fence.wide.fn 124 := trivial
    have cM := bM1.cell
    have cC : ∀ r d os, CallsIn (Fence.wide.inRound l) r Try.prog 124 #[vecX px py, vecX qx qy] (grow (redrawn W d) os) fun e w'' => e = .returned (.int .i64 (F x.1)) ∧ ∃ p : Regrown, w'' = grow (redrawn W p.d) p.os :=
      fun r d os => CallsIn.regrown_of (CallsIn.inRound l (callsIn_wide.2 (hC _)))
    have y0 := cell_regrown k0
    have y1 := cell_regrown k1
    have y2 := cell_regrown k2
    have y3 := cell_regrown k3
    have y4 := cell_regrown k4
    have yM := cell_regrown cM
    have HB1 := Lib.hid hB1
    have HM1 := Lib.hid bM1
    clear hC hb k0 k1 k2 k3 k4 k5 cM hB1 bM1 hmx
    gi_wp2_with fail
    refine region_qtail 14 (by kernel_rfl) (by kernel_rfl) ?_
    simp only [List.take_succ_cons, List.take_zero, List.drop_succ_cons, List.drop_zero]
    repeat (quiet_step_in (first | exact cC _ _ _ | exact ⟨fun h => (by cases h), cC _ _ _⟩))
    refine wpQuietIn_nil ?_
    intro _ hw'
    obtain ⟨⟨dq, osq⟩, hw''⟩ := hw'
    subst hw''
    have bq := below_regrown W dq osq
    generalize grow (redrawn W dq) osq = wq at bq ⊢
    have bM3 : Boxed wq w.heap.size 3 (.int .i64 (sumP F pre)) := Boxed.kept HM1.out (grown_of_below bq) (by simp)
    have cM3 := bM3.cell
    have fM3 := bM3.frozen
    have HQ := Lib.hid bq
    clear bq y0 y1 y2 y3 y4 yM cC
    gi_wp2
    have hs3 := HQ.out.size
    refine ⟨((keeps_b HQ.out).trans (KeepsOthers.setCell _ _ _)).from _, (KpC.below HQ.out (by omega) (by omega)).trans (KpC.of (grownBy_setCell' _ _ _) (by omega) (by omega) (fun k e => by cases e; omega)), ⟨?_, by simp [World.setCell]; omega⟩, (HB1.out.trans (HQ.out.mono hs2)).setCell (p := ⟨w.heap.size, 0, none⟩) (Nat.le_refl _) _⟩
    rw [HSn.out]
    exact bM3.set _
  case done =>
    rintro D ys W hD rfl ⟨⟨bM1, hz1⟩, hB1⟩ hK
    have cM := bM1.cell
    rw [HF.out] at cM
    gi_wp2
    refine ⟨by simp, .inl ⟨_, _, rfl, run_takeDeferred hK, ?_⟩⟩
    refine ⟨_, results_tmp rfl _ _ _, ?_⟩
    exact ⟨rfl, hB1.trans (belowK_b (w := w) (Nat.le_refl _) W D _ _ (by omega) hK rfl rfl)⟩
  case stop =>
    rintro D c' pre W _ _ h _
    exact h.elim
end Go.Proofs.Ytdnegamminhbfaa
