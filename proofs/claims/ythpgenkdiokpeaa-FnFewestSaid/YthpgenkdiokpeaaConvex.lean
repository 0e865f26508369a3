/- The program's test whether a ring of corners is convex. -/
import Derived.Test.YthpgenkdiokpeaaArea
import Derived.Test.YthpgenkdiokpeaaQuiAlloc
namespace Go.Proofs.Ythpgenkdiokpeaa
open Go.RowKit Go.Sort Go.Lib Go.Shelf
attribute [local go_sem] Oper.semAt_some bAtU

theorem mk_vec {o : Oper} (hg : o.guard = none) (h : o.op = .alloc 55) : Mk Try.prog o (vecO 0 0) :=
  ⟨hg, fun w a => by simp [Oper.about, h], fun w a => by unfold execOp; rw [h]; go_simp⟩

def cntP {n : Nat} (f : Nat → Bool) (pre : List (Fin n)) : Nat := pre.countP (fun i => f i.1)
theorem cntP_yes {n : Nat} {f : Nat → Bool} (pre : List (Fin n)) {x : Fin n} (h : f x.1 = true) : cntP f (pre ++ [x]) = cntP f pre + 1 := by simp [cntP, List.countP_append, h]
theorem cntP_no {n : Nat} {f : Nat → Bool} (pre : List (Fin n)) {x : Fin n} (h : f x.1 = false) : cntP f (pre ++ [x]) = cntP f pre := by simp [cntP, List.countP_append, h]
theorem cntP_le {n : Nat} (f : Nat → Bool) (pre : List (Fin n)) : cntP f pre ≤ pre.length := List.countP_le_length
theorem cntP_firsts {n : Nat} (f : Nat → Bool) (h : 0 < n) : ∀ k, k ≤ n → cntP f (firsts h k) = numN f k
  | 0, _ => by simp [cntP, firsts, numN]
  | k + 1, hk => by
    rw [firsts_succ, numN]
    have e := fz_val h (i := k) (by omega)
    cases hf : f k with
    | true => rw [cntP_yes _ (by rw [e]; exact hf), cntP_firsts f h k (by omega)]; rfl
    | false => rw [cntP_no _ (by rw [e]; exact hf), cntP_firsts f h k (by omega)]; rfl
theorem firsts_all {n : Nat} (h : 0 < n) (x : Fin n) : x ∈ firsts h n := List.mem_map.2 ⟨x.1, List.mem_range.2 x.2, Fin.ext (fz_val h x.2)⟩

/-- The step at a corner of a ring. -/
abbrev stp (ps : List Pt) (i : Nat) : Pt := subP (atP ps ((i + 1) % ps.length)) (atP ps i)
def fullB (a b : Pt) : Bool := decide (a.2 < 0) && decide (0 ≤ b.2)
abbrev okAt (ps : List Pt) (i : Nat) : Bool := okB (stp ps i) (stp ps ((i + 1) % ps.length))
abbrev fullAt (ps : List Pt) (i : Nat) : Bool := fullB (stp ps i) (stp ps ((i + 1) % ps.length))
def convI (ps : List Pt) : Bool := (List.range ps.length).all (okAt ps) && decide (numN (fullAt ps) ps.length = 1)

set_option maxRecDepth 100000 in
set_option maxHeartbeats 8000000 in
theorem convex_any (gs : List Nat) (ps : List Pt) (w : World) (hR : Ring w gs ps) (hn8 : ps.length < 1000000) (hb : ∀ i, i < ps.length → (-400 ≤ (atP ps i).1 ∧ (atP ps i).1 ≤ 400) ∧ (-400 ≤ (atP ps i).2 ∧ (atP ps i).2 ≤ 400)) :
    Calls Try.prog 159 #[ptrV (gs.getD 0 0)] w fun e w' => e = .returned (.bool (convI ps)) ∧ Below w.heap.size w w' := by
  have HR := Lib.hid hR
  have HN := Lib.hid hn8
  obtain ⟨g0, eg⟩ : ∃ g0, g0 = gs.getD 0 0 := ⟨_, rfl⟩
  rw [← eg]
  have EG := Lib.hid eg
  have hps := hR.pos
  clear hR hn8 eg
  have HF := Lib.hid (cntP_firsts (fullAt ps) hps ps.length (Nat.le_refl _))
  have HCI := Lib.hid (show convI ps = ((List.range ps.length).all (okAt ps) && decide (numN (fullAt ps) ps.length = 1)) from rfl)
  generalize convI ps = cv at *
  refine (callsIn_wide (n := 5)).1 ?_
  refine callsIn_of_wp_marks Try.func159 rfl trivial ?_ rfl
  simp only [Try.ntmps159, List.size_toArray, List.length_cons, List.length_nil, Nat.reduceAdd, Nat.reduceSub, Array.replicate_succ, Array.replicate_zero, List.push_toArray, List.append_toArray, List.nil_append, List.cons_append]
  gi_wp2_with fail
  refine ⟨trivial, (around_in Fence.wide _ trivial rfl _ _).mono ?_⟩
  rintro e w3 ⟨rfl, rfl⟩
  gi_wp2_with fail
  have bA := ((Boxed.new w 4 (.bool false)).alloc (.cells #[.int .i64 0] 3)).alloc (.cells #[ptrV g0] 47)
  have bM := (Boxed.new (w.alloc (.cells #[.bool false] 4)) 3 (.int .i64 0)).alloc (.cells #[ptrV g0] 47)
  have bS := Boxed.new ((w.alloc (.cells #[.bool false] 4)).alloc (.cells #[.int .i64 0] 3)) 47 (ptrV g0)
  rw [World.size_alloc] at bM
  rw [World.size_alloc, World.size_alloc] at bS
  have hB0 : Below w.heap.size w (((w.alloc (.cells #[.bool false] 4)).alloc (.cells #[.int .i64 0] 3)).alloc (.cells #[ptrV g0] 47)) := below_alloc (below_alloc (below_alloc (Below.refl _ _) _) _) _
  have hsz : (((w.alloc (.cells #[.bool false] 4)).alloc (.cells #[.int .i64 0] 3)).alloc (.cells #[ptrV g0] 47)).heap.size = w.heap.size + 3 := by simp
  obtain ⟨W0, hW0⟩ : ∃ W0, ((w.alloc (.cells #[.bool false] 4)).alloc (.cells #[.int .i64 0] 3)).alloc (.cells #[ptrV g0] 47) = W0 := ⟨_, rfl⟩
  rw [hW0] at bA bM bS hB0 hsz ⊢
  clear hW0
  refine wpIn_rangeFunc_ownH (F := Fence.wide) rfl (by omega) (gf := 173) (lb := #[ptrV (w.heap.size + 1 + 1)]) rfl trivial (enters_of Try.func173 (by kernel_rfl) rfl)
    (around_stops _ (w.heap.size + 1 + 1) w.heap.size gs ps HN.out W0 (HR.out.same hB0) (fun i hi => HR.out.lt hi) hB0.size (by omega) (by rw [← EG.out]; exact bS.cell)) KpC.trans (KpC.put (by omega) (by omega)) (Below.refl _ _) (fun _ => rfl)
    (fun pre W => ((((∀ t ∈ pre, okAt ps t.1 = true) ∧ Boxed W w.heap.size 4 (.bool false)) ∧ Boxed W (w.heap.size + 1) 3 (.int .i64 (cntP (fullAt ps) pre : Nat))) ∧ w.heap.size + 3 ≤ W.heap.size) ∧ Below w.heap.size w W)
    (fun c' pre W => ((c' = .ret ∧ (∃ t ∈ pre, okAt ps t.1 = false)) ∧ Boxed W w.heap.size 4 (.bool false)) ∧ Below w.heap.size w W)
    (OwnFrom.and (OwnFrom.and (OwnFrom.and (OwnFrom.and (ownFrom_pure _ _) (Own.from (boxed_own _ _ (fun _ => Value.bool false)) _)) (Own.from (boxed_own _ _ _) _)) (bx_size _ _)) (ownFrom_below (Nat.le_refl _) (by omega)))
    (fun _ => OwnFrom.and (OwnFrom.and (ownFrom_pure _ _) (Own.from (boxed_own _ _ (fun _ => Value.bool false)) _)) (ownFrom_below (Nat.le_refl _) (by omega)))
    ⟨⟨⟨⟨fun t ht => by simp at ht, bA⟩, bM⟩, by omega⟩, hB0⟩
    (fun x a' _ => a' = { tmps := #[ptrV g0, undef, ptrV w.heap.size, ptrV (w.heap.size + 1), ptrV (gs.getD x.1 0), undef, undef, ptrV g0, .func (.func 173) #[] #[ptrV (w.heap.size + 1 + 1)], ptrV (gs.getD x.1 0), undef, undef, undef, undef, undef, undef, undef, undef, undef, undef, undef, undef, undef, undef, undef, undef, undef, undef, undef, undef, undef, undef, undef, undef, undef, undef, undef, undef, undef], defers := [] })
    (fun _ _ _ _ _ _ hs _ _ => hs)
    ?assign ?body ?done ?stop
  case assign =>
    rintro l pre x W K ⟨⟨⟨⟨hok, bA1⟩, bM1⟩, hz1⟩, hB1⟩ hK
    simp only [encC]
    gi_wp2
    exact hK _ _ ((KeepsOthers.refl _).from _) (KpC.refl _ _ _) ⟨⟨⟨⟨hok, bA1⟩, bM1⟩, hz1⟩, hB1⟩ rfl
  case body =>
    rintro l pre x a' W hl ⟨r, hr⟩ ⟨⟨⟨⟨hok, bA1⟩, bM1⟩, hz1⟩, hB1⟩ rfl hlt
    have hs2 := hB1.size
    have hRW := HR.out.same hB1
    have hm1 : (x.1 + 1) % ps.length < ps.length := Nat.mod_lt _ hps
    have hm2 : ((x.1 + 1) % ps.length + 1) % ps.length < ps.length := Nat.mod_lt _ hps
    obtain ⟨_, _, k2⟩ := (hRW.cells x.1 x.2).cells
    have h1 := hb x.1 x.2
    have h2 := hb _ hm1
    have h3 := hb _ hm2
    have hS1 := fun (W' : World) (hb' : Below W.heap.size W W') => step_any _ _ _ _ _ _ _ W' ((hRW.cells x.1 x.2).same hb') ((hRW.cells _ hm1).same hb') (by omega) (by omega)
    have hS2 := fun (W' : World) (hb' : Below W.heap.size W W') => step_any _ _ _ _ _ _ _ W' ((hRW.cells _ hm1).same hb') ((hRW.cells _ hm2).same hb') (by omega) (by omega)
    have e1 : (stp ps x.1) = ((atP ps ((x.1 + 1) % ps.length)).1 - (atP ps x.1).1, (atP ps ((x.1 + 1) % ps.length)).2 - (atP ps x.1).2) := rfl
    have e2 : (stp ps ((x.1 + 1) % ps.length)) = ((atP ps (((x.1 + 1) % ps.length + 1) % ps.length)).1 - (atP ps ((x.1 + 1) % ps.length)).1, (atP ps (((x.1 + 1) % ps.length + 1) % ps.length)).2 - (atP ps ((x.1 + 1) % ps.length)).2) := rfl
    have hfa : fullAt ps x.1 = fullB (stp ps x.1) (stp ps ((x.1 + 1) % ps.length)) := rfl
    have hoa : okAt ps x.1 = okB (stp ps x.1) (stp ps ((x.1 + 1) % ps.length)) := rfl
    rw [e1, e2] at hfa hoa
    have p1 : -800 ≤ (atP ps ((x.1 + 1) % ps.length)).1 - (atP ps x.1).1 ∧ (atP ps ((x.1 + 1) % ps.length)).1 - (atP ps x.1).1 ≤ 800 := by omega
    have p2 : -800 ≤ (atP ps ((x.1 + 1) % ps.length)).2 - (atP ps x.1).2 ∧ (atP ps ((x.1 + 1) % ps.length)).2 - (atP ps x.1).2 ≤ 800 := by omega
    have p3 : -800 ≤ (atP ps (((x.1 + 1) % ps.length + 1) % ps.length)).1 - (atP ps ((x.1 + 1) % ps.length)).1 ∧ (atP ps (((x.1 + 1) % ps.length + 1) % ps.length)).1 - (atP ps ((x.1 + 1) % ps.length)).1 ≤ 800 := by omega
    have p4 : -800 ≤ (atP ps (((x.1 + 1) % ps.length + 1) % ps.length)).2 - (atP ps ((x.1 + 1) % ps.length)).2 ∧ (atP ps (((x.1 + 1) % ps.length + 1) % ps.length)).2 - (atP ps ((x.1 + 1) % ps.length)).2 ≤ 800 := by omega
    clear h1 h2 h3 e1 e2
    generalize (atP ps ((x.1 + 1) % ps.length)).1 - (atP ps x.1).1 = ax at *
    generalize (atP ps ((x.1 + 1) % ps.length)).2 - (atP ps x.1).2 = ay at *
    generalize (atP ps (((x.1 + 1) % ps.length + 1) % ps.length)).1 - (atP ps ((x.1 + 1) % ps.length)).1 = bx at *
    generalize (atP ps (((x.1 + 1) % ps.length + 1) % ps.length)).2 - (atP ps ((x.1 + 1) % ps.length)).2 = by_ at *
    have hprod : ∀ a b : Int, (a = ax ∨ a = ay) → (b = bx ∨ b = by_) → -1000000 ≤ a * b ∧ a * b ≤ 1000000 := fun a b ha hb' => by
      have := mul_sq (a := a) (b := b) (A := 800) (B := 800) (by rcases ha with rfl | rfl <;> omega) (by rcases ha with rfl | rfl <;> omega) (by rcases hb' with rfl | rfl <;> omega) (by rcases hb' with rfl | rfl <;> omega)
      omega
    have hC := fun W' => cross_any ax ay bx by_ W' hprod
    have hA := fun W' => along_any ax ay bx by_ W' hprod
    have HOK := Lib.hid (okB_impl (ax, ay) (bx, by_))
    have HFA := Lib.hid (show fullB (ax, ay) (bx, by_) = (decide (ay < 0) && decide (0 ≤ by_)) from rfl)
    rw [← hoa] at HOK
    rw [← hfa] at HFA
    have HA := Lib.hid hok
    clear hprod p1 p2 p3 p4 hoa hfa hRW hok
    generalize crs (ax, ay) (bx, by_) = cr at *
    generalize dotP (ax, ay) (bx, by_) = dt at *
    generalize gs.getD ((x.1 + 1) % ps.length) 0 = g2 at *
    generalize gs.getD x.1 0 = g1 at *
    have cS1 : ∀ r d os, CallsIn (Fence.wide.inRound l) r Try.prog 102 #[ptrV g1] (grow (redrawn W d) os) fun e w'' => e = .returned (vecX ax ay) ∧ Bel (grow (redrawn W d) os) w'' :=
      fun r d os => CallsIn.inRound l (callsIn_wide.2 (hS1 _ (below_regrown W d os)))
    have cS2 : ∀ r d os, CallsIn (Fence.wide.inRound l) r Try.prog 102 #[ptrV g2] (grow (redrawn W d) os) fun e w'' => e = .returned (vecX bx by_) ∧ Bel (grow (redrawn W d) os) w'' :=
      fun r d os => CallsIn.inRound l (callsIn_wide.2 (hS2 _ (below_regrown W d os)))
    have y2 := cell_regrown k2
    have HB1 := Lib.hid hB1
    have HA1 := Lib.hid bA1
    have HM1 := Lib.hid bM1
    have hf1 : Fence.wide.fn 102 := trivial
    have HC := Lib.hid hC
    have HL := Lib.hid hA
    clear hS1 hS2 hb k2 hB1 bA1 bM1 hC hA
    gi_wp2_with fail
    refine region_qalloc 7 rfl rfl (mk_vec rfl rfl) (mk_vec rfl rfl) (by decide) (by kernel_rfl) (by kernel_rfl) ?_
    simp only [List.take_succ_cons, List.take_zero, List.drop_succ_cons, List.drop_zero]
    refine ⟨ptrV g1, ⟨rfl, fun _ _ _ _ => trivial, ?_⟩, vecX ax ay, ⟨rfl, fun _ _ _ _ => trivial, ?_⟩, ptrV g1, ⟨rfl, fun _ _ _ _ => trivial, ?_⟩, ptrV g1, ⟨rfl, fun _ _ _ _ => trivial, ?_⟩, .pointer (some ⟨g1, 2, none⟩), ⟨rfl, fun _ _ _ _ => trivial, ?_⟩, ptrV g2, ⟨rfl, fun _ _ _ _ => trivial, ?_⟩, vecX bx by_, ⟨rfl, fun _ _ _ _ => trivial, ?_⟩, ?_⟩
    · rintro _ ⟨⟨d, os⟩, rfl⟩
      go_simp
    · rintro _ ⟨⟨d, os⟩, rfl⟩
      go_simp
    · rintro _ ⟨⟨d, os⟩, rfl⟩
      go_simp
    · rintro _ ⟨⟨d, os⟩, rfl⟩
      go_simp
    · rintro _ ⟨⟨d, os⟩, rfl⟩
      go_simp
    · rintro _ ⟨⟨d, os⟩, rfl⟩
      go_simp
    · rintro _ ⟨⟨d, os⟩, rfl⟩
      go_simp
    intro B1 B2 hb1 hb2 hne wq hwq hq1 hq2
    have bq : Below W.heap.size W wq := by obtain ⟨⟨d, os⟩, rfl⟩ := hwq; exact below_regrown W d os
    have HQ := Lib.hid bq
    clear bq y2 cS1 cS2 hwq
    obtain ⟨j0, j1, j2, j3⟩ := pr_cells hq1
    obtain ⟨j4, j5, j6, j7⟩ := pr_cells hq2
    gi_wp2_with fail
    have W5d := pr_below (pr_below HQ.out hb1 (.int .i64 ax) (.int .i64 ay)) hb2 (.int .i64 bx) (.int .i64 by_)
    have e5 := pr_set hq1 (.int .i64 ax) (.int .i64 ay)
    have e6 : (((wq.setCell ⟨B1, 0, none⟩ (.int .i64 ax)).setCell ⟨B1, 1, none⟩ (.int .i64 ay))).heap[B2]? = some (vecO 0 0) := (Below.heap_setCell _ ⟨B1, 1, none⟩ _ _ (Ne.symm hne)).trans ((Below.heap_setCell _ ⟨B1, 0, none⟩ _ _ (Ne.symm hne)).trans hq2)
    have e7 := pr_set e6 (.int .i64 bx) (.int .i64 by_)
    have e8 : ((((wq.setCell ⟨B1, 0, none⟩ (.int .i64 ax)).setCell ⟨B1, 1, none⟩ (.int .i64 ay)).setCell ⟨B2, 0, none⟩ (.int .i64 bx)).setCell ⟨B2, 1, none⟩ (.int .i64 by_)).heap[B1]? = some (vecO ax ay) := (Below.heap_setCell _ ⟨B2, 1, none⟩ _ _ hne).trans ((Below.heap_setCell _ ⟨B2, 0, none⟩ _ _ hne).trans e5)
    generalize (((wq.setCell ⟨B1, 0, none⟩ (.int .i64 ax)).setCell ⟨B1, 1, none⟩ (.int .i64 ay)).setCell ⟨B2, 0, none⟩ (.int .i64 bx)).setCell ⟨B2, 1, none⟩ (.int .i64 by_) = W5 at *
    have D5 := Lib.hid W5d
    have E8 := Lib.hid (And.intro e8 e7)
    clear W5d e5 e6 e7 e8 j0 j1 j2 j3 j4 j5 j6 j7 hq1 hq2 HQ
    refine ⟨trivial, (CallsIn.inRound l (callsIn_wide.2 (HC.out _))).mono ?_⟩
    rintro e w7 ⟨rfl, b7⟩
    have D7 := Lib.hid (D5.out.trans (b7.mono D5.out.size))
    have q1 := (b7.block _ (Array.getElem?_eq_some_iff.1 E8.out.1).1).trans E8.out.1
    have q2 := (b7.block _ (Array.getElem?_eq_some_iff.1 E8.out.2).1).trans E8.out.2
    obtain ⟨j0, j1, _, _⟩ := pr_cells q1
    obtain ⟨j4, j5, _, _⟩ := pr_cells q2
    have Q7 := Lib.hid (And.intro q1 q2)
    clear q1 q2 b7
    by_cases hcr : cr ≤ 0
    · cases hal : (decide (cr = 0) && decide (0 < dt)) with
      | true =>
        have HAL := Lib.hid hal
        have hL := HL.out
        rw [hal] at hL
        have HL2 := Lib.hid hL
        have HCR := Lib.hid hcr
        clear hL hal
        gi_wp2_with fail
        refine ⟨trivial, (CallsIn.inRound l (callsIn_wide.2 (HL2.out _))).mono ?_⟩
        rintro e w6 ⟨rfl, b6⟩
        have D6 := Lib.hid (D7.out.trans (b6.mono D7.out.size))
        have E1 := Lib.hid (fun (_ : World) (_ : Below W.heap.size W w6) => (b6.block _ (Array.getElem?_eq_some_iff.1 Q7.out.1).1).trans Q7.out.1)
        have E2 := Lib.hid (fun (_ : World) (_ : Below W.heap.size W w6) => (b6.block _ (Array.getElem?_eq_some_iff.1 Q7.out.2).1).trans Q7.out.2)
        clear b6 j0 j1 j4 j5 hcr
        have HOKT := Lib.hid (show okAt ps x.1 = true from by rw [HOK.out, HAL.out]; simp)
        obtain ⟨u0, u1, _, _⟩ := pr_cells (E1.out w6 D6.out)
        obtain ⟨u2, u3, _, _⟩ := pr_cells (E2.out w6 D6.out)
        have bA6 := HA1.out.kept (grown_of_below D6.out) (by simp)
        have bM6 := HM1.out.kept (grown_of_below D6.out) (by simp)
        have cM6 := bM6.cell
        have fM6 := bM6.frozen
        have hall : ∀ t ∈ pre ++ [x], okAt ps t.1 = true := fun t ht => by
          rcases List.mem_append.1 ht with ht | ht
          · exact HA.out t ht
          · obtain rfl : t = x := by simpa using ht
            exact HOKT.out
        have HALL := Lib.hid hall
        have hlec := cntP_le (fullAt ps) pre
        clear hall
        by_cases hy1 : ay < 0
        · by_cases hy2 : 0 ≤ by_
          · have hfx : fullAt ps x.1 = true := by rw [HFA.out, decide_eq_true hy1, decide_eq_true hy2]; rfl
            have HCY := Lib.hid (cntP_yes pre hfx)
            have v1 : IntKind.i64.wrap ((cntP (fullAt ps) pre : Int) + 1) = (cntP (fullAt ps) pre : Int) + 1 := wrap_is rfl (by omega) (by omega)
            have d7 : decide (by_ ≥ 0) = true := by simpa using hy2
            clear hfx
            gi_wp2
            have hz6 := D6.out.size
            have hgr := grownBy_setCell' w6 (w.heap.size + 1) (.int .i64 ((cntP (fullAt ps) pre : Int) + 1))
            refine ⟨((keeps_b D6.out).trans (KeepsOthers.setCell _ _ _)).from _, (KpC.below D6.out (by omega) (by omega)).trans (KpC.of hgr (by omega) (by omega) (fun k e => by cases e; omega)), ⟨⟨⟨HALL.out, bA6.kept hgr (by intro e; injection e; omega)⟩, ?_⟩, by simp [World.setCell]; omega⟩, (HB1.out.trans (D6.out.mono hs2)).setCell (p := ⟨w.heap.size + 1, 0, none⟩) (by show w.heap.size ≤ w.heap.size + 1; omega) _⟩
            rw [HCY.out]
            have := bM6.set (.int .i64 ((cntP (fullAt ps) pre : Int) + 1))
            simpa using this
          · have hfx : fullAt ps x.1 = false := by rw [HFA.out, decide_eq_false hy2]; simp
            have HCY := Lib.hid (cntP_no pre hfx)
            have d7 : decide (by_ ≥ 0) = false := by simpa using hy2
            clear hfx hy2
            gi_wp2
            have hz6 := D6.out.size
            refine ⟨(keeps_b D6.out).from _, KpC.below D6.out (by omega) (by omega), ⟨⟨⟨HALL.out, bA6⟩, by rw [HCY.out]; exact bM6⟩, by omega⟩, HB1.out.trans (D6.out.mono hs2)⟩
        · have hfx : fullAt ps x.1 = false := by rw [HFA.out, decide_eq_false hy1]; rfl
          have HCY := Lib.hid (cntP_no pre hfx)
          have d7 : decide (ay < 0) = false := by simpa using hy1
          clear hfx hy1
          gi_wp2
          have hz6 := D6.out.size
          refine ⟨(keeps_b D6.out).from _, KpC.below D6.out (by omega) (by omega), ⟨⟨⟨HALL.out, bA6⟩, by rw [HCY.out]; exact bM6⟩, by omega⟩, HB1.out.trans (D6.out.mono hs2)⟩
      | false =>
        have HAL := Lib.hid hal
        have hL := HL.out
        rw [hal] at hL
        have HL2 := Lib.hid hL
        have HCR := Lib.hid hcr
        have HOKF := Lib.hid (show okAt ps x.1 = false by rw [HOK.out, hal, decide_eq_true hcr]; rfl)
        clear hL hal
        gi_wp2_with fail
        refine ⟨trivial, (CallsIn.inRound l (callsIn_wide.2 (HL2.out _))).mono ?_⟩
        rintro e w6 ⟨rfl, b6⟩
        have D6 := Lib.hid (D7.out.trans (b6.mono D7.out.size))
        have bA6 := HA1.out.kept (grown_of_below D6.out) (by simp)
        have cA6 := bA6.cell
        have fA6 := bA6.frozen
        clear b6 j0 j1 j4 j5 hcr
        gi_wp2
        have hz6 := D6.out.size
        exact ⟨((keeps_b D6.out).trans (KeepsOthers.setCell _ _ _)).from _, ⟨⟨rfl, x, by simp, HOKF.out⟩, bA6.set _⟩, (HB1.out.trans (D6.out.mono hs2)).setCell (p := ⟨w.heap.size, 0, none⟩) (Nat.le_refl _) _⟩
    · have HCR := Lib.hid hcr
      have d8 : decide (cr ≤ 0) = false := by simpa using hcr
      obtain ⟨w6, e6⟩ : ∃ w6, w6 = w7 := ⟨_, rfl⟩
      subst e6
      have D6 := D7
      have E1 := Lib.hid (fun (_ : World) (_ : Below W.heap.size W w6) => Q7.out.1)
      have E2 := Lib.hid (fun (_ : World) (_ : Below W.heap.size W w6) => Q7.out.2)
      clear hcr j0 j1 j4 j5
      gi_wp2_with fail
      refine ⟨trivial, ?_⟩
      have HOKT := Lib.hid (show okAt ps x.1 = true from by rw [HOK.out, decide_eq_false (show ¬ cr ≤ 0 by have := HCR.out; omega)]; rfl)
      obtain ⟨u0, u1, _, _⟩ := pr_cells (E1.out w6 D6.out)
      obtain ⟨u2, u3, _, _⟩ := pr_cells (E2.out w6 D6.out)
      have bA6 := HA1.out.kept (grown_of_below D6.out) (by simp)
      have bM6 := HM1.out.kept (grown_of_below D6.out) (by simp)
      have cM6 := bM6.cell
      have fM6 := bM6.frozen
      have hall : ∀ t ∈ pre ++ [x], okAt ps t.1 = true := fun t ht => by
        rcases List.mem_append.1 ht with ht | ht
        · exact HA.out t ht
        · obtain rfl : t = x := by simpa using ht
          exact HOKT.out
      have HALL := Lib.hid hall
      have hlec := cntP_le (fullAt ps) pre
      clear hall
      by_cases hy1 : ay < 0
      · by_cases hy2 : 0 ≤ by_
        · have hfx : fullAt ps x.1 = true := by rw [HFA.out, decide_eq_true hy1, decide_eq_true hy2]; rfl
          have HCY := Lib.hid (cntP_yes pre hfx)
          have v1 : IntKind.i64.wrap ((cntP (fullAt ps) pre : Int) + 1) = (cntP (fullAt ps) pre : Int) + 1 := wrap_is rfl (by omega) (by omega)
          have d7 : decide (by_ ≥ 0) = true := by simpa using hy2
          clear hfx
          gi_wp2
          have hz6 := D6.out.size
          have hgr := grownBy_setCell' w6 (w.heap.size + 1) (.int .i64 ((cntP (fullAt ps) pre : Int) + 1))
          refine ⟨((keeps_b D6.out).trans (KeepsOthers.setCell _ _ _)).from _, (KpC.below D6.out (by omega) (by omega)).trans (KpC.of hgr (by omega) (by omega) (fun k e => by cases e; omega)), ⟨⟨⟨HALL.out, bA6.kept hgr (by intro e; injection e; omega)⟩, ?_⟩, by simp [World.setCell]; omega⟩, (HB1.out.trans (D6.out.mono hs2)).setCell (p := ⟨w.heap.size + 1, 0, none⟩) (by show w.heap.size ≤ w.heap.size + 1; omega) _⟩
          rw [HCY.out]
          have := bM6.set (.int .i64 ((cntP (fullAt ps) pre : Int) + 1))
          simpa using this
        · have hfx : fullAt ps x.1 = false := by rw [HFA.out, decide_eq_false hy2]; simp
          have HCY := Lib.hid (cntP_no pre hfx)
          have d7 : decide (by_ ≥ 0) = false := by simpa using hy2
          clear hfx hy2
          gi_wp2
          have hz6 := D6.out.size
          refine ⟨(keeps_b D6.out).from _, KpC.below D6.out (by omega) (by omega), ⟨⟨⟨HALL.out, bA6⟩, by rw [HCY.out]; exact bM6⟩, by omega⟩, HB1.out.trans (D6.out.mono hs2)⟩
      · have hfx : fullAt ps x.1 = false := by rw [HFA.out, decide_eq_false hy1]; rfl
        have HCY := Lib.hid (cntP_no pre hfx)
        have d7 : decide (ay < 0) = false := by simpa using hy1
        clear hfx hy1
        gi_wp2
        have hz6 := D6.out.size
        refine ⟨(keeps_b D6.out).from _, KpC.below D6.out (by omega) (by omega), ⟨⟨⟨HALL.out, bA6⟩, by rw [HCY.out]; exact bM6⟩, by omega⟩, HB1.out.trans (D6.out.mono hs2)⟩
  case done =>
    rintro D ys W hD rfl ⟨⟨⟨⟨ha, bA1⟩, bM1⟩, hz1⟩, hB1⟩ hK
    have HAL := Lib.hid ha
    clear ha
    have cM := bM1.cell
    rw [HF.out] at cM
    have hcr := bA1.cell
    have hfr := bA1.frozen
    have hcv : cv = decide (numN (fullAt ps) ps.length = 1) := by
      rw [HCI.out, List.all_eq_true.2 (fun i hi => ?_), Bool.true_and]
      rw [List.mem_range] at hi
      have := HAL.out ⟨i, hi⟩ (firsts_all hps ⟨i, hi⟩)
      exact this
    have HCV := Lib.hid hcv
    clear hcv
    generalize numN (fullAt ps) ps.length = m at *
    have dm : ((m : Int) == 1) = decide (m = 1) := by rw [Bool.eq_iff_iff]; simp; omega
    gi_wp2
    have hK' := (KeepsOthers.setCell W ⟨w.heap.size, 0, none⟩ (.bool (decide (m = 1)))).same D _ hK rfl
    refine ⟨by simp, .inl ⟨_, _, rfl, run_takeDeferred hK', ?_⟩⟩
    have hc5 := cell_kept (World.cell?_setCell_same' W ⟨w.heap.size, 0, none⟩ (.bool (decide (m = 1))) (by rw [hcr]; rfl)) (grownBy_putObj' _ D (.deferred none)) (fun r e => by cases e; exact ⟨_, hK', rfl⟩)
    refine ⟨.bool (decide (m = 1)), ?_, by rw [HCV.out], (hB1.setCell (p := ⟨w.heap.size, 0, none⟩) (Nat.le_refl _) _).trans (belowK_b (w := w) (Nat.le_refl _) _ D _ _ (by omega) hK' rfl rfl)⟩
    simp [results, Try.f159, go_sem, hc5]
  case stop =>
    rintro D c' pre W hD _ ⟨⟨⟨rfl, t, htm, ht⟩, bA1⟩, hB1⟩ hK
    have hcr := bA1.cell
    have hcv : cv = false := by
      rw [HCI.out]
      cases h : (List.range ps.length).all (okAt ps) with
      | false => rfl
      | true =>
        have := List.all_eq_true.1 h t.1 (List.mem_range.2 t.2)
        rw [ht] at this
        cases this
    have HCV := Lib.hid hcv
    clear hcv
    gi_wp2
    refine ⟨by simp, .inl ⟨_, _, rfl, run_takeDeferred hK, ?_⟩⟩
    have hc5 := cell_kept hcr (grownBy_putObj' _ D (.deferred none)) (fun r e => by cases e; exact ⟨_, hK, rfl⟩)
    refine ⟨.bool false, ?_, by rw [HCV.out], hB1.trans (belowK_b (w := w) (Nat.le_refl _) W D _ _ (by omega) hK rfl rfl)⟩
    simp [results, Try.f159, go_sem, hc5]
end Go.Proofs.Ythpgenkdiokpeaa
