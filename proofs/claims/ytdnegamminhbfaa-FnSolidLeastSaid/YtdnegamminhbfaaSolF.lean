/- Contracts of the program's functions of chapter 8: the first one of all names. -/
import Derived.Test.YtdnegamminhbfaaSolE
import Derived.Test.YtdnegamminhbfaaSolN3
import Derived.Test.YtdnegamminhbfaaLess
import Derived.Shelf.Abstract
import Derived.Laws.Cover3
import Derived.Test.YtdnegamminhbfaaQuiAl1
namespace Go.Proofs.Ytdnegamminhbfaa
open Go.RowKit Go.Sort Go.Lib
attribute [local go_sem] Oper.semAt_some bAtU

theorem al_oldS {w : World} {g : Nat} {o o' : Obj} (h : w.heap[g]? = some o) : (w.alloc o').heap[g]? = some o := (Below.heap_alloc _ _ _ (Array.getElem?_eq_some_iff.1 h).1).trans h
theorem al_newS (w : World) (o o' : Obj) : ((w.alloc o).alloc o').heap[w.heap.size + 1]? = some o' := by
  have := World.alloc_heap_new (w.alloc o) o'
  rwa [World.size_alloc] at this
theorem Own.cap2 {w : World} {B n c : Nat} {A : Option Addr} {xs : List Int} (h : Own w B A n c xs) : c ≤ 9223372036854775807 := by
  rcases h.2 with ⟨e, h0⟩ | ⟨g, cap, cur, e, _, _, _, hc, _⟩
  · injection e with _ _ e; omega
  · injection e with _ _ e; unfold maxLen at hc; omega

set_option maxRecDepth 100000 in
set_option maxHeartbeats 8000000 in
theorem eachOrderI_any (w0 : World) (B bd bx : Nat) (d s0 : List Int) (acc : List Int → List Int → List Int) (b off n c : Nat) (l : List Int) (w : World) (h : Rd w (some ⟨b, off, none⟩) n l) (hn : n ≤ 1000)
    (hsd : SolAt w bd d) (hsx : SolAt w bx s0) (hB : B ≤ w.heap.size) (hbel : Below B w0 w)
    (hv : ∀ b1 b2 b3 g c' o s W, o.Perm l → FillS w0 B b1 b2 b3 bd bx g n c' d o s W → Calls Try.prog 140 #[.slice (some ⟨g, 0, none⟩) n c', ptrS bd, ptrS bx] W fun e w' => e = .returned (.tuple #[]) ∧ FillS w0 B b1 b2 b3 bd bx g n c' d o (acc s o) w')
    (he : ∀ args w, (callFunc 140 args).run Try.prog w = .ok (.enter 140 args) w) (h0 : 0 < n) (hls : s0.length = 6) :
    Calls Try.prog 139 #[.slice (some ⟨b, off, none⟩) n c, .func (.func 140) #[] #[ptrS bd, ptrS bx]] w fun e w' => e = .returned (.tuple #[]) ∧ SolAt w' bd d ∧ SolAt w' bx ((lvI n l 0).foldl acc s0) ∧ Below B w0 w' := by
  have HL := Lib.hid h.1
  obtain ⟨W1, hW1⟩ : ∃ W1, W1 = w.alloc (.cells #[.func (.func 140) #[] #[ptrS bd, ptrS bx]] 119) := ⟨_, rfl⟩
  have b1 : Below w.heap.size w W1 := by rw [hW1]; exact below_alloc (Below.refl _ _) _
  have hC := cloneA_any ⟨b, off, none⟩ n c l W1 (h.same b1) (by omega)
  have q1 : W1.heap[w.heap.size]? = some (.cells #[.func (.func 140) #[] #[ptrS bd, ptrS bx]] 119 (0, 0)) := by rw [hW1]; exact World.alloc_heap_new w _
  have q2 := hsd.same b1
  have q3 := hsx.same b1
  have HW := Lib.hid hW1
  have HC := Lib.hid hC
  have HQ := Lib.hid (And.intro b1 (And.intro q1 (And.intro q2 q3)))
  have hbl := hsd.lt
  have hbl2 := hsx.lt
  have HV := Lib.hid hv
  have HBL := Lib.hid hbel
  clear h hC hW1 b1 q1 q2 q3 hv hbel hsd hsx
  go_enter Try.func139, Try.ntmps139
  go_wp2_with fail
  change Calls _ _ _ (w.alloc (.cells #[.func (.func 140) #[] #[ptrS bd, ptrS bx]] 119)) _
  rw [← HW.out]
  refine HC.out.mono ?_
  rintro e w2 ⟨A2, c2, rfl, o2, b2⟩
  obtain ⟨g, rfl, hgB, hgl⟩ := o2.form (by omega)
  have HO := Lib.hid o2
  have HB2 := Lib.hid b2
  have hz1 : W1.heap.size = w.heap.size + 1 := by rw [HW.out]; simp
  obtain ⟨fv, efv⟩ : ∃ fv, fv = Value.func (.func 151) #[] #[ptrS w2.heap.size, ptrS w.heap.size, ptrS (w2.heap.size + 1)] := ⟨_, rfl⟩
  have hF : FillS w0 B w2.heap.size w.heap.size (w2.heap.size + 1) bd bx g n c2 d l s0 ((w2.alloc (.cells #[.slice (some ⟨g, 0, none⟩) n c2] 30)).alloc (.cells #[fv] 102)) := by
    have hb3 : Below w2.heap.size w2 ((w2.alloc (.cells #[.slice (some ⟨g, 0, none⟩) n c2] 30)).alloc (.cells #[fv] 102)) := below_alloc (below_alloc (Below.refl _ _) _) _
    have hc1 := al_oldS (o' := .cells #[fv] 102) (World.alloc_heap_new w2 (.cells #[.slice (some ⟨g, 0, none⟩) n c2] 30))
    have hS := al_newS w2 (.cells #[.slice (some ⟨g, 0, none⟩) n c2] 30) (.cells #[fv] 102)
    have up : ∀ {k : Nat} {ob : Obj}, W1.heap[k]? = some ob → ((w2.alloc (.cells #[.slice (some ⟨g, 0, none⟩) n c2] 30)).alloc (.cells #[fv] 102)).heap[k]? = some ob := fun hk => by
      have hlt := (Array.getElem?_eq_some_iff.1 hk).1
      have h2 := (HB2.out.block _ hlt).trans hk
      exact (hb3.block _ (Array.getElem?_eq_some_iff.1 h2).1).trans h2
    have hs2 := HB2.out.size
    refine ⟨hc1, up HQ.out.2.1, by rw [← efv]; exact hS, ((HO.out.al _).al _).lower (by omega), up HQ.out.2.2.1, up HQ.out.2.2.2, ?_, by omega, by omega, by omega, by omega, by omega, by omega, hls⟩
    exact ((HBL.out.trans (HQ.out.1.mono hB)).trans (HB2.out.mono (by omega))).trans (hb3.mono (by omega))
  have HF := Lib.hid (fillS_any w0 B w2.heap.size w.heap.size (w2.heap.size + 1) bd bx g n c2 d acc l hn HL.out HO.out.cap HO.out.cap2 (fun o s W hp hI => HV.out _ _ _ g c2 o s W hp hI) he n 0 l s0 _ (by omega) (List.Perm.refl _) hF)
  subst efv
  clear hF
  go_wp2_with fail
  refine HF.out.mono ?_
  rintro e w5 ⟨rfl, h5⟩
  have H5 := Lib.hid h5
  clear h5
  go_wp2_with fail
  go_end0
  exact ⟨rfl, H5.out.sd, H5.out.sx, H5.out.bel⟩

theorem grownS (W : World) (g o : Nat) (v : Value) : W.grownBy (W.setCell ⟨g, o, none⟩ v) (some g) :=
  ⟨rfl, rfl, rfl, by simp [World.setCell], fun k _ hk => heap_setCell_other W ⟨g, o, none⟩ k v (fun e => hk (by simp [e]))⟩
theorem FillS.setX {w0 W : World} {B b1 b2 b3 bd bx g n c : Nat} {d o s : List Int} (h : FillS w0 B b1 b2 b3 bd bx g n c d o s W) (hB : B ≤ bx) (hdx : bd ≠ bx) (a0 a1 a2 a3 a4 a5 : Int) : FillS w0 B b1 b2 b3 bd bx g n c d o [a0, a1, a2, a3, a4, a5] (six_put W bx a0 a1 a2 a3 a4 a5) := by
  have hl := h.ne.2.2.2.2.2
  have hs := six_set h.sx hl a0 a1 a2 a3 a4 a5
  have hg : W.grownBy (six_put W bx a0 a1 a2 a3 a4 a5) (some bx) :=
    grown_trans_row (grown_trans_row (grown_trans_row (grown_trans_row (grown_trans_row (grownS _ bx 0 _) (grownS _ bx 1 _)) (grownS _ bx 2 _)) (grownS _ bx 3 _)) (grownS _ bx 4 _)) (grownS _ bx 5 _)
  generalize six_put W bx a0 a1 a2 a3 a4 a5 = W' at *
  have oth : ∀ {k : Nat} {ob : Obj}, W.heap[k]? = some ob → k ≠ bx → W'.heap[k]? = some ob := fun hk hne => (hg.block _ (Array.getElem?_eq_some_iff.1 hk).1 (fun e => hne (Option.some.inj e))).trans hk
  have ty : ∀ {k : Nat} {v : Value} {T : TypeId}, W.heap[k]? = some (.cells #[v] T (0, 0)) → k ≠ bx := fun hk e => by
    have h1 := h.sx
    unfold SolAt at h1
    rw [e, h1] at hk
    simp only [Option.some.injEq, Obj.cells.injEq] at hk
    have := congrArg Array.size hk.1
    simp [hl] at this
  refine ⟨oth h.c1 (ty h.c1), oth h.c2 (ty h.c2), oth h.c3 (ty h.c3), World.ownsRow.kept h.own hg (.inr fun e => h.ne.2.2.2.2.1 (Option.some.inj e).symm), oth h.sd hdx, hs, h.bel.grown hg ?_ (fun k e => by cases e; exact hB), h.hg, h.ne.1, h.ne.2.1, h.ne.2.2.1, h.ne.2.2.2.1, h.ne.2.2.2.2.1, rfl⟩
  have h1 := (h.own.row g rfl).2
  have h2 := h.hg
  omega
theorem SolAt.dr {w : World} {g : Nat} {xs : List Int} (h : SolAt w g xs) : SolAt w.drew g xs := by unfold SolAt at h ⊢; exact h
theorem mk_sol {o : Oper} (hg : o.guard = none) (h : o.op = .alloc 81) : Mk Try.prog o (.cells #[.int .i64 0, .int .i64 0, .int .i64 0, .int .i64 0, .int .i64 0, .int .i64 0] 81) :=
  ⟨hg, fun w a => by simp [Oper.about, h], fun w a => by unfold execOp; rw [h]; go_simp⟩
theorem sixC {a b c d e f g : Prop} (h : a ∧ b ∧ c ∧ d ∧ e ∧ f ∧ g) : a ∧ b ∧ c ∧ d ∧ e ∧ f := ⟨h.1, h.2.1, h.2.2.1, h.2.2.2.1, h.2.2.2.2.1, h.2.2.2.2.2.1⟩
theorem plcV (x y z u x0 x1 x2 x3 x4 x5 : Int) (h : cornB [x, y, z, u] = true) : ∃ n0 n1 n2 n3 n4 n5, nmd (plcC [x, y, z, u]) [x0, x1, x2, x3, x4, x5] = [n0, n1, n2, n3, n4, n5] := six_of (nmd_len (plcC_mem h) _)

set_option maxRecDepth 100000 in
set_option maxHeartbeats 8000000 in
theorem first1_any (w0 : World) (B b1 b2 b3 bd bx g c : Nat) (x0 x1 x2 x3 x4 x5 : Int) (o s : List Int) (W : World) (hI : FillS w0 B b1 b2 b3 bd bx g 4 c [x0, x1, x2, x3, x4, x5] o s W) (hB : B ≤ bx) (hdx : bd ≠ bx) (hc : cornB o = true) :
    Calls Try.prog 140 #[.slice (some ⟨g, 0, none⟩) 4 c, ptrS bd, ptrS bx] W fun e w' => e = .returned (.tuple #[]) ∧ FillS w0 B b1 b2 b3 bd bx g 4 c [x0, x1, x2, x3, x4, x5] o (minL s (nmd (plcC o) [x0, x1, x2, x3, x4, x5])) w' := by
  obtain ⟨x, y, z, u, rfl⟩ := four_of (corn_len hc)
  obtain ⟨n0, n1, n2, n3, n4, n5, en⟩ := plcV x y z u x0 x1 x2 x3 x4 x5 hc
  have hN : ∀ W, Calls Try.prog 96 #[sixV x0 x1 x2 x3 x4 x5, fouV x y z u] W fun e w' => e = .returned (sixV n0 n1 n2 n3 n4 n5) ∧ Below W.heap.size W w' := fun W => by
    have := named_any x0 x1 x2 x3 x4 x5 x y z u W hc
    rw [en] at this; exact this
  rw [en]
  obtain ⟨c0, c1, c2, c3, c4, c5, _⟩ := hI.sd.cells
  have q0 := hI.own.cell 0 (by omega)
  have q1 := hI.own.cell 1 (by omega)
  have q2 := hI.own.cell 2 (by omega)
  have q3 := hI.own.cell 3 (by omega)
  simp only [List.getD_cons_zero, List.getD_cons_succ] at q0 q1 q2 q3
  have hgl := (hI.own.row g rfl).2
  have HI := Lib.hid hI
  have hl := hI.ne.2.2.2.2.2
  have HL := Lib.hid hl
  have HDX := Lib.hid (And.intro hB hdx)
  have HK := Lib.hid (fun W' (h : Below W.heap.size W W') => And.intro (sixC (hI.sd.same h).cells) (show W'.cell? ⟨g, 0, none⟩ = some (.int .i64 x) ∧ W'.cell? ⟨g, 1, none⟩ = some (.int .i64 y) ∧ W'.cell? ⟨g, 2, none⟩ = some (.int .i64 z) ∧ W'.cell? ⟨g, 3, none⟩ = some (.int .i64 u) from ⟨(h.cell hgl).trans q0, (h.cell hgl).trans q1, (h.cell hgl).trans q2, (h.cell hgl).trans q3⟩))
  have hArr := fun (w' : World) => run_arrayAt (P := Try.prog) (w := w') 85 3 4 (some ⟨g, 0, none⟩) 4 c Try.underlying85 (by omega)
  clear hI hl hc en hdx hB
  have z0 := cell_regrown c0
  have z1 := cell_regrown c1
  have z2 := cell_regrown c2
  have z3 := cell_regrown c3
  have z4 := cell_regrown c4
  have z5 := cell_regrown c5
  have y0 := cell_regrown q0
  have y1 := cell_regrown q1
  have y2 := cell_regrown q2
  have y3 := cell_regrown q3
  have cN : ∀ r dr os, CallsIn Fence.wide r Try.prog 96 #[sixV x0 x1 x2 x3 x4 x5, fouV x y z u] (grow (redrawn W dr) os) fun e w'' => e = .returned (sixV n0 n1 n2 n3 n4 n5) ∧ Bel (grow (redrawn W dr) os) w'' := fun r dr os => callsIn_wide.2 (hN _)
  have hfn : Fence.wide.fn 96 := trivial
  clear c0 c1 c2 c3 c4 c5 q0 q1 q2 q3 hN
  refine (callsIn_wide (n := 5)).1 ?_
  refine callsIn_of_wp Try.func140 rfl trivial ?_ rfl
  simp only [Try.ntmps140, List.size_toArray, List.length_cons, List.length_nil, Nat.reduceAdd, Nat.reduceSub, Array.replicate_succ, Array.replicate_zero, List.push_toArray, List.append_toArray, List.nil_append, List.cons_append]
  gi_wp2_with fail
  refine region_qalloc1 5 rfl (mk_sol rfl rfl) (by kernel_rfl) (by kernel_rfl) ?_
  simp only [List.take_succ_cons, List.take_zero, List.drop_succ_cons, List.drop_zero]
  refine ⟨sixV x0 x1 x2 x3 x4 x5, ⟨rfl, fun _ _ _ _ => trivial, ?_⟩, .slice (some ⟨g, 0, none⟩) 4 c, ⟨rfl, fun _ _ _ _ => trivial, ?_⟩, .pointer (some ⟨g, 0, none⟩), ⟨rfl, fun _ _ _ _ => trivial, ?_⟩, fouV x y z u, ⟨rfl, fun _ _ _ _ => trivial, ?_⟩, sixV n0 n1 n2 n3 n4 n5, ⟨rfl, fun _ _ _ _ => trivial, ?_⟩, ?_⟩
  · rintro _ ⟨⟨d, os⟩, rfl⟩
    go_simp
  · rintro _ ⟨⟨d, os⟩, rfl⟩
    go_simp
  · rintro _ ⟨⟨d, os⟩, rfl⟩
    go_simp
  · rintro _ ⟨⟨d, os⟩, rfl⟩
    go_simp
  · rintro _ ⟨⟨d, os⟩, rfl⟩
    go_simp
  intro B1 hb1 wq hwq hq1
  have bq : Below W.heap.size W wq := by obtain ⟨⟨d, os⟩, rfl⟩ := hwq; exact below_regrown W d os
  have sq : SolAt wq B1 [0, 0, 0, 0, 0, 0] := hq1
  have s2 := six_set sq rfl n0 n1 n2 n3 n4 n5
  have b2 := six_below bq hb1 n0 n1 n2 n3 n4 n5
  obtain ⟨j0, j1, j2, j3, j4, j5, jf⟩ := sq.cells
  have S2 := Lib.hid s2
  have B2 := Lib.hid b2
  clear z0 z1 z2 z3 z4 z5 y0 y1 y2 y3 cN bq sq s2 b2 hwq hq1
  gi_wp2_with fail
  clear j0 j1 j2 j3 j4 j5 jf
  change Code.wpIn _ _ _ _ _ _ (six_put wq B1 n0 n1 n2 n3 n4 n5)
  generalize six_put wq B1 n0 n1 n2 n3 n4 n5 = W2 at *
  have hF2 := HI.out.below B2.out
  have hC := fun W' (h : Below W2.heap.size W2 W') => compareL_any (some ⟨B1, 0, none⟩) (some ⟨bx, 0, none⟩) 6 6 6 [n0, n1, n2, n3, n4, n5] s W' (S2.out.same h).rd (by have := (hF2.sx.same h).rd; rwa [HL.out] at this) (by omega)
  have HCL := Lib.hid (cmpL_less [n0, n1, n2, n3, n4, n5] s)
  obtain ⟨cv, ecv⟩ : ∃ cv, cv = cmpL [n0, n1, n2, n3, n4, n5] s := ⟨_, rfl⟩
  rw [← ecv] at hC HCL
  have cC : ∀ r dr os, CallsIn Fence.wide r Try.prog 141 #[.slice (some ⟨B1, 0, none⟩) 6 6, .slice (some ⟨bx, 0, none⟩) 6 6] (grow (redrawn W2 dr) os) fun e w'' => e = .returned (.int .i64 cv) ∧ ∃ p : Regrown, w'' = grow (redrawn W2 p.d) p.os := fun r dr os => CallsIn.regrown_of (callsIn_wide.2 (hC _ (below_regrown W2 dr os)))
  have hfn2 : Fence.wide.fn 141 := trivial
  clear hF2 hC ecv
  refine region_qtail 3 (by kernel_rfl) (by kernel_rfl) ?_
  simp only [List.take_succ_cons, List.take_zero, List.drop_succ_cons, List.drop_zero]
  repeat (quiet_step_in (first | with_reducible exact cC _ _ _))
  refine wpQuietIn_nil ?_
  intro _ hw'
  obtain ⟨⟨dq, osq⟩, hw''⟩ := hw'
  subst hw''
  have bq := below_regrown W2 dq osq
  generalize grow (redrawn W2 dq) osq = w3 at bq ⊢
  have hF3 := HI.out.below (B2.out.trans (bq.mono B2.out.size))
  have hs3 := S2.out.same bq
  have hlx := HL.out
  obtain ⟨s0, s1, s2, s3, s4, s5, rfl⟩ := six_of hlx
  have HF4 := Lib.hid (hF3.setX HDX.out.1 HDX.out.2 n0 n1 n2 n3 n4 n5)
  have HF3 := Lib.hid hF3
  obtain ⟨z0, z1, z2, z3, z4, z5, zf⟩ := hF3.sx.cells
  obtain ⟨j0, j1, j2, j3, j4, j5, jf⟩ := hs3.cells
  clear cC bq hF3 hs3 hlx
  by_cases hcv : cv < 0
  · have hlb := HCL.out
    rw [decide_eq_true hcv] at hlb
    have HM := Lib.hid (show minL [s0, s1, s2, s3, s4, s5] [n0, n1, n2, n3, n4, n5] = [n0, n1, n2, n3, n4, n5] by unfold minL; rw [← hlb]; rfl)
    clear hlb
    gi_wp2_with fail
    all_goals go_end0
    exact ⟨rfl, by rw [HM.out]; exact HF4.out⟩
  · have hlb := HCL.out
    rw [decide_eq_false hcv] at hlb
    have HM := Lib.hid (show minL [s0, s1, s2, s3, s4, s5] [n0, n1, n2, n3, n4, n5] = [s0, s1, s2, s3, s4, s5] by unfold minL; rw [← hlb]; rfl)
    clear hlb
    gi_wp2_with fail
    all_goals go_end0
    exact ⟨rfl, by rw [HM.out]; exact HF3.out⟩

theorem perm_corn {o : List Int} (h : o.Perm C4) : cornB o = true := by
  unfold cornB
  rw [decide_eq_true (show o.length = 4 from h.length_eq), Bool.true_and, List.all_eq_true]
  intro k hk
  exact decide_eq_true (h.mem_iff.2 hk)

set_option maxRecDepth 100000 in
set_option maxHeartbeats 8000000 in
theorem first_any (x0 x1 x2 x3 x4 x5 : Int) (w : World) (hs : Sol [x0, x1, x2, x3, x4, x5]) :
    Calls Try.prog 107 #[sixV x0 x1 x2 x3 x4 x5] w fun e w' => e = .returned (solV (fstL [x0, x1, x2, x3, x4, x5])) ∧ Below w.heap.size w w' := by
  have hF := lv4_fst hs
  have HFL := Lib.hid (fst_sol hs).len
  obtain ⟨y0, y1, y2, y3, y4, y5, ey⟩ := six_of HFL.out
  rw [ey] at hF ⊢
  obtain ⟨W1, hW1⟩ : ∃ W1, W1 = (((w.alloc (sixO x0 x1 x2 x3 x4 x5)).alloc (sixO 0 0 0 0 0 0)).alloc (sixO x0 x1 x2 x3 x4 x5)).alloc (.cells (ints [0, 1, 2, 3]).toArray 3) := ⟨_, rfl⟩
  have bW : Below w.heap.size w W1 := by rw [hW1]; exact below_alloc (below_alloc (below_alloc (below_alloc (Below.refl _ _) _) _) _) _
  have al := fun (W : World) (o : Obj) => below_alloc (Below.refl W.heap.size W) o
  have s1 : SolAt W1 w.heap.size [x0, x1, x2, x3, x4, x5] := by rw [hW1]; exact (((six_new w x0 x1 x2 x3 x4 x5).same (al _ _)).same (al _ _)).same (al _ _)
  have r1 : SolAt W1 (w.heap.size + 1) [0, 0, 0, 0, 0, 0] := by
    rw [hW1]
    have := ((six_new (w.alloc (sixO x0 x1 x2 x3 x4 x5)) 0 0 0 0 0 0).same (al _ (sixO x0 x1 x2 x3 x4 x5))).same (al _ (.cells (ints [0, 1, 2, 3]).toArray 3))
    rwa [World.size_alloc] at this
  have t1 : SolAt W1 (w.heap.size + 1 + 1) [x0, x1, x2, x3, x4, x5] := by
    rw [hW1]
    have := (six_new ((w.alloc (sixO x0 x1 x2 x3 x4 x5)).alloc (sixO 0 0 0 0 0 0)) x0 x1 x2 x3 x4 x5).same (al _ (.cells (ints [0, 1, 2, 3]).toArray 3))
    rwa [World.size_alloc, World.size_alloc] at this
  have l1 : Rd W1 (some ⟨w.heap.size + 1 + 1 + 1, 0, none⟩) 4 C4 := by
    rw [hW1]
    have := (Own.lit (((w.alloc (sixO x0 x1 x2 x3 x4 x5)).alloc (sixO 0 0 0 0 0 0)).alloc (sixO x0 x1 x2 x3 x4 x5)) (Nat.le_refl _) [0, 1, 2, 3] (by simp)).rd
    rwa [World.size_alloc, World.size_alloc, World.size_alloc] at this
  have HE := Lib.hid (eachOrderI_any W1 (w.heap.size + 1 + 1) w.heap.size (w.heap.size + 1 + 1) [x0, x1, x2, x3, x4, x5] [x0, x1, x2, x3, x4, x5] (fun s o => minL s (nmd (plcC o) [x0, x1, x2, x3, x4, x5])) (w.heap.size + 1 + 1 + 1) 0 4 4 C4 W1 l1 (by omega) s1 t1 (Nat.le_of_lt t1.lt) (Below.refl _ _)
    (fun b1 b2 b3 g c' o s W hp hI => first1_any W1 (w.heap.size + 1 + 1) b1 b2 b3 w.heap.size (w.heap.size + 1 + 1) g c' x0 x1 x2 x3 x4 x5 o s W hI (by omega) (by omega) (perm_corn hp))
    (enters_of Try.func140 (by kernel_rfl) rfl) (by omega) rfl)
  rw [hF] at HE
  have HW := Lib.hid hW1
  have HR := Lib.hid r1
  have HBW := Lib.hid bW
  obtain ⟨c0, c1, c2, c3, c4, c5, _⟩ := (six_new w x0 x1 x2 x3 x4 x5).cells
  have hz : (w.alloc (sixO x0 x1 x2 x3 x4 x5)).heap.size = w.heap.size + 1 := World.size_alloc _ _
  have k0 := fun (o : Obj) => (((six_new w x0 x1 x2 x3 x4 x5).same (al _ o)).cells)
  obtain ⟨d0, d1, d2, d3, d4, d5, _⟩ := k0 (sixO 0 0 0 0 0 0)
  clear hF hs ey hW1 bW s1 r1 t1 l1 k0 al
  go_enter Try.func107, Try.ntmps107
  go_wp2_with fail
  change Calls _ _ _ ((((w.alloc (sixO x0 x1 x2 x3 x4 x5)).alloc (sixO 0 0 0 0 0 0)).alloc (sixO x0 x1 x2 x3 x4 x5)).alloc (.cells (ints [0, 1, 2, 3]).toArray 3)) _
  rw [← HW.out]
  refine HE.out.mono ?_
  rintro e w2 ⟨rfl, _, h2, b2⟩
  have r2 := (b2.block _ (by omega)).trans HR.out
  have HB2 := Lib.hid (HBW.out.trans (b2.mono (by omega)))
  have hr2 : SolAt w2 (w.heap.size + 1) [0, 0, 0, 0, 0, 0] := r2
  have HP := Lib.hid (six_set hr2 rfl y0 y1 y2 y3 y4 y5)
  have HPB := Lib.hid (six_below HB2.out (show w.heap.size ≤ w.heap.size + 1 by omega) y0 y1 y2 y3 y4 y5)
  obtain ⟨z0, z1, z2, z3, z4, z5, _⟩ := h2.cells
  obtain ⟨j0, j1, j2, j3, j4, j5, jf⟩ := hr2.cells
  clear h2 b2 r2 hr2 c0 c1 c2 c3 c4 c5 d0 d1 d2 d3 d4 d5
  go_wp2_with fail
  refine sol_back1 (f := Try.f107) (k := 2) rfl (xs := [y0, y1, y2, y3, y4, y5]) rfl rfl rfl HP.out ?_
  exact ⟨rfl, HPB.out⟩

set_option maxHeartbeats 1000000 in
theorem implSolidFirst_any (A : Option Addr) (n c : Nat) (xs : List Int) (w : World) (h : Rd w A n xs) (hn : n ≤ 1048576) :
    Calls Try.prog 48 #[.slice A n c] w fun e w' => ∃ (A' : Option Addr) (n' c' : Nat), e = .returned (.tuple #[.slice A' n' c', .bool (solB xs)]) ∧ Own w' w.heap.size A' n' c' (fsM xs) ∧ n' ≤ 1048576 ∧ Below w.heap.size w w' := by
  cases hb : solB xs with
  | true =>
    have hs := sol_of hb
    have HM := Lib.hid (fsM_yes hb)
    obtain ⟨x0, x1, x2, x3, x4, x5, ex⟩ := six_of hs.len
    have hS := solidOf_yes (c := c) (ex ▸ h) hn (ex ▸ hb)
    have hN := fun W => first_any x0 x1 x2 x3 x4 x5 W (ex ▸ hs)
    obtain ⟨y0, y1, y2, y3, y4, y5, ey⟩ := six_of (fst_sol hs).len
    rw [← ex, ey] at hN
    rw [ey] at HM
    have hN' : ∀ W, Calls Try.prog 107 #[sixV x0 x1 x2 x3 x4 x5] W fun e w' => e = .returned (sixV y0 y1 y2 y3 y4 y5) ∧ Below W.heap.size W w' := hN
    clear hs hb h ex hN ey
    go_enter Try.func48, Try.ntmps48
    go_wp2_with fail
    refine hS.mono ?_
    rintro e w1 ⟨rfl, b1⟩
    obtain ⟨c0, c1, c2, c3, c4, c5, _⟩ := (six_new w1 x0 x1 x2 x3 x4 x5).cells
    have b2 := below_alloc b1 (.cells #[.int .i64 x0, .int .i64 x1, .int .i64 x2, .int .i64 x3, .int .i64 x4, .int .i64 x5] 81)
    go_wp2_with fail
    refine (hN' _).mono ?_
    rintro e w2 ⟨rfl, b3⟩
    have b4 := below_then b2 b3
    go_wp2_with fail
    refine (list_any y0 y1 y2 y3 y4 y5 _).mono ?_
    rintro e w7 ⟨A7, c7, rfl, o7, b7⟩
    go_wp2_with fail
    refine bodyPost_ret (results_tmp2 rfl _ _ _) rfl ?_
    exact ⟨A7, 6, c7, rfl, by rw [HM.out]; exact o7.lower b4.size, by omega, below_then b4 b7⟩
  | false =>
    have hS := solidOf_no (c := c) h hn hb
    have HM := Lib.hid (fsM_no hb)
    clear hb h
    go_enter Try.func48, Try.ntmps48
    go_wp2_with fail
    refine hS.mono ?_
    rintro e w1 ⟨rfl, b1⟩
    have b2 := below_alloc b1 (.cells #[.int .i64 0, .int .i64 0, .int .i64 0, .int .i64 0, .int .i64 0, .int .i64 0] 81)
    have hl := own_nil (World.size_alloc w1 (.cells #[.int .i64 0, .int .i64 0, .int .i64 0, .int .i64 0, .int .i64 0, .int .i64 0] 81)) b2.size
    go_wp2_with fail
    refine bodyPost_ret (results_tmp2 rfl _ _ _) rfl ?_
    exact ⟨_, 0, 0, rfl, by rw [HM.out]; exact hl, by omega, below_alloc b2 _⟩
end Go.Proofs.Ytdnegamminhbfaa
