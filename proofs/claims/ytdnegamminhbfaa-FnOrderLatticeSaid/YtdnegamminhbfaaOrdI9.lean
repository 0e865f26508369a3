/- Joined: OrdI9, OrdI10. -/
import Derived.Test.YtdnegamminhbfaaOrdI8
import Derived.Laws.EntriesVeiled
import Derived.Test.YtdnegamminhbfaaRLists
/- The program's orders: counted, the greatest area. -/
namespace Go.Proofs.Ytdnegamminhbfaa
open Go.RowKit Go.Sort Go.Lib

set_option maxRecDepth 100000 in
set_option maxHeartbeats 8000000 in
theorem eachOrder_any (w0 : World) (B bx : Nat) (s0 : Int) (fid : FuncId) (acc : Int → List Pt → Int) (b off n c : Nat) (l : List Pt) (w : World) (h : RdV w (some ⟨b, off, none⟩) n l) (h1 : 1 ≤ n) (hn : n ≤ 1000)
    (hbx : w.heap[bx]? = some (.cells #[.int .i64 s0] 3 (0, 0))) (hB : B ≤ w.heap.size) (hbel : Below B w0 w)
    (hv : ∀ b1 b2 b3 g c' o s W, o.Perm l → FillI w0 B b1 b2 b3 bx g n c' fid o s W → Calls Try.prog fid #[.slice (some ⟨g, 0, none⟩) n c', ptrV bx] W fun e w' => e = .returned (.tuple #[]) ∧ FillI w0 B b1 b2 b3 bx g n c' fid o (acc s o) w')
    (he : ∀ args w, (callFunc fid args).run Try.prog w = .ok (.enter fid args) w) :
    Calls Try.prog 76 #[.slice (some ⟨b, off, none⟩) n c, .func (.func fid) #[] #[ptrV bx]] w fun e w' => e = .returned (.tuple #[]) ∧ w'.heap[bx]? = some (.cells #[.int .i64 ((lvP n l 0).foldl acc s0)] 3 (0, 0)) ∧ Below B w0 w' := by
  have HL := Lib.hid h.1
  obtain ⟨W1, hW1⟩ : ∃ W1, W1 = w.alloc (.cells #[.func (.func fid) #[] #[ptrV bx]] 69) := ⟨_, rfl⟩
  have b1 : Below w.heap.size w W1 := by rw [hW1]; exact below_alloc (Below.refl _ _) _
  have hC := cloneV_any b off n c l W1 (h.same b1) hn
  have q1 : W1.heap[w.heap.size]? = some (.cells #[.func (.func fid) #[] #[ptrV bx]] 69 (0, 0)) := by rw [hW1]; exact World.alloc_heap_new w _
  have q2 := (b1.block _ (Array.getElem?_eq_some_iff.1 hbx).1).trans hbx
  have HW := Lib.hid hW1
  have HC := Lib.hid hC
  have HQ := Lib.hid (And.intro b1 (And.intro q1 q2))
  have hbl := (Array.getElem?_eq_some_iff.1 hbx).1
  have HV := Lib.hid hv
  have HBL := Lib.hid hbel
  clear h hC hW1 b1 q1 q2 hv hbel hbx
  go_enter Try.func76, Try.ntmps76
  go_wp2_with fail
  change Calls _ _ _ (w.alloc (.cells #[.func (.func fid) #[] #[ptrV bx]] 69)) _
  rw [← HW.out]
  refine HC.out.mono ?_
  rintro e w2 ⟨A2, c2, rfl, o2, b2⟩
  obtain ⟨g, rfl, hgB, hgl⟩ := o2.form (by omega)
  have HO := Lib.hid o2
  have HB2 := Lib.hid b2
  have hz1 : W1.heap.size = w.heap.size + 1 := by rw [HW.out]; simp
  obtain ⟨fv, efv⟩ : ∃ fv, fv = Value.func (.func 120) #[] #[ptrV w2.heap.size, ptrV w.heap.size, ptrV (w2.heap.size + 1)] := ⟨_, rfl⟩
  have hF : FillI w0 B w2.heap.size w.heap.size (w2.heap.size + 1) bx g n c2 fid l s0 ((w2.alloc (.cells #[.slice (some ⟨g, 0, none⟩) n c2] 60)).alloc (.cells #[fv] 102)) := by
    have hb3 : Below w2.heap.size w2 ((w2.alloc (.cells #[.slice (some ⟨g, 0, none⟩) n c2] 60)).alloc (.cells #[fv] 102)) := below_alloc (below_alloc (Below.refl _ _) _) _
    have hc1 := al_old (o' := .cells #[fv] 102) (World.alloc_heap_new w2 (.cells #[.slice (some ⟨g, 0, none⟩) n c2] 60))
    have hS := al_new2 w2 (.cells #[.slice (some ⟨g, 0, none⟩) n c2] 60) (.cells #[fv] 102)
    have up : ∀ {k : Nat} {ob : Obj}, W1.heap[k]? = some ob → ((w2.alloc (.cells #[.slice (some ⟨g, 0, none⟩) n c2] 60)).alloc (.cells #[fv] 102)).heap[k]? = some ob := fun hk => by
      have hlt := (Array.getElem?_eq_some_iff.1 hk).1
      have h2 := (HB2.out.block _ hlt).trans hk
      exact (hb3.block _ (Array.getElem?_eq_some_iff.1 h2).1).trans h2
    have hs2 := HB2.out.size
    refine ⟨hc1, up HQ.out.2.1, by rw [← efv]; exact hS, ((HO.out.al _).al _).lower (by omega), up HQ.out.2.2, ?_, by omega, by omega, by omega, by omega, by omega⟩
    exact ((HBL.out.trans (HQ.out.1.mono hB)).trans (HB2.out.mono (by omega))).trans (hb3.mono (by omega))
  have HF := Lib.hid (fill_any w0 B w2.heap.size w.heap.size (w2.heap.size + 1) bx g n c2 fid acc l hn HL.out HO.out.cap.1 HO.out.cap.2 (fun o s W hp hI => HV.out _ _ _ g c2 o s W hp hI) he n 0 l s0 _ (by omega) (List.Perm.refl _) hF)
  subst efv
  clear hF
  go_wp2_with fail
  refine HF.out.mono ?_
  rintro e w5 ⟨rfl, h5⟩
  have H5 := Lib.hid h5
  clear h5
  go_wp2_with fail
  go_end0
  exact ⟨rfl, H5.out.box, H5.out.bel⟩

theorem FillI.setBox {w0 W : World} {B b1 b2 b3 bx g n c : Nat} {fid : FuncId} {o : List Pt} {s : Int} (h : FillI w0 B b1 b2 b3 bx g n c fid o s W) (hB : B ≤ bx) (u : Int) : FillI w0 B b1 b2 b3 bx g n c fid o u (W.setCell ⟨bx, 0, none⟩ (.int .i64 u)) := by
  have oth : ∀ {k : Nat} {ob : Obj}, W.heap[k]? = some ob → k ≠ bx → (W.setCell ⟨bx, 0, none⟩ (.int .i64 u)).heap[k]? = some ob := fun hk hne => (Below.heap_setCell _ ⟨bx, 0, none⟩ _ _ hne).trans hk
  have n1 : b1 ≠ bx := fun e => by
    have h1 := h.c1
    rw [e, h.box] at h1
    simp only [Option.some.injEq, Obj.cells.injEq] at h1
    exact absurd h1.2.1 (by decide)
  have n2 : b2 ≠ bx := fun e => by
    have h1 := h.c2
    rw [e, h.box] at h1
    simp only [Option.some.injEq, Obj.cells.injEq] at h1
    exact absurd h1.2.1 (by decide)
  have n3 : b3 ≠ bx := fun e => by
    have h1 := h.c3
    rw [e, h.box] at h1
    simp only [Option.some.injEq, Obj.cells.injEq] at h1
    exact absurd h1.2.1 (by decide)
  refine ⟨oth h.c1 n1, oth h.c2 n2, oth h.c3 n3, h.own.off (grownBy_setAt _ bx 0 _) (fun r hr he => ?_), box_set h.box _, h.bel.setCell (p := ⟨bx, 0, none⟩) hB _, h.hg, h.ne⟩
  cases hr
  simp only [Value.ownBlock, Option.some.injEq] at he
  exact h.ne.2.2.2 he.symm

/-- One order more. -/
def oneMore (s : Int) (_ : List Pt) : Int := IntKind.i64.wrap (s + 1)
theorem count_all : ∀ (ls : List (List Pt)) (s : Nat), s + ls.length ≤ 1000000 → ls.foldl oneMore (s : Int) = ((s + ls.length : Nat) : Int)
  | [], s, _ => by simp
  | x :: t, s, h => by
    rw [List.foldl_cons, show oneMore (s : Int) x = ((s + 1 : Nat) : Int) from wrap_is (by omega) (by omega) (by rw [List.length_cons] at h; omega), count_all t (s + 1) (by rw [List.length_cons] at h; omega), List.length_cons]
    congr 1; omega

set_option maxRecDepth 100000 in
set_option maxHeartbeats 2000000 in
theorem lattice1_any (w0 : World) (B b1 b2 b3 bx g n c : Nat) (fid : FuncId) (o : List Pt) (s : Int) (W : World) (hI : FillI w0 B b1 b2 b3 bx g n c fid o s W) (hB : B ≤ bx) :
    Calls Try.prog 86 #[.slice (some ⟨g, 0, none⟩) n c, ptrV bx] W fun e w' => e = .returned (.tuple #[]) ∧ FillI w0 B b1 b2 b3 bx g n c fid o (oneMore s o) w' := by
  obtain ⟨k0, f0⟩ := box_cell hI.box
  obtain ⟨u, eu⟩ : ∃ u, u = oneMore s o := ⟨_, rfl⟩
  have HI := Lib.hid (hI.setBox hB u)
  have v1 : IntKind.i64.wrap (s + 1) = u := by rw [eu]; rfl
  rw [← eu]
  clear hI eu
  go_enter Try.func86, Try.ntmps86
  go_wp2_with fail
  go_end0
  exact ⟨rfl, HI.out⟩

/-- The number of orders. -/
def latP (l : List Pt) : Int := ((nD l.length l : Nat) : Int)
def ifM (L : List (List Int)) (f : List Pt → Int) : Int := if pmB L 6 then f (ptsL L) else 0
theorem ifM_yes {L : List (List Int)} (f : List Pt → Int) (h : pmB L 6 = true) : ifM L f = f (ptsL L) := by unfold ifM; rw [if_pos h]
theorem ifM_no {L : List (List Int)} (f : List Pt → Int) (h : pmB L 6 = false) : ifM L f = 0 := by unfold ifM; rw [h]; rfl
theorem fac6 {m : Nat} (h : m ≤ 6) : fac m ≤ 720 := by
  match m, h with
  | 0, _ => decide
  | 1, _ => decide
  | 2, _ => decide
  | 3, _ => decide
  | 4, _ => decide
  | 5, _ => decide
  | 6, _ => decide

set_option maxRecDepth 100000 in
set_option maxHeartbeats 4000000 in
theorem orderLattice_any (A : Option Addr) (n c : Nat) (L : List (List Int)) (w : World) (h : RdM w A n L) (hs : SmallM L) :
    Calls Try.prog 32 #[.slice A n c] w fun e w' => e = .returned (.tuple #[.int .i64 (ifM L latP), .bool (pmB L 6)]) ∧ Below w.heap.size w w' := by
  have hT := pathSteps_any A n c 6 L w h hs (by omega)
  have HL := Lib.hid h.1
  cases hp : pmB L 6 with
  | false =>
    rw [ifM_no _ hp]
    rw [hp] at hT
    clear h hs hp
    go_enter Try.func32, Try.ntmps32
    go_wp2_with fail
    refine hT.mono ?_
    rintro e w1 ⟨⟨A1, m, c1, rfl, _⟩, b1⟩
    go_wp2_with fail
    refine bodyPost_ret (results_tmp2 rfl _ _ _) rfl ?_
    exact ⟨rfl, b1⟩
  | true =>
    rw [ifM_yes _ hp]
    rw [hp] at hT
    obtain ⟨hq, h6⟩ := pmB_true hp
    have HN := Lib.hid (show 1 ≤ n ∧ n ≤ 6 from ⟨by have := (pathB_len hq).1; rw [HL.out] at this; omega, by rw [← HL.out]; exact h6⟩)
    have hlp : (ptsL L).length = n := by simp [h.1]
    generalize ptsL L = l at *
    have hcnt : (lvP n l 0).foldl oneMore 0 = latP l := by
      have h1 := lvP_count n l 0 (by omega)
      rw [List.drop_zero] at h1
      have h2 := nD_fac n l hlp
      have h3 := fac6 HN.out.2
      have := count_all (lvP n l 0) 0 (by omega)
      rw [Nat.zero_add, h1] at this
      unfold latP
      rw [hlp]; exact this
    obtain ⟨z, ez⟩ : ∃ z, z = latP l := ⟨_, rfl⟩
    rw [← ez]
    have EZ := Lib.hid (ez.trans hcnt.symm)
    clear h hs hp hq h6 hcnt ez
    go_enter Try.func32, Try.ntmps32
    go_wp2_with fail
    refine hT.mono ?_
    rintro e w1 ⟨⟨A1, m, c1, rfl, hv⟩, b1⟩
    obtain ⟨rfl, ho⟩ := hv (by first | rfl | trivial)
    obtain ⟨b0, off, rfl, _, _⟩ := ho.rd.2 (by have := HN.out; omega)
    have hbA : Below w1.heap.size w1 (w1.alloc (.cells #[.int .i64 0] 3)) := below_alloc (Below.refl _ _) _
    have HE := Lib.hid (eachOrder_any w1 w1.heap.size w1.heap.size 0 86 oneMore b0 off m c1 l (w1.alloc (.cells #[.int .i64 0] 3)) (ho.rd.same hbA) HN.out.1 (by have := HN.out; omega) (World.alloc_heap_new w1 _) hbA.size hbA
      (fun b1 b2 b3 g c' o s W _ hI => lattice1_any w1 _ b1 b2 b3 _ g m c' _ o s W hI (Nat.le_refl _))
      (enters_of Try.func86 (by kernel_rfl) rfl))
    have HB1 := Lib.hid b1
    rw [← EZ.out] at HE
    clear hv ho hT b1 hbA
    go_wp2_with fail
    refine HE.out.mono ?_
    rintro e w2 ⟨rfl, hb2, b2⟩
    obtain ⟨k0, _⟩ := box_cell hb2
    have HB2 := Lib.hid (below_then HB1.out b2)
    clear hb2 b2
    go_wp2_with fail
    refine bodyPost_ret (results_tmp2 rfl _ _ _) rfl ?_
    exact ⟨rfl, HB2.out⟩
end Go.Proofs.Ytdnegamminhbfaa

/- The program's greatest area of all orders. -/
namespace Go.Proofs.Ytdnegamminhbfaa
open Go.RowKit Go.Sort Go.Lib Go.Shelf
attribute [local go_sem] Oper.semAt_some

/-- The greater area. -/
def mostMore (s : Int) (o : List Pt) : Int := max s (areaP o)
theorem most_all (s : Int) : ∀ (ls : List (List Pt)), ls.foldl mostMore s = mxA s ls := fun ls => by
  induction ls generalizing s with
  | nil => rfl
  | cons x t ih => exact ih _

set_option maxRecDepth 100000 in
set_option maxHeartbeats 4000000 in
theorem most1_any (w0 : World) (B b1 b2 b3 bx g n c : Nat) (fid : FuncId) (o : List Pt) (s : Int) (W : World) (hI : FillI w0 B b1 b2 b3 bx g n c fid o s W) (hB : B ≤ bx) (hp : IsPath o) (hn : o.length = n) :
    Calls Try.prog 77 #[.slice (some ⟨g, 0, none⟩) n c, ptrV bx] W fun e w' => e = .returned (.tuple #[]) ∧ FillI w0 B b1 b2 b3 bx g n c fid o (mostMore s o) w' := by
  obtain ⟨u, eu⟩ : ∃ u, u = mostMore s o := ⟨_, rfl⟩
  have hlo := hp.lo
  have hhi := hp.hi
  have hcap := hI.own.cap
  have HR := Lib.hid (fun W' (hW : Below W.heap.size W W') => ring_any (some ⟨g, 0, none⟩) n c o W' (hI.own.rd.below (Nat.le_refl _) hW) (by omega) (by omega) hcap.1 hcap.2 (fun k hk => by have := hp.bd72 (k := k) (by omega); omega))
  have HA := Lib.hid (fun W' gs (hR : Ring W' gs (corL o)) => area_any gs _ W' hR (cor_few hp) (fun i hi => by have := cor_box hp i hi; omega))
  rw [area_cor] at HA
  have HF := Lib.hid (fun W' (hW : Below W.heap.size W W') => (hI.below hW).setBox hB u)
  have HX := Lib.hid (fun W' (hW : Below W.heap.size W W') => box_cell (hI.below hW).box)
  rw [← eu]
  unfold mostMore at eu
  obtain ⟨z, ez⟩ : ∃ z, z = areaP o := ⟨_, rfl⟩
  rw [← ez] at HA eu
  obtain ⟨k0, f0⟩ := box_cell hI.box
  have y0 := cell_regrown k0
  have hf1 : Fence.wide.fn 78 := trivial
  have hf2 : Fence.wide.fn 79 := trivial
  have EU := Lib.hid (show u = s ∧ z ≤ s ∨ u = z ∧ s < z from by omega)
  clear hI hp hlo hhi hcap ez hn k0 f0 eu
  refine (callsIn_wide (n := 5)).1 ?_
  refine callsIn_of_wp Try.func77 rfl trivial ?_ rfl
  simp only [Try.ntmps77, List.size_toArray, List.length_cons, List.length_nil, Nat.reduceAdd, Nat.reduceSub, Array.replicate_succ, Array.replicate_zero, List.push_toArray, List.append_toArray, List.nil_append, List.cons_append]
  gi_wp2_with fail
  refine region_float 2 4 (by kernel_rfl) (by kernel_rfl) (fun _ _ t _ _ h => by cases t <;> exact h) ?_
  simp only [List.take_succ_cons, List.take_zero, List.drop_succ_cons, List.drop_zero]
  refine ⟨.int .i64 s, ⟨rfl, fun w' => rfl, ?_⟩, .slice (some ⟨g, 0, none⟩) n c, ⟨rfl, fun w' => rfl, ?_⟩, ?_⟩
  · rintro _ ⟨⟨d, os⟩, rfl⟩
    go_simp
  · rintro _ ⟨⟨d, os⟩, rfl⟩
    go_simp
  refine listC_step (fun K hK => ?_)
  go_simp
  refine (callsIn_wide.2 (HR.out W.drew ((Below.refl _ _).drew))).mono ?_
  rintro e w4 ⟨⟨gs, rfl, hR, _⟩, b4⟩
  have d4 : Below W.heap.size W w4 := ((Below.refl _ _).drew).trans b4
  refine hK _ _ (fun _ => regrown_of_below d4) ?_
  clear hK K b4
  refine listC_step (fun K hK => ?_)
  go_simp
  refine (callsIn_wide.2 (HA.out w4 gs hR)).mono ?_
  rintro e w5 ⟨rfl, b5⟩
  have d5 : Below W.heap.size W w5 := d4.trans (b5.mono d4.size)
  refine hK _ _ (fun _ => regrown_of_below d5) ?_
  clear hK K
  refine listC_of _ _ _ _ (by omega) ?_
  obtain ⟨k5, f5⟩ := HX.out w5 d5
  have H5 := Lib.hid (HF.out w5 d5)
  clear y0 d4 d5 b5 hR
  gi_wp2_with fail
  all_goals go_end0
  · have e : u = z := by rcases EU.out with h1 | h1 <;> omega
    rw [e] at H5 ⊢
    exact ⟨rfl, H5.out⟩
  · have e : u = s := by rcases EU.out with h1 | h1 <;> omega
    rw [e] at H5 ⊢
    exact ⟨rfl, H5.out⟩

/-- The greatest area. -/
def mostP (l : List Pt) : Int := msP l.length [] l

set_option maxRecDepth 100000 in
set_option maxHeartbeats 4000000 in
theorem orderMost_any (A : Option Addr) (n c : Nat) (L : List (List Int)) (w : World) (h : RdM w A n L) (hs : SmallM L) :
    Calls Try.prog 27 #[.slice A n c] w fun e w' => e = .returned (.tuple #[.int .i64 (ifM L mostP), .bool (pmB L 6)]) ∧ Below w.heap.size w w' := by
  have hT := pathSteps_any A n c 6 L w h hs (by omega)
  have HL := Lib.hid h.1
  cases hp : pmB L 6 with
  | false =>
    rw [ifM_no _ hp]
    rw [hp] at hT
    clear h hs hp
    go_enter Try.func27, Try.ntmps27
    go_wp2_with fail
    refine hT.mono ?_
    rintro e w1 ⟨⟨A1, m, c1, rfl, _⟩, b1⟩
    go_wp2_with fail
    refine bodyPost_ret (results_tmp2 rfl _ _ _) rfl ?_
    exact ⟨rfl, b1⟩
  | true =>
    rw [ifM_yes _ hp]
    rw [hp] at hT
    obtain ⟨hq, h6⟩ := pmB_true hp
    have HP := Lib.hid ((pathB_true hq).1)
    have HN := Lib.hid (show 1 ≤ n ∧ n ≤ 6 from ⟨by have := (pathB_len hq).1; rw [HL.out] at this; omega, by rw [← HL.out]; exact h6⟩)
    have hlp : (ptsL L).length = n := by simp [h.1]
    generalize ptsL L = l at *
    have hcnt : (lvP n l 0).foldl mostMore 0 = mostP l := by
      rw [most_all]
      have h1 := most_eq HP.out
      rw [hlp] at h1
      unfold mostP
      rw [hlp]; exact h1
    obtain ⟨z, ez⟩ : ∃ z, z = mostP l := ⟨_, rfl⟩
    rw [← ez]
    have EZ := Lib.hid (ez.trans hcnt.symm)
    have HLP := Lib.hid hlp
    clear h hs hp hq h6 hcnt ez hlp
    go_enter Try.func27, Try.ntmps27
    go_wp2_with fail
    refine hT.mono ?_
    rintro e w1 ⟨⟨A1, m, c1, rfl, hv⟩, b1⟩
    obtain ⟨rfl, ho⟩ := hv (by first | rfl | trivial)
    obtain ⟨b0, off, rfl, _, _⟩ := ho.rd.2 (by have := HN.out; omega)
    have hbA : Below w1.heap.size w1 (w1.alloc (.cells #[.int .i64 0] 3)) := below_alloc (Below.refl _ _) _
    have HE := Lib.hid (eachOrder_any w1 w1.heap.size w1.heap.size 0 77 mostMore b0 off m c1 l (w1.alloc (.cells #[.int .i64 0] 3)) (ho.rd.same hbA) HN.out.1 (by have := HN.out; omega) (World.alloc_heap_new w1 _) hbA.size hbA
      (fun b1 b2 b3 g c' o s W hpm hI => most1_any w1 _ b1 b2 b3 _ g m c' _ o s W hI (Nat.le_refl _) (HP.out.perm hpm) (by rw [hpm.length_eq, HLP.out]))
      (enters_of Try.func77 (by kernel_rfl) rfl))
    have HB1 := Lib.hid b1
    rw [← EZ.out] at HE
    clear hv ho hT b1 hbA
    go_wp2_with fail
    refine HE.out.mono ?_
    rintro e w2 ⟨rfl, hb2, b2⟩
    obtain ⟨k0, _⟩ := box_cell hb2
    have HB2 := Lib.hid (below_then HB1.out b2)
    clear hb2 b2
    go_wp2_with fail
    refine bodyPost_ret (results_tmp2 rfl _ _ _) rfl ?_
    exact ⟨rfl, HB2.out⟩
end Go.Proofs.Ytdnegamminhbfaa
