/- The box of a ring of corners: the program's walk. -/
import Derived.Test.YthpgenkdiokpeaaRBox
import Derived.Test.YthpgenkdiokpeaaConvex
import Derived.Sort.CutIn
namespace Go.Proofs.Ythpgenkdiokpeaa
open Go.RowKit Go.Sort Go.Lib Go.Shelf
attribute [local go_sem] Oper.semAt_some bAtU

set_option maxRecDepth 100000 in
set_option maxHeartbeats 8000000 in
theorem box_any (gs : List Nat) (ps : List Pt) (w : World) (hR : Ring w gs ps) (hn8 : ps.length < 1000000) (h00 : atP ps 0 = (0, 0)) :
    Calls Try.prog 114 #[ptrV (gs.getD 0 0)] w fun e w' => e = .returned (.tuple #[vecX (loN (fun i => (atP ps i).1) ps.length) (loN (fun i => (atP ps i).2) ps.length), vecX (hiN (fun i => (atP ps i).1) ps.length) (hiN (fun i => (atP ps i).2) ps.length)]) ∧ Below w.heap.size w w' := by
  have HR := Lib.hid hR
  have HN := Lib.hid hn8
  have hps := hR.pos
  have c0 := (hR.cells 0 hps).cells
  rw [h00] at c0
  obtain ⟨g0, eg⟩ : ∃ g0, g0 = gs.getD 0 0 := ⟨_, rfl⟩
  rw [← eg] at c0 ⊢
  have EG := Lib.hid eg
  obtain ⟨k0, k1, k2⟩ := c0
  have hg0 : g0 < w.heap.size := by rw [eg]; exact hR.lt hps
  clear hR hn8 eg h00
  obtain ⟨X, eX⟩ : ∃ X : Nat → Int, X = fun i => (atP ps i).1 := ⟨_, rfl⟩
  obtain ⟨Y, eY⟩ : ∃ Y : Nat → Int, Y = fun i => (atP ps i).2 := ⟨_, rfl⟩
  rw [← eX, ← eY]
  have HXl := Lib.hid (loP_firsts X hps ps.length (Nat.le_refl _))
  have HYl := Lib.hid (loP_firsts Y hps ps.length (Nat.le_refl _))
  have HXh := Lib.hid (hiP_firsts X hps ps.length (Nat.le_refl _))
  have HYh := Lib.hid (hiP_firsts Y hps ps.length (Nat.le_refl _))
  have EX := Lib.hid eX
  have EY := Lib.hid eY
  clear eX eY
  refine (callsIn_wide (n := 5)).1 ?_
  refine callsIn_of_wp_marks Try.func114 rfl trivial ?_ rfl
  simp only [Try.ntmps114, List.size_toArray, List.length_cons, List.length_nil, Nat.reduceAdd, Nat.reduceSub, Array.replicate_succ, Array.replicate_zero, List.push_toArray, List.append_toArray, List.nil_append, List.cons_append]
  gi_wp2_with fail
  have q1 : ((w.alloc (vecO 0 0)).alloc (vecO 0 0)).heap[w.heap.size]? = some (vecO 0 0) := al_old (World.alloc_heap_new w (vecO 0 0))
  have q2 : ((w.alloc (vecO 0 0)).alloc (vecO 0 0)).heap[w.heap.size + 1]? = some (vecO 0 0) := al_new2 w (vecO 0 0) (vecO 0 0)
  have b0 : Below w.heap.size w ((w.alloc (vecO 0 0)).alloc (vecO 0 0)) := below_alloc (below_alloc (Below.refl w.heap.size w) (vecO 0 0)) (vecO 0 0)
  have hsz : ((w.alloc (vecO 0 0)).alloc (vecO 0 0)).heap.size = w.heap.size + 1 + 1 := by simp
  change Code.wpIn _ _ _ _ _ _ ((w.alloc (vecO 0 0)).alloc (vecO 0 0))
  generalize (w.alloc (vecO 0 0)).alloc (vecO 0 0) = W1 at *
  have n0 := (b0.cell (p := ⟨g0, 0, none⟩) hg0).trans k0
  have n1 := (b0.cell (p := ⟨g0, 1, none⟩) hg0).trans k1
  have Q1 := Lib.hid q1
  have Q2 := Lib.hid q2
  have B0 := Lib.hid b0
  have SZ := Lib.hid hsz
  have HG0 := Lib.hid hg0
  clear q1 q2 b0 hsz k0 k1 k2
  gi_upto_region 1 with fail
  gi_cut [4, 5] from 7 (fun s4 s5 wx => ∃ bl bm : Nat, s4 = ptrV bl ∧ s5 = ptrV bm ∧ bl ≠ bm ∧ (w.heap.size + 2 ≤ bl ∧ w.heap.size + 2 ≤ bm) ∧ wx.heap[w.heap.size]? = some (vecO 0 0) ∧ wx.heap[w.heap.size + 1]? = some (vecO 0 0) ∧ wx.heap[bl]? = some (vecO 0 0) ∧ wx.heap[bm]? = some (vecO 0 0) ∧ Below w.heap.size w wx)
  case first =>
    have hsz := SZ.out
    have hlt : g0 < W1.heap.size := by have := HG0.out; omega
    have ne1 : (g0 = W1.heap.size) = False := by simp; omega
    have ne2 : (g0 = W1.heap.size + 1) = False := by simp; omega
    have r0 : (W1.alloc (vecO 0 0)).cell? ⟨g0, 0, none⟩ = some (.int .i64 0) := ((below_alloc (Below.refl W1.heap.size W1) (vecO 0 0)).cell (p := ⟨g0, 0, none⟩) hlt).trans n0
    have r1 : (W1.alloc (vecO 0 0)).cell? ⟨g0, 1, none⟩ = some (.int .i64 0) := ((below_alloc (Below.refl W1.heap.size W1) (vecO 0 0)).cell (p := ⟨g0, 1, none⟩) hlt).trans n1
    have s0 : ((W1.alloc (vecO 0 0)).alloc (vecO 0 0)).cell? ⟨g0, 0, none⟩ = some (.int .i64 0) := ((below_alloc (below_alloc (Below.refl W1.heap.size W1) (vecO 0 0)) (vecO 0 0)).cell (p := ⟨g0, 0, none⟩) hlt).trans n0
    have s1 : ((W1.alloc (vecO 0 0)).alloc (vecO 0 0)).cell? ⟨g0, 1, none⟩ = some (.int .i64 0) := ((below_alloc (below_alloc (Below.refl W1.heap.size W1) (vecO 0 0)) (vecO 0 0)).cell (p := ⟨g0, 1, none⟩) hlt).trans n1
    have FF := Lib.hid (show ((W1.alloc (vecO 0 0)).alloc (vecO 0 0)).drew.heap[w.heap.size]? = some (vecO 0 0) ∧ ((W1.alloc (vecO 0 0)).alloc (vecO 0 0)).drew.heap[w.heap.size + 1]? = some (vecO 0 0) ∧ ((W1.alloc (vecO 0 0)).alloc (vecO 0 0)).drew.heap[W1.heap.size]? = some (vecO 0 0) ∧ ((W1.alloc (vecO 0 0)).alloc (vecO 0 0)).drew.heap[W1.heap.size + 1]? = some (vecO 0 0) ∧ Below w.heap.size w ((W1.alloc (vecO 0 0)).alloc (vecO 0 0)).drew from
      ⟨al_old (al_old Q1.out), al_old (al_old Q2.out), al_old (World.alloc_heap_new W1 (vecO 0 0)), al_new2 W1 (vecO 0 0) (vecO 0 0), (below_alloc (below_alloc B0.out (vecO 0 0)) (vecO 0 0)).drew⟩)
    have HZ := Lib.hid (show w.heap.size + 2 ≤ W1.heap.size ∧ w.heap.size + 2 ≤ W1.heap.size + 1 ∧ W1.heap.size ≠ W1.heap.size + 1 ∧ W1.heap.size + 1 ≠ W1.heap.size from by omega)
    clear hsz
    gi_region
    · gi_wp2_with fail
      gi_meet
      first
        | exact ⟨W1.heap.size, W1.heap.size + 1, rfl, rfl, HZ.out.2.2.1, ⟨HZ.out.1, HZ.out.2.1⟩, FF.out.1, FF.out.2.1, FF.out.2.2.1, FF.out.2.2.2.1, FF.out.2.2.2.2⟩
        | exact ⟨W1.heap.size + 1, W1.heap.size, rfl, rfl, HZ.out.2.2.2, ⟨HZ.out.2.1, HZ.out.1⟩, FF.out.1, FF.out.2.1, FF.out.2.2.2.1, FF.out.2.2.1, FF.out.2.2.2.2⟩
    · gi_wp2_with fail
      gi_meet
      first
        | exact ⟨W1.heap.size, W1.heap.size + 1, rfl, rfl, HZ.out.2.2.1, ⟨HZ.out.1, HZ.out.2.1⟩, FF.out.1, FF.out.2.1, FF.out.2.2.1, FF.out.2.2.2.1, FF.out.2.2.2.2⟩
        | exact ⟨W1.heap.size + 1, W1.heap.size, rfl, rfl, HZ.out.2.2.2, ⟨HZ.out.2.1, HZ.out.1⟩, FF.out.1, FF.out.2.1, FF.out.2.2.2.1, FF.out.2.2.1, FF.out.2.2.2.2⟩
  case rest =>
    clear n0 n1 Q1 Q2 B0 SZ
    obtain ⟨bl, bm, rfl, rfl, hne, ⟨hb1, hb2⟩, f1, f2, f3, f4, f6⟩ := hcut
    gi_wp2_with fail
    refine ⟨trivial, (around_in Fence.wide _ trivial rfl _ _).mono ?_⟩
    rintro e w3 ⟨rfl, rfl⟩
    gi_wp2_with fail
    have F1 : (wc.alloc (.cells #[ptrV g0] 47)).heap[wc.heap.size]? = some (.cells #[ptrV g0] 47 (0, 0)) ∧ (wc.alloc (.cells #[ptrV g0] 47)).heap[bl]? = some (vecO 0 0) ∧ (wc.alloc (.cells #[ptrV g0] 47)).heap[bm]? = some (vecO 0 0) ∧ (wc.alloc (.cells #[ptrV g0] 47)).heap[w.heap.size]? = some (vecO 0 0) ∧ (wc.alloc (.cells #[ptrV g0] 47)).heap[w.heap.size + 1]? = some (vecO 0 0) ∧ Below w.heap.size w (wc.alloc (.cells #[ptrV g0] 47)) := ⟨World.alloc_heap_new wc _, al_old f3, al_old f4, al_old f1, al_old f2, below_alloc f6 _⟩
    have hcl : bl < wc.heap.size ∧ bm < wc.heap.size := ⟨(Array.getElem?_eq_some_iff.1 f3).1, (Array.getElem?_eq_some_iff.1 f4).1⟩
    have hszc : (wc.alloc (.cells #[ptrV g0] 47)).heap.size = wc.heap.size + 1 := by simp
    clear f1 f2 f3 f4 f6
    generalize (wc.alloc (.cells #[ptrV g0] 47)) = W0 at *
    generalize wc.heap.size = cb at *
    obtain ⟨fb, f3, f4, f1, f2, f6⟩ := F1
    have BX : BxB w bl bm cb g0 0 0 0 0 W0 := ⟨f1, f2, f3, f4, fb, f6⟩
    have c1 : cb < W0.heap.size := by omega
    have c2 : cb ≠ bl := by omega
    have c3 : cb ≠ bm := by omega
    clear f1 f2 f3 f4 fb
    refine wpIn_rangeFunc_ownH (F := Fence.wide) rfl (by omega) (gf := 173) (lb := #[ptrV cb]) rfl trivial (enters_of Try.func173 (by kernel_rfl) rfl)
      (around_stops _ cb w.heap.size gs ps HN.out W0 (HR.out.same f6) (fun i hi => HR.out.lt hi) f6.size c1 (by rw [← EG.out]; exact (cell_of_row W0 _ 0 _ _ _ BX.bx))) KpC.trans (KpC.put f6.size c1) (Below.refl _ _) (fun _ => rfl)
      (fun pre W => BxB w bl bm cb g0 (loP 0 X pre) (loP 0 Y pre) (hiP 0 X pre) (hiP 0 Y pre) W ∧ W0.heap.size ≤ W.heap.size)
      (fun _ _ _ => False)
      (OwnFrom.and (fun s W W' row hs hg hr => hs.grow hg (fun r e => (hr r e).2) (fun r e => Nat.le_trans f6.size (hr r e).1)) (bx_size _ _))
      (fun _ _ _ _ _ hs _ _ => hs)
      ⟨BX, Nat.le_refl _⟩
      (fun x a' _ => a' = { tmps := #[ptrV g0, undef, ptrV w.heap.size, ptrV (w.heap.size + 1), ptrV bl, ptrV bm, ptrV (gs.getD x.1 0), u7, u8, u9, u10, u11, u12, u13, u14, ptrV g0, .func (.func 173) #[] #[ptrV cb], ptrV (gs.getD x.1 0), u18, u19, u20, u21, u22, u23, u24, u25, u26, u27, u28, u29, u30, u31, u32, u33, u34, u35, u36, u37, u38, u39, u40, u41, u42, u43, u44, u45, u46, u47, u48, u49, u50, u51, u52, u53], defers := [] })
      (fun _ _ _ _ _ _ hs _ _ => hs)
      ?assign ?body ?done ?stop
    case assign =>
      rintro l pre x W K ⟨h1, h2⟩ hK
      simp only [encC]
      gi_wp2
      exact hK _ _ ((KeepsOthers.refl _).from _) (KpC.refl _ _ _) ⟨h1, h2⟩ rfl
    case body =>
      rintro l pre x a' W hl ⟨r, hr⟩ ⟨BX1, hz1⟩ rfl hlt
      have hRW := HR.out.same BX1.bel
      obtain ⟨k0, k1, k2⟩ := (hRW.cells x.1 x.2).cells
      have ex : (atP ps x.1).1 = X x.1 := by rw [EX.out]
      have ey : (atP ps x.1).2 = Y x.1 := by rw [EY.out]
      rw [ex] at k0
      rw [ey] at k1
      have HK := Lib.hid (fun W' (hb : Below W.heap.size W W') => (show W'.cell? ⟨gs.getD x.1 0, 0, none⟩ = some (.int .i64 (X x.1)) ∧ W'.cell? ⟨gs.getD x.1 0, 1, none⟩ = some (.int .i64 (Y x.1)) from by rw [← ex, ← ey]; exact ⟨((hRW.same hb).cells x.1 x.2).cells.1, ((hRW.same hb).cells x.1 x.2).cells.2.1⟩))
      have HQ := Lib.hid (fun W' (hb : Below w.heap.size w W') => (show W'.cell? ⟨gs.getD x.1 0, 0, none⟩ = some (.int .i64 (X x.1)) ∧ W'.cell? ⟨gs.getD x.1 0, 1, none⟩ = some (.int .i64 (Y x.1)) from by rw [← ex, ← ey]; exact ⟨((HR.out.same hb).cells x.1 x.2).cells.1, ((HR.out.same hb).cells x.1 x.2).cells.2.1⟩))
      have HS1 := Lib.hid (loP_snoc 0 X pre x)
      have HS2 := Lib.hid (loP_snoc 0 Y pre x)
      have HS3 := Lib.hid (hiP_snoc 0 X pre x)
      have HS4 := Lib.hid (hiP_snoc 0 Y pre x)
      obtain ⟨j0, j1, _, _⟩ := pr_cells BX1.lo
      clear ex ey
      generalize loP 0 X pre = lx at *
      generalize loP 0 Y pre = ly at *
      generalize hiP 0 X pre = hx at *
      generalize hiP 0 Y pre = hy at *
      generalize X x.1 = px at *
      generalize Y x.1 = py at *
      generalize gs.getD x.1 0 = g1 at *
      have y0 := cell_regrown k0
      have y1 := cell_regrown k1
      have y2 := cell_regrown j0
      have y3 := cell_regrown j1
      have BX2 := Lib.hid BX1
      obtain ⟨m1, em1⟩ : ∃ m, (if px < lx then px else lx) = m := ⟨_, rfl⟩
      obtain ⟨m2, em2⟩ : ∃ m, (if py < ly then py else ly) = m := ⟨_, rfl⟩
      obtain ⟨m3, em3⟩ : ∃ m, (if hx < px then px else hx) = m := ⟨_, rfl⟩
      obtain ⟨m4, em4⟩ : ∃ m, (if hy < py then py else hy) = m := ⟨_, rfl⟩
      have E1 := Lib.hid (show m1 = min lx px by rw [← em1]; split <;> omega)
      have E2 := Lib.hid (show m2 = min ly py by rw [← em2]; split <;> omega)
      have E3 := Lib.hid (show m3 = max hx px by rw [← em3]; split <;> omega)
      have E4 := Lib.hid (show m4 = max hy py by rw [← em4]; split <;> omega)
      clear k0 k1 k2 j0 j1 BX1 hRW BX
      gi_wp2_with fail
      refine region_qtail 17 (by kernel_rfl) (by kernel_rfl) ?_
      simp only [List.take_succ_cons, List.take_zero, List.drop_succ_cons, List.drop_zero]
      repeat (quiet_step_in (fail))
      refine wpQuietIn_nil ?_
      intro _ hw'
      obtain ⟨⟨dq, osq⟩, hw''⟩ := hw'
      subst hw''
      have bq := below_regrown W dq osq
      generalize grow (redrawn W dq) osq = wq at bq ⊢
      have B3 := BX2.out.same bq
      have K3 := keeps_b bq
      have hz3 := bq.size
      obtain ⟨j0, j1, j2, j3⟩ := pr_cells B3.lo
      clear y0 y1 y2 y3 bq
      gi_wp2_with fail
      have B4 := B3.setLo (by omega) (by omega) (by omega) (m1) (m2)
      have K4 := (K3.trans (KeepsOthers.setCell wq ⟨bl, 0, none⟩ (.int .i64 (m1)))).trans (KeepsOthers.setCell _ ⟨bl, 1, none⟩ (.int .i64 (m2)))
      have hz4 : wq.heap.size = ((wq.setCell ⟨bl, 0, none⟩ (.int .i64 (m1))).setCell ⟨bl, 1, none⟩ (.int .i64 (m2))).heap.size := by simp [World.setCell]
      clear j0 j1 j2 j3 B3 K3
      generalize (wq.setCell ⟨bl, 0, none⟩ (.int .i64 (m1))).setCell ⟨bl, 1, none⟩ (.int .i64 (m2)) = w4 at *
      obtain ⟨k0, k1⟩ := HQ.out w4 B4.bel
      obtain ⟨j0, j1, _, _⟩ := pr_cells B4.hi
      have y0 := cell_regrown k0
      have y1 := cell_regrown k1
      have y2 := cell_regrown j0
      have y3 := cell_regrown j1
      have BX4 := Lib.hid B4
      clear k0 k1 j0 j1 B4
      refine region_qtail 17 (by kernel_rfl) (by kernel_rfl) ?_
      simp only [List.take_succ_cons, List.take_zero, List.drop_succ_cons, List.drop_zero]
      repeat (quiet_step_in (fail))
      refine wpQuietIn_nil ?_
      intro _ hw'
      obtain ⟨⟨dq2, osq2⟩, hw''⟩ := hw'
      subst hw''
      have bq := below_regrown w4 dq2 osq2
      generalize grow (redrawn w4 dq2) osq2 = wr at bq ⊢
      have B3 := BX4.out.same bq
      have K5 := K4.trans (keeps_b bq)
      have hz5 := bq.size
      obtain ⟨j0, j1, j2, j3⟩ := pr_cells B3.hi
      clear y0 y1 y2 y3 bq
      gi_wp2_with fail
      have B6 := B3.setHi (by omega) (by omega) (by omega) (m3) (m4)
      have K6 := (K5.trans (KeepsOthers.setCell wr ⟨bm, 0, none⟩ (.int .i64 (m3)))).trans (KeepsOthers.setCell _ ⟨bm, 1, none⟩ (.int .i64 (m4)))
      have hz6 : wr.heap.size = ((wr.setCell ⟨bm, 0, none⟩ (.int .i64 (m3))).setCell ⟨bm, 1, none⟩ (.int .i64 (m4))).heap.size := by simp [World.setCell]
      refine ⟨K6.from _, BX2.out.kp B6, ?_, by omega⟩
      rw [HS1.out, HS2.out, HS3.out, HS4.out, ← E1.out, ← E2.out, ← E3.out, ← E4.out]
      exact B6
    case done =>
      rintro D ys W hD rfl ⟨BX1, hz1⟩ hK
      rw [HXl.out, HYl.out, HXh.out, HYh.out] at BX1
      clear HXl HYl HXh HYh
      obtain ⟨lx, elx⟩ : ∃ v, v = loN X ps.length := ⟨_, rfl⟩
      obtain ⟨ly, ely⟩ : ∃ v, v = loN Y ps.length := ⟨_, rfl⟩
      obtain ⟨hx, ehx⟩ : ∃ v, v = hiN X ps.length := ⟨_, rfl⟩
      obtain ⟨hy, ehy⟩ : ∃ v, v = hiN Y ps.length := ⟨_, rfl⟩
      rw [← elx, ← ely, ← ehx, ← ehy] at BX1
      have HEQ := Lib.hid (And.intro (And.intro elx ely) (And.intro ehx ehy))
      obtain ⟨j0, j1, j2, j3⟩ := pr_cells BX1.lo
      obtain ⟨j4, j5, j6, j7⟩ := pr_cells BX1.hi
      obtain ⟨i0, i1, i2, i3⟩ := pr_cells BX1.r1
      obtain ⟨i4, i5, i6, i7⟩ := pr_cells BX1.r2
      have e1 : (bl = w.heap.size) = False := by simp; omega
      have e2 : (bl = w.heap.size + 1) = False := by simp; omega
      have e3 : (bm = w.heap.size) = False := by simp; omega
      have e4 : (bm = w.heap.size + 1) = False := by simp; omega
      have t4 : (((W.setCell ⟨w.heap.size, 0, none⟩ (.int .i64 lx)).setCell ⟨w.heap.size, 1, none⟩ (.int .i64 ly)).drew).cell? ⟨bm, 0, none⟩ = some (.int .i64 hx) := ((World.cell?_setCell_other _ ⟨w.heap.size, 1, none⟩ ⟨bm, 0, none⟩ _ (by intro e; injection e; omega)).trans (World.cell?_setCell_other _ ⟨w.heap.size, 0, none⟩ ⟨bm, 0, none⟩ _ (by intro e; injection e; omega))).trans j4
      have t5 : (((W.setCell ⟨w.heap.size, 0, none⟩ (.int .i64 lx)).setCell ⟨w.heap.size, 1, none⟩ (.int .i64 ly)).drew).cell? ⟨bm, 1, none⟩ = some (.int .i64 hy) := ((World.cell?_setCell_other _ ⟨w.heap.size, 1, none⟩ ⟨bm, 1, none⟩ _ (by intro e; injection e; omega)).trans (World.cell?_setCell_other _ ⟨w.heap.size, 0, none⟩ ⟨bm, 1, none⟩ _ (by intro e; injection e; omega))).trans j5
      have BX2 := Lib.hid BX1
      have HK := Lib.hid hK
      have hs0 := f6.size
      clear BX BX1 elx ely ehx ehy HR HN EG EX EY hK hps hne hb1 hb2 c1 c2 c3 hcl hszc hz1 f6 HG0
      clear j2 j3 j6 j7
      gi_wp2_with fail
      gi_region
      · gi_wp2_with fail
        have a1 := pr_set BX2.out.r1 (.int .i64 lx) (.int .i64 ly)
        have a2 : ((W.setCell ⟨w.heap.size, 0, none⟩ (.int .i64 lx)).setCell ⟨w.heap.size, 1, none⟩ (.int .i64 ly)).heap[w.heap.size + 1]? = some (vecO 0 0) := (Below.heap_setCell _ ⟨w.heap.size, 1, none⟩ _ _ (by simp)).trans ((Below.heap_setCell _ ⟨w.heap.size, 0, none⟩ _ _ (by simp)).trans BX2.out.r2)
        have bel1 := pr_below BX2.out.bel (Nat.le_refl _) (.int .i64 lx) (.int .i64 ly)
        have ko1 := (KeepsOthers.setCell W ⟨w.heap.size, 0, none⟩ (.int .i64 lx)).trans (KeepsOthers.setCell _ ⟨w.heap.size, 1, none⟩ (.int .i64 ly))
        generalize (W.setCell ⟨w.heap.size, 0, none⟩ (.int .i64 lx)).setCell ⟨w.heap.size, 1, none⟩ (.int .i64 ly) = Wa at *
        have a3 := pr_set a2 (.int .i64 hx) (.int .i64 hy)
        have a4 : ((Wa.setCell ⟨w.heap.size + 1, 0, none⟩ (.int .i64 hx)).setCell ⟨w.heap.size + 1, 1, none⟩ (.int .i64 hy)).heap[w.heap.size]? = some (vecO lx ly) := (Below.heap_setCell _ ⟨w.heap.size + 1, 1, none⟩ _ _ (by simp)).trans ((Below.heap_setCell _ ⟨w.heap.size + 1, 0, none⟩ _ _ (by simp)).trans a1)
        have bel2 := (pr_below bel1 (by omega) (g := w.heap.size + 1) (.int .i64 hx) (.int .i64 hy)).drew
        have ko2 := (ko1.trans ((KeepsOthers.setCell Wa ⟨w.heap.size + 1, 0, none⟩ (.int .i64 hx)).trans (KeepsOthers.setCell _ ⟨w.heap.size + 1, 1, none⟩ (.int .i64 hy)))).trans (keeps_b ((Below.refl _ _).drew))
        have hK' := ko2.same D _ HK.out rfl
        have p1 := pr_cells (W := ((Wa.setCell ⟨w.heap.size + 1, 0, none⟩ (.int .i64 hx)).setCell ⟨w.heap.size + 1, 1, none⟩ (.int .i64 hy)).drew) a4
        have p2 := pr_cells (W := ((Wa.setCell ⟨w.heap.size + 1, 0, none⟩ (.int .i64 hx)).setCell ⟨w.heap.size + 1, 1, none⟩ (.int .i64 hy)).drew) a3
        generalize ((Wa.setCell ⟨w.heap.size + 1, 0, none⟩ (.int .i64 hx)).setCell ⟨w.heap.size + 1, 1, none⟩ (.int .i64 hy)).drew = Wb at *
        refine ⟨by simp, .inl ⟨_, _, rfl, run_takeDeferred hK', ?_⟩⟩
        have q0 := cell_kept p1.1 (grownBy_putObj' _ D (.deferred none)) (fun r e => by cases e; exact ⟨_, hK', rfl⟩)
        have q1 := cell_kept p1.2.1 (grownBy_putObj' _ D (.deferred none)) (fun r e => by cases e; exact ⟨_, hK', rfl⟩)
        have q2 := cell_kept p2.1 (grownBy_putObj' _ D (.deferred none)) (fun r e => by cases e; exact ⟨_, hK', rfl⟩)
        have q3 := cell_kept p2.2.1 (grownBy_putObj' _ D (.deferred none)) (fun r e => by cases e; exact ⟨_, hK', rfl⟩)
        refine ⟨.tuple #[vecX lx ly, vecX hx hy], ?_, by rw [HEQ.out.1.1, HEQ.out.1.2, HEQ.out.2.1, HEQ.out.2.2], bel2.trans (belowK_b (w := w) (Nat.le_refl _) _ D _ _ (by omega) hK' rfl rfl)⟩
        simp [results, Try.f114, go_sem, q0, q1, q2, q3]
    case stop =>
      rintro D c' pre W _ _ h _
      exact h.elim
end Go.Proofs.Ythpgenkdiokpeaa
