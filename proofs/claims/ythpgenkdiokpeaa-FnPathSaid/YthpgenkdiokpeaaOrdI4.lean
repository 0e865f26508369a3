/- The program's areas and pieces of zonogons. -/
import Derived.Test.YthpgenkdiokpeaaOrdI3
import Derived.Test.YthpgenkdiokpeaaArea
namespace Go.Proofs.Ythpgenkdiokpeaa
open Go.RowKit Go.Sort Go.Lib Go.Shelf
attribute [local go_sem] Oper.semAt_some

theorem box_cell {W : World} {g : Nat} {v : Value} {T : TypeId} (h : W.heap[g]? = some (.cells #[v] T (0, 0))) : W.cell? ⟨g, 0, none⟩ = some v ∧ W.frozen? ⟨g, 0, none⟩ = false :=
  ⟨by rw [cell_of_row W _ 0 _ _ _ h]; rfl, frozen_of_row W _ 0 _ _ h⟩
theorem box_set {W : World} {g : Nat} {v : Value} {T : TypeId} (h : W.heap[g]? = some (.cells #[v] T (0, 0))) (u : Value) : (W.setCell ⟨g, 0, none⟩ u).heap[g]? = some (.cells #[u] T (0, 0)) := by
  have h1 := heap_setCell_same W g 0 _ _ u h
  simpa using h1
theorem sq81 {x y u v : Int} (h1 : stepP (x, y)) (h2 : stepP (u, v)) : ∀ a b : Int, (a = x ∨ a = y) → (b = u ∨ b = v) → -1000000 ≤ a * b ∧ a * b ≤ 1000000 := fun a b ha hb => by
  unfold stepP at h1 h2
  have := mul_sq (a := a) (b := b) (A := 9) (B := 9) (by rcases ha with rfl | rfl <;> omega) (by rcases ha with rfl | rfl <;> omega) (by rcases hb with rfl | rfl <;> omega) (by rcases hb with rfl | rfl <;> omega)
  omega

set_option maxRecDepth 100000 in
set_option maxHeartbeats 4000000 in
theorem zonoArea1_any (bx : Nat) (s x y u v : Int) (w : World) (hb : w.heap[bx]? = some (.cells #[.int .i64 s] 3 (0, 0))) (h1 : stepP (x, y)) (h2 : stepP (u, v)) (hs : -1000000 ≤ s ∧ s ≤ 1000000) :
    Calls Try.prog 146 #[vecX x y, vecX u v, ptrV bx] w fun e w' => e = .returned (.tuple #[]) ∧ w'.heap[bx]? = some (.cells #[.int .i64 (s + abC (x, y) (u, v))] 3 (0, 0)) ∧ w.grownBy w' (some bx) := by
  have hC1 := fun W => cross_any x y u v W (sq81 h1 h2)
  have hC2 := fun W => cross_any u v x y W (sq81 h2 h1)
  have hbd := (abC_bd h1 h2).1
  have hsw : crs (u, v) (x, y) = -crs (x, y) (u, v) := crs_swap _ _
  rw [hsw] at hC2
  have HAB := Lib.hid (show abC (x, y) (u, v) = if crs (x, y) (u, v) < 0 then -crs (x, y) (u, v) else crs (x, y) (u, v) from rfl)
  rw [HAB.out]
  generalize crs (x, y) (u, v) = z at *
  have hbl := (Array.getElem?_eq_some_iff.1 hb).1
  obtain ⟨W1, hW1⟩ : ∃ W1, W1 = (w.alloc (vecO x y)).alloc (vecO u v) := ⟨_, rfl⟩
  have hP : W1.heap[w.heap.size]? = some (vecO x y) := by rw [hW1]; exact al_old (World.alloc_heap_new w (vecO x y))
  have hQ : W1.heap[w.heap.size + 1]? = some (vecO u v) := by rw [hW1]; exact al_new2 w (vecO x y) (vecO u v)
  have hB : W1.heap[bx]? = some (.cells #[.int .i64 s] 3 (0, 0)) := by rw [hW1]; exact al_old (al_old hb)
  have bW : Below w.heap.size w W1 := by rw [hW1]; exact below_alloc (below_alloc (Below.refl _ _) _) _
  have HK := Lib.hid (fun W' (h : Below W1.heap.size W1 W') => (show W'.heap[w.heap.size]? = some (vecO x y) ∧ W'.heap[w.heap.size + 1]? = some (vecO u v) ∧ W'.heap[bx]? = some (.cells #[.int .i64 s] 3 (0, 0)) from
    ⟨(h.block _ (Array.getElem?_eq_some_iff.1 hP).1).trans hP, (h.block _ (Array.getElem?_eq_some_iff.1 hQ).1).trans hQ, (h.block _ (Array.getElem?_eq_some_iff.1 hB).1).trans hB⟩))
  obtain ⟨k0, k1, _, _⟩ := pr_cells hP
  obtain ⟨k2, k3, _, _⟩ := pr_cells hQ
  obtain ⟨k4, f4⟩ := box_cell hB
  have HC1 := Lib.hid hC1
  have HC2 := Lib.hid hC2
  have HW := Lib.hid hW1
  have HBW := Lib.hid bW
  have v0 : IntKind.i64.wrap (s + z) = s + z := wrap_is rfl (by omega) (by omega)
  have v1 : IntKind.i64.wrap (s + -z) = s + -z := wrap_is rfl (by omega) (by omega)
  have cA : ∀ r d os, CallsIn Fence.wide r Try.prog 147 #[vecX x y, vecX u v] (grow (redrawn W1 d) os) fun e w'' => e = .returned (.int .i64 z) ∧ ∃ p : Regrown, w'' = grow (redrawn W1 p.d) p.os := fun r d os => CallsIn.regrown_of (callsIn_wide.2 (hC1 _))
  have cB : ∀ r d os, CallsIn Fence.wide r Try.prog 147 #[vecX u v, vecX x y] (grow (redrawn W1 d) os) fun e w'' => e = .returned (.int .i64 (-z)) ∧ ∃ p : Regrown, w'' = grow (redrawn W1 p.d) p.os := fun r d os => CallsIn.regrown_of (callsIn_wide.2 (hC2 _))
  have hfn : Fence.wide.fn 147 := trivial
  have y0 := cell_regrown k0
  have y1 := cell_regrown k1
  have y2 := cell_regrown k2
  have y3 := cell_regrown k3
  have y4 := cell_regrown k4
  have fin : ∀ (W : World) (r : Int), Below W1.heap.size W1 W → (W.setCell ⟨bx, 0, none⟩ (.int .i64 r)).heap[bx]? = some (.cells #[.int .i64 r] 3 (0, 0)) ∧ w.grownBy (W.setCell ⟨bx, 0, none⟩ (.int .i64 r)) (some bx) := fun W r hW => by
    obtain ⟨_, _, hB⟩ := HK.out W hW
    refine ⟨box_set hB _, ?_⟩
    have g1 := grown_of_below (below_then HBW.out hW)
    exact ⟨g1.os, g1.tape, g1.output, by simpa [World.setCell] using g1.size, fun k hk hne => (heap_setCell_other W ⟨bx, 0, none⟩ k _ (fun e => hne (by simp [e]))).trans (g1.block k hk (by simp))⟩
  have HF := Lib.hid fin
  clear hC1 hC2 hW1 hP hQ hB bW hb hsw hbd h1 h2 hs fin k0 k1 k2 k3 k4 f4
  refine (callsIn_wide (n := 5)).1 ?_
  refine callsIn_of_wp Try.func146 rfl trivial ?_ rfl
  simp only [Try.ntmps146, List.size_toArray, List.length_cons, List.length_nil, Nat.reduceAdd, Nat.reduceSub, Array.replicate_succ, Array.replicate_zero, List.push_toArray, List.append_toArray, List.nil_append, List.cons_append]
  by_cases hz : z < 0
  · have d0 : z < -z := by omega
    rw [if_pos hz]
    clear hz
    gi_wp2_with fail
    change Code.wpIn _ _ _ _ _ _ ((w.alloc (vecO x y)).alloc (vecO u v))
    rw [← HW.out]
    refine region_qtail 9 (by kernel_rfl) (by kernel_rfl) ?_
    simp only [List.take_succ_cons, List.take_zero, List.drop_succ_cons, List.drop_zero]
    repeat (quiet_step_in (first | with_reducible exact cA _ _ _ | with_reducible exact cB _ _ _))
    refine wpQuietIn_nil ?_
    intro _ hw'
    obtain ⟨⟨dq, osq⟩, hw''⟩ := hw'
    subst hw''
    have bq := below_regrown W1 dq osq
    generalize grow (redrawn W1 dq) osq = wq at bq ⊢
    obtain ⟨j4, g4⟩ := box_cell (HK.out wq bq).2.2
    clear y0 y1 y2 y3 y4 cA cB
    gi_wp2_with fail
    go_end0
    exact ⟨rfl, HF.out wq _ bq⟩
  · have d0 : ¬ z < -z := by omega
    rw [if_neg hz]
    clear hz
    gi_wp2_with fail
    change Code.wpIn _ _ _ _ _ _ ((w.alloc (vecO x y)).alloc (vecO u v))
    rw [← HW.out]
    refine region_qtail 9 (by kernel_rfl) (by kernel_rfl) ?_
    simp only [List.take_succ_cons, List.take_zero, List.drop_succ_cons, List.drop_zero]
    repeat (quiet_step_in (first | with_reducible exact cA _ _ _ | with_reducible exact cB _ _ _))
    refine wpQuietIn_nil ?_
    intro _ hw'
    obtain ⟨⟨dq, osq⟩, hw''⟩ := hw'
    subst hw''
    have bq := below_regrown W1 dq osq
    generalize grow (redrawn W1 dq) osq = wq at bq ⊢
    obtain ⟨j4, g4⟩ := box_cell (HK.out wq bq).2.2
    clear y0 y1 y2 y3 y4 cA cB
    gi_wp2_with fail
    go_end0
    exact ⟨rfl, HF.out wq _ bq⟩

set_option maxRecDepth 100000 in
set_option maxHeartbeats 4000000 in
theorem zonoPieces1_any (bx : Nat) (s x y u v : Int) (w : World) (hb : w.heap[bx]? = some (.cells #[.int .i64 s] 3 (0, 0))) (h1 : stepP (x, y)) (h2 : stepP (u, v)) (hs : -1000000 ≤ s ∧ s ≤ 1000000) :
    Calls Try.prog 148 #[vecX x y, vecX u v, ptrV bx] w fun e w' => e = .returned (.tuple #[]) ∧ w'.heap[bx]? = some (.cells #[.int .i64 (s + neC (x, y) (u, v))] 3 (0, 0)) ∧ w.grownBy w' (some bx) := by
  have hC1 := fun W => cross_any x y u v W (sq81 h1 h2)
  have HAB := Lib.hid (show neC (x, y) (u, v) = if crs (x, y) (u, v) = 0 then 0 else 1 from rfl)
  rw [HAB.out]
  generalize crs (x, y) (u, v) = z at *
  have hbl := (Array.getElem?_eq_some_iff.1 hb).1
  have hP := al_old (o' := vecO u v) (World.alloc_heap_new w (vecO x y))
  have hQ := al_new2 w (vecO x y) (vecO u v)
  have hB : ((w.alloc (vecO x y)).alloc (vecO u v)).heap[bx]? = some (.cells #[.int .i64 s] 3 (0, 0)) := al_old (al_old hb)
  have bW := Lib.hid (below_alloc (below_alloc (Below.refl w.heap.size w) (vecO x y)) (vecO u v))
  obtain ⟨k0, k1, _, _⟩ := pr_cells hP
  obtain ⟨k2, k3, _, _⟩ := pr_cells hQ
  have HB := Lib.hid hB
  have HC1 := Lib.hid hC1
  have v0 : IntKind.i64.wrap (s + 1) = s + 1 := wrap_is rfl (by omega) (by omega)
  clear hC1 hP hQ hB hb h1 h2 hs
  have fin : ∀ (W : World) (r : Int), Below w.heap.size w W → W.heap[bx]? = some (.cells #[.int .i64 s] 3 (0, 0)) → (W.setCell ⟨bx, 0, none⟩ (.int .i64 r)).heap[bx]? = some (.cells #[.int .i64 r] 3 (0, 0)) ∧ w.grownBy (W.setCell ⟨bx, 0, none⟩ (.int .i64 r)) (some bx) := fun W r hW hB => by
    refine ⟨box_set hB _, ?_⟩
    have g1 := grown_of_below hW
    exact ⟨g1.os, g1.tape, g1.output, by simpa [World.setCell] using g1.size, fun k hk hne => (heap_setCell_other W ⟨bx, 0, none⟩ k _ (fun e => hne (by simp [e]))).trans (g1.block k hk (by simp))⟩
  have HF := Lib.hid fin
  clear fin
  by_cases hz : z = 0
  · subst hz
    go_enter Try.func148, Try.ntmps148
    go_wp2_with fail
    refine (HC1.out _).mono ?_
    rintro e w4 ⟨rfl, b4⟩
    have hB4 := (b4.block _ (Array.getElem?_eq_some_iff.1 HB.out).1).trans HB.out
    have g1 := grown_of_below (below_then bW.out b4)
    have HG := Lib.hid (And.intro hB4 (show w.grownBy w4 (some bx) from ⟨g1.os, g1.tape, g1.output, g1.size, fun k hk _ => g1.block k hk (by simp)⟩))
    clear hB4 g1 b4
    go_wp2_with fail
    go_end0
    exact ⟨rfl, by simpa using HG.out.1, HG.out.2⟩
  · have d1 : (z != 0) = true := by simpa using hz
    rw [if_neg hz]
    clear hz
    go_enter Try.func148, Try.ntmps148
    go_wp2_with fail
    refine (HC1.out _).mono ?_
    rintro e w4 ⟨rfl, b4⟩
    have hB4 := (b4.block _ (Array.getElem?_eq_some_iff.1 HB.out).1).trans HB.out
    obtain ⟨q1, q2⟩ := box_cell hB4
    have HG := Lib.hid (HF.out w4 (s + 1) (below_then bW.out b4) hB4)
    clear hB4 b4
    go_wp2_with fail
    go_end0
    exact ⟨rfl, HG.out⟩

set_option maxRecDepth 100000 in
set_option maxHeartbeats 4000000 in
theorem zonoArea_any (A : Option Addr) (n c : Nat) (L : List (List Int)) (w : World) (h : RdM w A n L) (hs : SmallM L) :
    Calls Try.prog 83 #[.slice A n c] w fun e w' => e = .returned (.tuple #[.int .i64 (ifS L zarP), .bool (starB L)]) ∧ Below w.heap.size w w' := by
  have hT := starOf_any A n c L w h hs
  cases hp : starB L with
  | false =>
    rw [ifS_no _ hp]
    rw [hp] at hT
    clear h hs hp
    go_enter Try.func83, Try.ntmps83
    go_wp2_with fail
    refine hT.mono ?_
    rintro e w1 ⟨⟨A1, m, c1, rfl, _⟩, b1⟩
    go_wp2_with fail
    refine bodyPost_ret (results_tmp2 rfl _ _ _) rfl ?_
    exact ⟨rfl, b1⟩
  | true =>
    rw [ifS_yes _ hp]
    rw [hp] at hT
    obtain ⟨hst, h2, h4, hsp⟩ := starB_true hp
    rw [h.1] at h2 h4
    have hlp : (ptsL L).length = n := by simp [h.1]
    have HS2 := Lib.hid (show zarP (ptsL L) = 2 * prI abC (ptsL L) n by unfold zarP; rw [prS_two, ← hlp, ← pr_eq abC_sym (by omega) (by omega)])
    rw [HS2.out]
    have hfb : ∀ i k, i < (ptsL L).length → k < (ptsL L).length → 0 ≤ abC (atP (ptsL L) i) (atP (ptsL L) k) ∧ abC (atP (ptsL L) i) (atP (ptsL L) k) ≤ 162 := fun i k hi hk => by
      have := abC_bd (hsp (atP (ptsL L) i) (by rw [atP_lt hi]; exact List.getElem_mem hi)) (hsp (atP (ptsL L) k) (by rw [atP_lt hk]; exact List.getElem_mem hk))
      exact this.2
    have hbd : ∀ i k, i ≤ n → k ≤ n - (i + 1) → i < n ∨ k = 0 → -1000 ≤ prI abC (ptsL L) i + sumF (fun j => abC (atP (ptsL L) i) (atP (ptsL L) (i + 1 + j))) k ∧ prI abC (ptsL L) i + sumF (fun j => abC (atP (ptsL L) i) (atP (ptsL L) (i + 1 + j))) k ≤ 3800 := fun i k hi hk h3 => by
      have key : ∀ j m, j < n → m ≤ n - (j + 1) → -(162 * (m : Int)) ≤ sumF (fun k => abC (atP (ptsL L) j) (atP (ptsL L) (j + 1 + k))) m ∧ sumF (fun k => abC (atP (ptsL L) j) (atP (ptsL L) (j + 1 + k))) m ≤ 162 * (m : Int) := fun j m hj hm =>
        sumF_bd (fun k hk => by have := hfb j (j + 1 + k) (by omega) (by omega); omega)
      have nn : ∀ j m, j < n → m ≤ n - (j + 1) → 0 ≤ sumF (fun k => abC (atP (ptsL L) j) (atP (ptsL L) (j + 1 + k))) m := fun j m hj => by
        induction m with
        | zero => intro _; simp [sumF]
        | succ m ih => intro hm; have h5 := ih (by omega); have h6 := hfb j (j + 1 + m) (by omega) (by omega); simp only [sumF]; omega
      have up : ∀ i, i ≤ n → 0 ≤ prI abC (ptsL L) i ∧ prI abC (ptsL L) i ≤ 648 * (i : Int) := fun i => by
        induction i with
        | zero => intro _; simp [prI, sumF]
        | succ i ih =>
          intro hi
          have h5 := ih (by omega)
          rw [prI_succ, hlp]
          have h6 := key i (n - (i + 1)) (by omega) (Nat.le_refl _)
          have h7 := nn i (n - (i + 1)) (by omega) (Nat.le_refl _)
          omega
      have h5 := up i hi
      rcases h3 with h3 | h3
      · have h6 := key i k h3 hk
        omega
      · subst h3; simp only [sumF]; omega
    have HBd := Lib.hid hbd
    have HSP := Lib.hid (fun i (hi : i < n) => hsp (atP (ptsL L) i) (by rw [atP_lt (by omega)]; exact List.getElem_mem _))
    have HLP := Lib.hid hlp
    have H4 := Lib.hid (And.intro h2 h4)
    generalize ptsL L = l at *
    obtain ⟨z, ez⟩ : ∃ z, z = prI abC l n := ⟨_, rfl⟩
    rw [← ez]
    have EZ := Lib.hid ez
    clear h hs hp hst h2 h4 hsp hfb hbd hlp HS2 ez
    go_enter Try.func83, Try.ntmps83
    go_wp2_with fail
    refine hT.mono ?_
    rintro e w1 ⟨⟨A1, m, c1, rfl, hv⟩, b1⟩
    obtain ⟨rfl, ho⟩ := hv (by first | rfl | trivial)
    obtain ⟨b0, off, rfl, _, _⟩ := ho.rd.2 (by have := H4.out; omega)
    have HE := Lib.hid (eachPair_any 146 #[ptrV w1.heap.size] w1.heap.size (fun s W => W.heap[w1.heap.size]? = some (.cells #[.int .i64 s] 3 (0, 0)) ∧ Below w1.heap.size w1 W) abC b0 off m c1 l (w1.alloc (.cells #[.int .i64 0] 3)) (by have := H4.out; omega) ho.cap.1 ho.cap.2 HLP.out (by simp)
      (fun s W hJ => ho.rd.below (Nat.le_refl _) hJ.2)
      (fun s W W' hJ hW => ⟨(hW.block _ (Array.getElem?_eq_some_iff.1 hJ.1).1).trans hJ.1, hJ.2.trans (hW.mono hJ.2.size)⟩)
      (fun i k s W hik hk es hJ => by
        have hbs := HBd.out i (k - (i + 1)) (by omega) (by omega) (.inl (by omega))
        rw [← es] at hbs
        refine (zonoArea1_any w1.heap.size s _ _ _ _ W hJ.1 (HSP.out i (by omega)) (HSP.out k hk) (by omega)).mono ?_
        rintro e w2 ⟨he, hb, hg⟩
        exact ⟨he, ⟨hb, hJ.2.grown hg hJ.2.size (fun r e => by cases e; exact Nat.le_refl _)⟩, hg⟩)
      (enters_of Try.func146 (by kernel_rfl) rfl)
      ⟨World.alloc_heap_new w1 _, below_alloc (Below.refl _ _) _⟩)
    have HBE := Lib.hid (HBd.out m 0 (Nat.le_refl _) (Nat.zero_le _) (.inr rfl))
    have HB1 := Lib.hid b1
    clear hv ho hT b1
    go_wp2_with fail
    refine HE.out.mono ?_
    rintro e w2 ⟨rfl, hb2, b2⟩
    obtain ⟨k0, _⟩ := box_cell hb2
    have HB2 := Lib.hid (below_then HB1.out b2)
    have hbe := HBE.out
    simp only [sumF, Int.add_zero] at hbe
    rw [← EZ.out] at hbe k0
    have v1 : IntKind.i64.wrap (2 * z) = 2 * z := wrap_is rfl (by omega) (by omega)
    clear hb2 b2 hbe
    go_wp2_with fail
    refine bodyPost_ret (results_tmp2 rfl _ _ _) rfl ?_
    exact ⟨rfl, HB2.out⟩

set_option maxRecDepth 100000 in
set_option maxHeartbeats 4000000 in
theorem zonoPieces_any (A : Option Addr) (n c : Nat) (L : List (List Int)) (w : World) (h : RdM w A n L) (hs : SmallM L) :
    Calls Try.prog 86 #[.slice A n c] w fun e w' => e = .returned (.tuple #[.int .i64 (ifS L zpcP), .bool (starB L)]) ∧ Below w.heap.size w w' := by
  have hT := starOf_any A n c L w h hs
  cases hp : starB L with
  | false =>
    rw [ifS_no _ hp]
    rw [hp] at hT
    clear h hs hp
    go_enter Try.func86, Try.ntmps86
    go_wp2_with fail
    refine hT.mono ?_
    rintro e w1 ⟨⟨A1, m, c1, rfl, _⟩, b1⟩
    go_wp2_with fail
    refine bodyPost_ret (results_tmp2 rfl _ _ _) rfl ?_
    exact ⟨rfl, b1⟩
  | true =>
    rw [ifS_yes _ hp]
    rw [hp] at hT
    obtain ⟨hst, h2, h4, hsp⟩ := starB_true hp
    rw [h.1] at h2 h4
    have hlp : (ptsL L).length = n := by simp [h.1]
    have HS2 := Lib.hid (show zpcP (ptsL L) = prI neC (ptsL L) n by unfold zpcP; rw [← hlp, ← pr_eq neC_sym (by omega) (by omega)])
    rw [HS2.out]
    have hfb : ∀ i k, i < (ptsL L).length → k < (ptsL L).length → 0 ≤ neC (atP (ptsL L) i) (atP (ptsL L) k) ∧ neC (atP (ptsL L) i) (atP (ptsL L) k) ≤ 162 := fun i k hi hk => by
      unfold neC; split <;> omega
    have hbd : ∀ i k, i ≤ n → k ≤ n - (i + 1) → i < n ∨ k = 0 → -1000 ≤ prI neC (ptsL L) i + sumF (fun j => neC (atP (ptsL L) i) (atP (ptsL L) (i + 1 + j))) k ∧ prI neC (ptsL L) i + sumF (fun j => neC (atP (ptsL L) i) (atP (ptsL L) (i + 1 + j))) k ≤ 3800 := fun i k hi hk h3 => by
      have key : ∀ j m, j < n → m ≤ n - (j + 1) → -(162 * (m : Int)) ≤ sumF (fun k => neC (atP (ptsL L) j) (atP (ptsL L) (j + 1 + k))) m ∧ sumF (fun k => neC (atP (ptsL L) j) (atP (ptsL L) (j + 1 + k))) m ≤ 162 * (m : Int) := fun j m hj hm =>
        sumF_bd (fun k hk => by have := hfb j (j + 1 + k) (by omega) (by omega); omega)
      have nn : ∀ j m, j < n → m ≤ n - (j + 1) → 0 ≤ sumF (fun k => neC (atP (ptsL L) j) (atP (ptsL L) (j + 1 + k))) m := fun j m hj => by
        induction m with
        | zero => intro _; simp [sumF]
        | succ m ih => intro hm; have h5 := ih (by omega); have h6 := hfb j (j + 1 + m) (by omega) (by omega); simp only [sumF]; omega
      have up : ∀ i, i ≤ n → 0 ≤ prI neC (ptsL L) i ∧ prI neC (ptsL L) i ≤ 648 * (i : Int) := fun i => by
        induction i with
        | zero => intro _; simp [prI, sumF]
        | succ i ih =>
          intro hi
          have h5 := ih (by omega)
          rw [prI_succ, hlp]
          have h6 := key i (n - (i + 1)) (by omega) (Nat.le_refl _)
          have h7 := nn i (n - (i + 1)) (by omega) (Nat.le_refl _)
          omega
      have h5 := up i hi
      rcases h3 with h3 | h3
      · have h6 := key i k h3 hk
        omega
      · subst h3; simp only [sumF]; omega
    have HBd := Lib.hid hbd
    have HSP := Lib.hid (fun i (hi : i < n) => hsp (atP (ptsL L) i) (by rw [atP_lt (by omega)]; exact List.getElem_mem _))
    have HLP := Lib.hid hlp
    have H4 := Lib.hid (And.intro h2 h4)
    generalize ptsL L = l at *
    obtain ⟨z, ez⟩ : ∃ z, z = prI neC l n := ⟨_, rfl⟩
    rw [← ez]
    have EZ := Lib.hid ez
    clear h hs hp hst h2 h4 hsp hfb hbd hlp HS2 ez
    go_enter Try.func86, Try.ntmps86
    go_wp2_with fail
    refine hT.mono ?_
    rintro e w1 ⟨⟨A1, m, c1, rfl, hv⟩, b1⟩
    obtain ⟨rfl, ho⟩ := hv (by first | rfl | trivial)
    obtain ⟨b0, off, rfl, _, _⟩ := ho.rd.2 (by have := H4.out; omega)
    have HE := Lib.hid (eachPair_any 148 #[ptrV w1.heap.size] w1.heap.size (fun s W => W.heap[w1.heap.size]? = some (.cells #[.int .i64 s] 3 (0, 0)) ∧ Below w1.heap.size w1 W) neC b0 off m c1 l (w1.alloc (.cells #[.int .i64 0] 3)) (by have := H4.out; omega) ho.cap.1 ho.cap.2 HLP.out (by simp)
      (fun s W hJ => ho.rd.below (Nat.le_refl _) hJ.2)
      (fun s W W' hJ hW => ⟨(hW.block _ (Array.getElem?_eq_some_iff.1 hJ.1).1).trans hJ.1, hJ.2.trans (hW.mono hJ.2.size)⟩)
      (fun i k s W hik hk es hJ => by
        have hbs := HBd.out i (k - (i + 1)) (by omega) (by omega) (.inl (by omega))
        rw [← es] at hbs
        refine (zonoPieces1_any w1.heap.size s _ _ _ _ W hJ.1 (HSP.out i (by omega)) (HSP.out k hk) (by omega)).mono ?_
        rintro e w2 ⟨he, hb, hg⟩
        exact ⟨he, ⟨hb, hJ.2.grown hg hJ.2.size (fun r e => by cases e; exact Nat.le_refl _)⟩, hg⟩)
      (enters_of Try.func148 (by kernel_rfl) rfl)
      ⟨World.alloc_heap_new w1 _, below_alloc (Below.refl _ _) _⟩)
    have HBE := Lib.hid (HBd.out m 0 (Nat.le_refl _) (Nat.zero_le _) (.inr rfl))
    have HB1 := Lib.hid b1
    clear hv ho hT b1
    go_wp2_with fail
    refine HE.out.mono ?_
    rintro e w2 ⟨rfl, hb2, b2⟩
    obtain ⟨k0, _⟩ := box_cell hb2
    have HB2 := Lib.hid (below_then HB1.out b2)
    have hbe := HBE.out
    simp only [sumF, Int.add_zero] at hbe
    rw [← EZ.out] at hbe k0
    have v1 : IntKind.i64.wrap (2 * z) = 2 * z := wrap_is rfl (by omega) (by omega)
    clear hb2 b2 hbe
    go_wp2_with fail
    refine bodyPost_ret (results_tmp2 rfl _ _ _) rfl ?_
    exact ⟨rfl, HB2.out⟩
end Go.Proofs.Ythpgenkdiokpeaa
