/- The program's first part list with most threes: slices.Compare and Clone at part lists, PartFirst. -/
import Derived.Test.YtiadnbdefcimiaaPrtW
import Derived.Test.YtiadnbdefcimiaaLess
import Derived.WalkSpells
namespace Go.Proofs.Ytiadnbdefcimiaa
open Go.RowKit Go.Sort Go.Lib Go.Shelf

set_option maxHeartbeats 1000000 in
theorem compareP_any (A A' : Option Addr) (n c c' : Nat) (xs ys : List Int) (w : World) (h : Rd w A n xs) (h' : Rd w A' n ys) (hn : n ≤ 1048576) :
    Calls Try.prog 64 #[.slice A n c, .slice A' n c'] w fun e w' => e = .returned (.int .i64 (cmpL xs ys)) ∧ Below w.heap.size w w' := by
  have HL := Lib.hid h.1
  have HL' := Lib.hid h'.1
  go_enter Try.func64, Try.ntmps64
  go_wp2_with fail
  go_loopw [5, 6, 7, 8, 11] (fun _ _ _ _ i wr => ∃ k : Nat, k ≤ n ∧ i = .int .i64 k ∧ (∀ j, j < k → xs.getD j 0 = ys.getD j 0) ∧ Below w.heap.size w wr) (fun _ _ _ _ i _ => n - (intOf i).toNat)
  case atStart => exact ⟨0, Nat.zero_le _, rfl, fun j hj => absurd hj (by omega), Below.refl _ _⟩
  case round =>
    obtain ⟨k, hk, rfl, hno, hb⟩ := hrel
    have HNO := Lib.hid hno
    clear hno
    by_cases hlt : k < n
    · obtain ⟨b, off, rfl, hbl, hc⟩ := h.2 (by omega)
      obtain ⟨b2, off2, rfl, hbl2, hc2⟩ := h'.2 (by omega)
      have hcx : wr.cell? ⟨b, off + k, none⟩ = some (.int .i64 (xs.getD k 0)) := (hb.cell (p := ⟨b, off + k, none⟩) hbl).trans (hc k hlt)
      have hcy : wr.cell? ⟨b2, off2 + k, none⟩ = some (.int .i64 (ys.getD k 0)) := (hb.cell (p := ⟨b2, off2 + k, none⟩) hbl2).trans (hc2 k hlt)
      obtain ⟨x, ex⟩ : ∃ x, x = xs.getD k 0 := ⟨_, rfl⟩
      obtain ⟨y, ey⟩ : ∃ y, y = ys.getD k 0 := ⟨_, rfl⟩
      rw [← ex] at hcx
      rw [← ey] at hcy
      have hq := fun W => cmpC_any x y W
      by_cases e1 : x = y
      · have E1 := Lib.hid (ex.symm.trans (e1.trans ey))
        rw [cmpI_eq e1] at hq
        clear e1 hc hc2 h h' ex ey
        go_wp2_with (refine (hq _).mono ?_; rintro e w' ⟨rfl, rfl⟩)
        go_roundw
        case rel =>
          have hT : ∀ j, j < k + 1 → xs.getD j 0 = ys.getD j 0 := fun j hj => by
            by_cases e : j = k
            · rw [e]; exact E1.out
            · exact HNO.out j (by omega)
          first
            | exact ⟨k + 1, by omega, by go_num, hT, hb⟩
            | ((repeat apply Exists.intro); exact ⟨⟨k + 1, by omega, by go_num, hT, hb⟩, rfl⟩)
        case measure => simp [intOf]; omega
      · have hQ := cmpL_at xs ys k (by rw [HL.out, HL'.out]) HNO.out (by rw [HL.out]; exact hlt) (by rw [← ex, ← ey]; exact e1)
        rw [← ex, ← ey] at hQ
        have hne := cmpI_ne e1
        have HN := Lib.hid hQ
        have d1 : (cmpI x y != 0) = true := by simpa using hne.1
        generalize cmpI x y = r at *
        clear e1 hc hc2 h h' hne hQ ex ey
        go_wp2_with (refine (hq _).mono ?_; rintro e w' ⟨rfl, rfl⟩)
        go_ret
        exact ⟨ret_i HN.out.symm, hb⟩
    · obtain rfl : k = n := by omega
      have HQ := Lib.hid (cmpL_same xs ys (by rw [HL.out, HL'.out]) (fun j hj => HNO.out j (by rw [← HL.out]; exact hj)))
      go_wp2_with fail
      go_ret
      exact ⟨ret_i HQ.out.symm, hb⟩

theorem cloneP_any (ad : Addr) (n c : Nat) (xs : List Int) (w : World) (h : Rd w (some ad) n xs) (hn : n ≤ 1048576) :
    Calls Try.prog 65 #[.slice (some ad) n c] w fun e w' => ∃ A' c', e = .returned (.slice A' n c') ∧ Own w' w.heap.size A' n c' xs ∧ Below w.heap.size w w' := by
  have hl := Own.lit w (Nat.le_refl _) [] (by simp)
  have hr := h.same (below_alloc (Below.refl _ _) (.cells #[] 3))
  have hnn := fun (W : World) => Lib.run_eql_slice_nil (P := Try.prog) W 42 3 (some ad) n c 0 0 Try.underlying42
  go_enter Try.func65, Try.ntmps65
  go_wp2_with (at_builtin; refine wpList_appT 42 Try.underlying42 rfl (.tmp 5) (.tmp 6) rfl rfl hl rfl hr (by simp; omega) (by simp) ?_; intro A' c' W' ho' hg')
  go_ret
  have hb := app_mark (below_alloc (Below.refl _ _) _) hl (Nat.le_refl _) hg'
  simp only [Nat.zero_add, List.nil_append] at ho'
  exact ⟨A', c', ret_sl (by simp), ho', hb⟩


/-- What the visit of PartFirst holds: the number of most threes, and the first part list so far. -/
structure FstJ (B bm bx n : Nat) (m : Int) (gr : Nat) (s : List Int) (W : World) : Prop where
  m : Boxed W bm 3 (.int .i64 m)
  x : ∃ A c, Boxed W bx 23 (.slice A s.length c) ∧ Own W B A s.length c s ∧ (Value.slice A s.length c).ownBlock ≠ some gr ∧ (Value.slice A s.length c).ownBlock ≠ some bx
  ne : bm ≠ bx
  len : s.length = 0 ∨ s.length = n
theorem FstJ.below {B bm bx n gr : Nat} {m : Int} {s : List Int} {W W' : World} (h : FstJ B bm bx n m gr s W) (hg : Below W.heap.size W W') : FstJ B bm bx n m gr s W' := by
  obtain ⟨A, c, hx, ho, k1, k2⟩ := h.x
  exact ⟨h.m.kept (grown_of_below hg) (by simp), ⟨A, c, hx.kept (grown_of_below hg) (by simp), ho.same hg, k1, k2⟩, h.ne, h.len⟩
theorem FstJ.kept {B bm bx n gr : Nat} {m : Int} {s : List Int} {W W' : World} {row : Option Nat} (h : FstJ B bm bx n m gr s W) (hg : W.grownBy W' row) (hr : row = none ∨ row = some gr) (h1 : bm ≠ gr) (h2 : bx ≠ gr) : FstJ B bm bx n m gr s W' := by
  obtain ⟨A, c, hx, ho, k1, k2⟩ := h.x
  refine ⟨h.m.kept hg ?_, ⟨A, c, hx.kept hg ?_, World.ownsRow.kept ho hg ?_, k1, k2⟩, h.ne, h.len⟩
  · rcases hr with rfl | rfl
    · simp
    · intro e; injection e with e; exact h1 e
  · rcases hr with rfl | rfl
    · simp
    · intro e; injection e with e; exact h2 e
  · rcases hr with rfl | rfl
    · rcases hE : (Value.slice A s.length c).ownBlock with _ | g
      · exact .inl rfl
      · exact .inr (by simp)
    · exact .inr k1
theorem FstJ.put {B bm bx n gr c3 : Nat} {m : Int} {s l : List Int} {A3 : Option Addr} {W w3 : World} (h : FstJ B bm bx n m gr s W) (hb : Below W.heap.size W w3) (hB : B ≤ W.heap.size) (hgr : gr < W.heap.size) (hl : l.length = n) (ho : Own w3 W.heap.size A3 n c3 l) :
    FstJ B bm bx n m gr l (w3.setCell ⟨bx, 0, none⟩ (.slice A3 n c3)) ∧ W.grownBy (w3.setCell ⟨bx, 0, none⟩ (.slice A3 n c3)) (some bx) := by
  obtain ⟨A, c, hx, _, _, _⟩ := h.x
  have hx3 := hx.kept (grown_of_below hb) (by simp)
  have hg := grownBy_setCell' w3 bx (.slice A3 n c3)
  have hnb : ∀ k, k < W.heap.size → (Value.slice A3 n c3).ownBlock ≠ some k := fun k hk e => by
    rcases ho.2 with ⟨e1, _⟩ | ⟨g, cap, cur, e1, h1, _⟩
    · injection e1 with e1 e2 e3; subst e1; cases e
    · injection e1 with e1 e2 e3; subst e1
      have : g = k := by simpa [Value.ownBlock] using e
      omega
  refine ⟨⟨(h.m.kept (grown_of_below hb) (by simp)).kept hg (fun e => h.ne (by injection e)), ⟨A3, c3, ?_, ?_, ?_, ?_⟩, h.ne, .inr hl⟩, (grown_weak (grown_of_below hb) _).trans hg⟩
  · rw [hl]; exact hx3.set _
  · rw [hl]; exact Own.lower (World.ownsRow.kept ho hg (.inr (hnb _ hx.lt))) hB
  · rw [hl]; exact hnb _ hgr
  · rw [hl]; exact hnb _ hx.lt
def accF (m : Int) (b l : List Int) : List Int := if thrL l = m ∧ (b.length = 0 ∨ lessB l b = true) then l else b
theorem accF_all (m : Int) (L : List (List Int)) (b : List Int) : L.foldl (accF m) b = fstL9 m b L := rfl
theorem accF_len {m : Int} {n : Nat} {b l : List Int} (hb : b.length = 0 ∨ b.length = n) (hl : l.length = n) : (accF m b l).length = 0 ∨ (accF m b l).length = n := by
  unfold accF
  split
  · exact .inr hl
  · exact hb
set_option maxRecDepth 100000 in
set_option maxHeartbeats 8000000 in
theorem partFirst1_any (B bm bx gr b off n c : Nat) (m : Int) (l s : List Int) (W : World) (hR : Rd W (some ⟨b, off, none⟩) n l) (hn1 : 1 ≤ n) (hn : n ≤ 9) (hl : ∀ j, j < l.length → -1 ≤ l.getD j 0 ∧ l.getD j 0 ≤ 1000) (hB : B ≤ W.heap.size) (hgr : gr < W.heap.size) (hj : FstJ B bm bx n m gr s W) :
    Calls Try.prog 63 #[.slice (some ⟨b, off, none⟩) n c, .pointer (some ⟨bm, 0, none⟩), .pointer (some ⟨bx, 0, none⟩)] W fun e w' => e = .returned (.tuple #[]) ∧ FstJ B bm bx n m gr (accF m s l) w' ∧ W.grownBy w' (some bx) := by
  have HT := Lib.hid (fun W' (hW : Below W.heap.size W W') => threes_any (some ⟨b, off, none⟩) n c l W' (hR.same hW) hn1 (by omega) hl)
  have HL := Lib.hid (accF_len (m := m) hj.len hR.1)
  have HRR := Lib.hid hR
  obtain ⟨A, c2, hx, ho, k1, k2⟩ := hj.x
  have HC := Lib.hid (fun (hs : s.length = n) W' (hW : Below W.heap.size W W') => (by rw [hs]; exact compareP_any (some ⟨b, off, none⟩) A n c c2 l s W' (hR.same hW) (by rw [← hs]; exact (ho.same hW).rd) (by omega) : Calls Try.prog 64 #[.slice (some ⟨b, off, none⟩) n c, .slice A s.length c2] W' fun e w' => e = .returned (.int .i64 (cmpL l s)) ∧ Below W'.heap.size W' w'))
  have HLS := Lib.hid (cmpL_less l s)
  have HJ := Lib.hid hj
  obtain ⟨z, ez⟩ : ∃ z, z = thrL l := ⟨_, rfl⟩
  rw [← ez] at HT
  have HA := Lib.hid (show accF m s l = if z = m ∧ (s.length = 0 ∨ lessB l s = true) then l else s by rw [ez]; rfl)
  have y0 := cell_regrown hj.m.cell
  have y1 := cell_regrown hx.cell
  have cT : ∀ r d os, CallsIn Fence.wide r Try.prog 52 #[.slice (some ⟨b, off, none⟩) n c] (grow (redrawn W d) os) fun e w'' => e = .returned (.int .i64 z) ∧ ∃ p : Regrown, w'' = grow (redrawn W p.d) p.os := fun r d os => CallsIn.regrown_of (callsIn_wide.2 (HT.out _ (below_regrown W d os)))
  have hfn : Fence.wide.fn 52 := trivial
  have hfn2 : Fence.wide.fn 64 := trivial
  -- the answer 'no'
  have HNO := Lib.hid (fun (hn : accF m s l = s) (wq : World) (bq : Below W.heap.size W wq) => (show FstJ B bm bx n m gr (accF m s l) wq ∧ W.grownBy wq (some bx) from ⟨by rw [hn]; exact hj.below bq, grown_weak (grown_of_below bq) (some bx)⟩))
  clear hR hl hj ez hx ho k1 k2
  have HYE := Lib.hid (fun (hn : accF m s l = l) (A3 : Option Addr) (c3 : Nat) (wq w3 : World) (bq : Below W.heap.size W wq) (b3 : Below wq.heap.size wq w3) (o3 : Own w3 wq.heap.size A3 n c3 l) => (show FstJ B bm bx n m gr (accF m s l) (w3.setCell ⟨bx, 0, none⟩ (.slice A3 n c3)) ∧ W.grownBy (w3.setCell ⟨bx, 0, none⟩ (.slice A3 n c3)) (some bx) from by rw [hn]; exact HJ.out.put (below_then bq b3) hB hgr HRR.out.1 (o3.lower bq.size)))
  have HF := Lib.hid (fun (w3 : World) (b3 : Below W.heap.size W w3) => (show ∃ v, w3.cell? ⟨bx, 0, none⟩ = some v ∧ w3.frozen? ⟨bx, 0, none⟩ = false from (HJ.out.below b3).x.elim fun A h => h.elim fun c h => ⟨_, h.1.cell, h.1.frozen⟩))
  by_cases hm : z = m
  · subst hm
    have d1 : decide (z = z) = true := decide_eq_true rfl
    by_cases h0 : s.length = 0
    · have HY := Lib.hid (HYE.out (by rw [HA.out, if_pos ⟨rfl, .inl h0⟩]))
      rw [h0] at y1
      clear HC HLS HNO
      go_enter Try.func63, Try.ntmps63
      go_wp2_with fail
      refine (wpIn_wide (n := 5)).1 ?_
      refine region_qtail 14 (by kernel_rfl) (by kernel_rfl) ?_
      simp only [List.take_succ_cons, List.take_zero, List.drop_succ_cons, List.drop_zero]
      repeat (quiet_step_in (with_reducible exact cT _ _ _))
      refine wpQuietIn_nil ?_
      intro _ hw'
      obtain ⟨⟨dq, osq⟩, hw''⟩ := hw'
      subst hw''
      have bq := below_regrown W dq osq
      generalize Go.Sort.grow (redrawn W dq) osq = wq at bq ⊢
      gi_wp2_with fail
      have HBQ := Lib.hid bq
      clear y0 y1 cT bq
      go_wp2_with fail
      refine (cloneP_any ⟨b, off, none⟩ n c l wq (HRR.out.same HBQ.out) (by omega)).mono ?_
      rintro e w3 ⟨A3, c3, rfl, o3, b3⟩
      have HY3 := Lib.hid (HY.out A3 c3 wq w3 HBQ.out b3 o3)
      have HF3 := HF.out w3 (below_then HBQ.out b3)
      obtain ⟨v0, f1, f2⟩ := HF3
      clear o3 b3
      go_wp2_with fail
      go_end0
      exact ⟨rfl, HY3.out⟩
    · have hsn : s.length = n := by rcases HJ.out.len with h | h <;> omega
      obtain ⟨k, ek⟩ : ∃ k, k = s.length := ⟨_, rfl⟩
      have HK0 := Lib.hid (show ¬ s.length = 0 from h0)
      rw [← ek] at h0 y1
      have hne : decide ((k : Int) = 0) = false := by rw [decide_eq_false_iff_not]; omega
      have hne2 : ((k : Int) == 0) = false := by simp; omega
      have hne3 : decide (k = 0) = false := decide_eq_false h0
      obtain ⟨cv, ecv⟩ : ∃ cv, cv = cmpL l s := ⟨_, rfl⟩
      rw [← ecv] at HC HLS
      have cC : ∀ r d os, CallsIn Fence.wide r Try.prog 64 #[.slice (some ⟨b, off, none⟩) n c, .slice A k c2] (grow (redrawn W d) os) fun e w'' => e = .returned (.int .i64 cv) ∧ ∃ p : Regrown, w'' = grow (redrawn W p.d) p.os := fun r d os => CallsIn.regrown_of (callsIn_wide.2 (by have := HC.out hsn _ (below_regrown W d os); rw [ek]; exact this))
      clear HC ecv ek hsn
      by_cases hlt : cv < 0
      · have HY := Lib.hid (HYE.out (by rw [HA.out, if_pos ⟨rfl, .inr (by rw [← HLS.out]; exact decide_eq_true hlt)⟩]))
        have d4 : decide (cv < 0) = true := decide_eq_true hlt
        clear HLS HNO
        go_enter Try.func63, Try.ntmps63
        go_wp2_with fail
        refine (wpIn_wide (n := 5)).1 ?_
        refine region_qtail 14 (by kernel_rfl) (by kernel_rfl) ?_
        simp only [List.take_succ_cons, List.take_zero, List.drop_succ_cons, List.drop_zero]
        repeat (quiet_step_in (first | with_reducible exact cT _ _ _ | with_reducible exact cC _ _ _))
        refine wpQuietIn_nil ?_
        intro _ hw'
        obtain ⟨⟨dq, osq⟩, hw''⟩ := hw'
        subst hw''
        have bq := below_regrown W dq osq
        generalize Go.Sort.grow (redrawn W dq) osq = wq at bq ⊢
        gi_wp2_with fail
        have HBQ := Lib.hid bq
        clear y0 y1 cT cC bq
        go_wp2_with fail
        refine (cloneP_any ⟨b, off, none⟩ n c l wq (HRR.out.same HBQ.out) (by omega)).mono ?_
        rintro e w3 ⟨A3, c3, rfl, o3, b3⟩
        have HY3 := Lib.hid (HY.out A3 c3 wq w3 HBQ.out b3 o3)
        have HF3 := HF.out w3 (below_then HBQ.out b3)
        obtain ⟨v0, f1, f2⟩ := HF3
        clear o3 b3
        go_wp2_with fail
        go_end0
        exact ⟨rfl, HY3.out⟩
      · have d4 : decide (cv < 0) = false := decide_eq_false hlt
        have HN := Lib.hid (HNO.out (by rw [HA.out, if_neg]; rintro ⟨_, h | h⟩; (· exact HK0.out h); rw [← HLS.out, d4] at h; cases h))
        clear HLS HYE
        go_enter Try.func63, Try.ntmps63
        go_wp2_with fail
        refine (wpIn_wide (n := 5)).1 ?_
        refine region_qtail 14 (by kernel_rfl) (by kernel_rfl) ?_
        simp only [List.take_succ_cons, List.take_zero, List.drop_succ_cons, List.drop_zero]
        repeat (quiet_step_in (first | with_reducible exact cT _ _ _ | with_reducible exact cC _ _ _))
        refine wpQuietIn_nil ?_
        intro _ hw'
        obtain ⟨⟨dq, osq⟩, hw''⟩ := hw'
        subst hw''
        have bq := below_regrown W dq osq
        generalize Go.Sort.grow (redrawn W dq) osq = wq at bq ⊢
        gi_wp2_with fail
        have HN2 := Lib.hid (HN.out wq bq)
        clear y0 y1 cT cC bq
        go_wp2_with fail
        go_end0
        exact ⟨rfl, HN2.out⟩
  · have d1 : decide (z = m) = false := decide_eq_false hm
    have d2 : (z == m) = false := by simpa using hm
    have HN := Lib.hid (HNO.out (by rw [HA.out, if_neg (fun h => hm h.1)]))
    clear HC HLS
    go_enter Try.func63, Try.ntmps63
    go_wp2_with fail
    refine (wpIn_wide (n := 5)).1 ?_
    refine region_qtail 14 (by kernel_rfl) (by kernel_rfl) ?_
    simp only [List.take_succ_cons, List.take_zero, List.drop_succ_cons, List.drop_zero]
    repeat (quiet_step_in (with_reducible exact cT _ _ _))
    refine wpQuietIn_nil ?_
    intro _ hw'
    obtain ⟨⟨dq, osq⟩, hw''⟩ := hw'
    subst hw''
    have bq := below_regrown W dq osq
    generalize Go.Sort.grow (redrawn W dq) osq = wq at bq ⊢
    gi_wp2_with fail
    have HN2 := Lib.hid (HN.out wq bq)
    clear y0 y1 cT bq
    go_wp2_with fail
    go_end0
    exact ⟨rfl, HN2.out⟩
/-- What PartFirst tells. -/
noncomputable def fstM9 (xs : List Int) : List Int := if bundleB xs = true then fstP (cloQ xs) xs.length else []
theorem fstM9_yes {xs : List Int} (h : bundleB xs = true) : fstM9 xs = fstP (cloQ xs) xs.length := by unfold fstM9; rw [if_pos h]
theorem fstM9_no {xs : List Int} (h : bundleB xs = false) : fstM9 xs = [] := by unfold fstM9; rw [h]; rfl
theorem FstJ.start {B bm bx n gr : Nat} {m : Int} {W : World} (h : Boxed W bm 3 (.int .i64 m)) {g : Nat} (hx : Boxed W bx 23 (.slice (some ⟨g, 0, none⟩) 0 0)) (ho : Own W B (some ⟨g, 0, none⟩) 0 0 []) (hne : bm ≠ bx) (h1 : g ≠ gr) (h2 : g ≠ bx) : FstJ B bm bx n m gr [] W :=
  ⟨h, ⟨_, 0, hx, ho, fun e => h1 (by simpa [Value.ownBlock] using e), fun e => h2 (by simpa [Value.ownBlock] using e)⟩, hne, .inl rfl⟩
set_option maxRecDepth 100000 in
set_option maxHeartbeats 4000000 in
theorem implPartFirst_any (A : Option Addr) (n c : Nat) (xs : List Int) (w : World) (h : Rd w A n xs) (hn : n ≤ 1048576) :
    Calls Try.prog 30 #[.slice A n c] w fun e w' => ∃ (A' : Option Addr) (n' c' : Nat), e = .returned (.tuple #[.slice A' n' c', .bool (bundleB xs)]) ∧ Own w' w.heap.size A' n' c' (fstM9 xs) ∧ n' ≤ 1048576 ∧ Below w.heap.size w w' := by
  by_cases hb : bundleB xs = true
  · have HM := Lib.hid (fstM9_yes hb)
    have HMB := Lib.hid (mostB_yes hb)
    have HB := Lib.hid hb
    have hbd := bundleB_true hb
    have hn9 : n ≤ 9 := by rw [← h.1]; exact hbd.2.1
    have hn1 : 1 ≤ n := by rw [← h.1]; exact hbd.1
    have hz := hbd.2.2.1
    rw [h.1] at hz HM HMB
    obtain ⟨b, off, rfl, _, _⟩ := h.2 hn1
    have HZ := Lib.hid hz
    have HR := Lib.hid h
    have HP := Lib.hid (implPartMost_any (some ⟨b, off, none⟩) n c xs w h hn)
    obtain ⟨m, em⟩ : ∃ m, m = mostB xs := ⟨_, rfl⟩
    rw [← em] at HP HMB
    clear hb hbd hz h em
    go_enter Try.func30, Try.ntmps30
    go_wp2_with fail
    refine HP.out.mono ?_
    rintro e w1 ⟨rfl, b1⟩
    rw [HB.out]
    obtain ⟨W, eW⟩ : ∃ W, W = ((w1.alloc (.cells #[.int .i64 m] 3)).alloc (.cells #[] 3)).alloc (.cells #[.slice (some ⟨w1.heap.size + 1, 0, none⟩) 0 0] 23) := ⟨_, rfl⟩
    have hsz : W.heap.size = w1.heap.size + 1 + 1 + 1 := by rw [eW]; simp
    have hbW : Below w1.heap.size w1 W := by rw [eW]; exact below_alloc (below_alloc (below_alloc (Below.refl _ _) _) _) _
    have q1 : Boxed W w1.heap.size 3 (.int .i64 m) := by rw [eW]; exact ((Boxed.new w1 3 (.int .i64 m)).alloc _).alloc _
    have q2 : Own W w1.heap.size (some ⟨w1.heap.size + 1, 0, none⟩) 0 0 [] := by
      rw [eW]
      have := (Own.lit (w1.alloc (.cells #[.int .i64 m] 3)) (B := w1.heap.size) (by simp) [] (by simp)).al (.cells #[.slice (some ⟨w1.heap.size + 1, 0, none⟩) 0 0] 23)
      rw [World.size_alloc] at this
      exact this
    have q3 : Boxed W (w1.heap.size + 1 + 1) 23 (.slice (some ⟨w1.heap.size + 1, 0, none⟩) 0 0) := by
      rw [eW]
      have := Boxed.new ((w1.alloc (.cells #[.int .i64 m] 3)).alloc (.cells #[] 3)) 23 (.slice (some ⟨w1.heap.size + 1, 0, none⟩) 0 0)
      rw [World.size_alloc, World.size_alloc] at this
      exact this
    have hq := b1.size
    have hB := below_then b1 hbW
    have HV := Lib.hid (visitPartsG_any w w.heap.size (w1.heap.size + 1 + 1) (fun gr s W' => FstJ w.heap.size w1.heap.size (w1.heap.size + 1 + 1) n m gr s W' ∧ W.heap.size ≤ W'.heap.size) (accF m) [] 63 #[.pointer (some ⟨w1.heap.size, 0, none⟩), .pointer (some ⟨w1.heap.size + 1 + 1, 0, none⟩)] b off n c xs W (HR.out.same hB) hn1 hn9 HZ.out
      (fun gr hgr s W1 W2 hj row hg hr => ⟨hj.1.kept hg hr (by omega) (by omega), Nat.le_trans hj.2 hg.size⟩) ⟨by omega, by omega⟩ (by omega) hB (fun gr hgr => ⟨FstJ.start q1 q3 (q2.lower hq) (by omega) (by omega) (by omega), Nat.le_refl _⟩)
      (fun gr hgr l s W1 b' off' c' hlt hp hR hj => (partFirst1_any w.heap.size w1.heap.size (w1.heap.size + 1 + 1) gr b' off' n c' m l s W1 hR hn1 hn9 (pl_small hn9 hp) (by omega) hlt hj.1).mono fun e w' hh => ⟨hh.1, ⟨hh.2.1, Nat.le_trans hj.2 hh.2.2.size⟩, hh.2.2⟩) (enters_of Try.func63 (by kernel_rfl) rfl))
    have EW := Lib.hid eW
    clear eW hbW q1 q2 q3 hB hsz b1 hq
    go_wp2_with fail
    rw [← EW.out]
    refine HV.out.mono ?_
    rintro e w2 ⟨rfl, ⟨gr, _, hj2, _⟩, b2⟩
    have hfold : (visP 0 (noP n) (triP (cloQ xs) n)).foldl (accF m) [] = fstM9 xs := by rw [HM.out, accF_all, HMB.out]; rfl
    rw [hfold] at hj2
    obtain ⟨A5, c5, hx5, ho5, _, _⟩ := hj2.x
    have hc := hx5.cell
    have HO5 := Lib.hid ho5
    have HB2 := Lib.hid b2
    have HLN := Lib.hid hj2.len
    clear hj2 b2 hx5 ho5 hfold
    obtain ⟨L, eL⟩ : ∃ L, L = fstM9 xs := ⟨_, rfl⟩
    have EL := Lib.hid eL
    rw [← eL] at HO5 HLN hc
    clear eL
    go_wp2_with fail
    refine bodyPost_ret (results_tmp2 rfl _ _ _) rfl ?_
    exact ⟨A5, L.length, c5, by rw [HB.out]; rfl, by rw [← EL.out]; exact HO5.out, by have := HLN.out; omega, HB2.out⟩
  · rw [Bool.not_eq_true] at hb
    have HM := Lib.hid (fstM9_no hb)
    have HB := Lib.hid hb
    have HP := Lib.hid (implPartMost_any A n c xs w h hn)
    generalize mostB xs = m at *
    clear hb h
    go_enter Try.func30, Try.ntmps30
    go_wp2_with fail
    refine HP.out.mono ?_
    rintro e w1 ⟨rfl, b1⟩
    rw [HB.out]
    have hb2 := below_alloc b1 (.cells #[.int .i64 m] 3)
    have hl := Own.lit (w1.alloc (.cells #[.int .i64 m] 3)) (B := w.heap.size) hb2.size [] (by simp)
    rw [World.size_alloc] at hl
    have HL := Lib.hid hl
    have HB2 := Lib.hid (below_alloc hb2 (.cells #[] 3))
    clear hl hb2 b1
    go_wp2_with fail
    refine bodyPost_ret (results_tmp2 rfl _ _ _) rfl ?_
    exact ⟨_, 0, 0, by rw [HB.out]; rfl, by rw [HM.out]; exact HL.out, by omega, HB2.out⟩
end Go.Proofs.Ytiadnbdefcimiaa
