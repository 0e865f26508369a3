/- Reaches of chains, of the program: reachOf, along, ChainReach, ChainStep, ChainTo, ChainClose, ChainHold. -/
import Derived.Test.YtjciligkaamepaaChain
namespace Go.Proofs.Ytjciligkaamepaa
open Go.RowKit Go.Sort

theorem ret_rch {a b c d : Int} {x y : Bool} (h : a = b) (k : c = d) (l : x = y) : Ending.returned (.tuple #[rchV a c, .bool x]) = .returned (.tuple #[rchV b d, .bool y]) := by subst h k l; rfl
theorem ret_r {a b c d : Int} (h : a = b) (k : c = d) : Ending.returned (rchV a c) = .returned (rchV b d) := by subst h k; rfl

/-- The call's own blocks: the answer, the chain. -/
structure RoB (w W : World) (A : Option Addr) (n c : Nat) : Prop where
  an : W.heap[w.heap.size]? = some (.cells #[.int .i64 0, .int .i64 0] 44 (0, 0))
  ch : W.heap[w.heap.size + 1]? = some (.cells #[.slice A n c] 51 (0, 0))
  bel : Below w.heap.size w W
theorem RoB.same {w W W' : World} {A : Option Addr} {n c : Nat} (h : RoB w W A n c) (hb : Below W.heap.size W W') : RoB w W' A n c :=
  ⟨(hb.block _ (Array.getElem?_eq_some_iff.1 h.an).1).trans h.an, (hb.block _ (Array.getElem?_eq_some_iff.1 h.ch).1).trans h.ch, h.bel.trans (hb.mono h.bel.size)⟩
theorem RoB.made (w : World) (A : Option Addr) (n c : Nat) : RoB w ((w.alloc (.cells #[.int .i64 0, .int .i64 0] 44)).alloc (.cells #[.slice A n c] 51)) A n c := by
  refine ⟨?_, ?_, below_alloc (below_alloc (Below.refl _ _) _) _⟩
  · exact (Below.heap_alloc _ _ _ (by simp)).trans (World.alloc_heap_new w _)
  · have := World.alloc_heap_new (w.alloc (.cells #[.int .i64 0, .int .i64 0] 44)) (.cells #[.slice A n c] 51)
    rw [World.size_alloc] at this
    exact this

set_option maxRecDepth 100000 in
set_option maxHeartbeats 4000000 in
theorem reachOf_any (A : Option Addr) (n c : Nat) (xs : List Int) (w : World) (h : Rd w A n xs) (hn : n ≤ 1048576) :
    Calls Try.prog 46 #[.slice A n c] w fun e w' => e = .returned (.tuple #[rchV (lowM xs) (sumM xs), .bool (bundleB xs)]) ∧ Below w.heap.size w w' := by
  have s0 := RoB.made w A n c
  have hr0 := h.same s0.bel
  by_cases hb : bundleB xs = true
  · have HB := Lib.hid hb
    have hR := fun W (h : Rd W A n xs) => reach_any A n c xs W h (bundleB_true HB.out)
    rw [lowM_yes hb, sumM_yes hb]
    generalize lowL xs = l at *
    generalize sumL xs = s at *
    clear hb
    go_enter Try.func46, Try.ntmps46
    go_wp2_with fail
    refine (valid_any A n c xs _ hr0 hn).mono ?_
    rintro e w1 ⟨rfl, b1⟩
    rw [HB.out]
    have s1 := s0.same b1
    have r1 := h.same s1.bel
    have k1 := one_cell s1.ch
    clear s0 hr0 h
    go_wp2_with fail
    refine (hR _ r1).mono ?_
    rintro e w2 ⟨rfl, b2⟩
    have s2 := s1.same b2
    obtain ⟨u0, u1, u2, u3⟩ := two_cells s2.an
    go_wp2_with fail
    have hRn := two_set s2.an (.int .i64 l) (.int .i64 s)
    have b5 := two_below s2.bel (Nat.le_refl _) (.int .i64 l) (.int .i64 s)
    generalize (w2.setCell ⟨w.heap.size, 0, none⟩ (.int .i64 l)).setCell ⟨w.heap.size, 1, none⟩ (.int .i64 s) = W4 at hRn b5 ⊢
    obtain ⟨y0, y1, _, _⟩ := two_cells hRn
    refine bodyPost_ret (v := .tuple #[rchV l s, .bool true]) ?_ rfl ⟨ret_rch rfl rfl HB.out.symm, b5⟩
    simp [results, Try.f46, go_sem, y0, y1]
  · rw [Bool.not_eq_true] at hb
    have HB := Lib.hid hb
    rw [lowM_no hb, sumM_no hb]
    clear hb
    go_enter Try.func46, Try.ntmps46
    go_wp2_with fail
    refine (valid_any A n c xs _ hr0 hn).mono ?_
    rintro e w1 ⟨rfl, b1⟩
    rw [HB.out]
    have s2 := s0.same b1
    obtain ⟨u0, u1, u2, u3⟩ := two_cells s2.an
    clear s0 hr0 h
    go_wp2_with fail
    have hRn := two_set s2.an (.int .i64 0) (.int .i64 0)
    have b5 := two_below s2.bel (Nat.le_refl _) (.int .i64 0) (.int .i64 0)
    generalize (w1.setCell ⟨w.heap.size, 0, none⟩ (.int .i64 0)).setCell ⟨w.heap.size, 1, none⟩ (.int .i64 0) = W4 at hRn b5 ⊢
    obtain ⟨y0, y1, _, _⟩ := two_cells hRn
    refine bodyPost_ret (v := .tuple #[rchV 0 0, .bool false]) ?_ rfl ⟨ret_rch rfl rfl HB.out.symm, b5⟩
    simp [results, Try.f46, go_sem, y0, y1]

/-- The call's own blocks: the reach so far, the answer. -/
structure AlB (w W : World) (l m : Int) : Prop where
  r : W.heap[w.heap.size]? = some (.cells #[.int .i64 l, .int .i64 m] 44 (0, 0))
  an : W.heap[w.heap.size + 1 + 1]? = some (.cells #[.int .i64 0, .int .i64 0] 44 (0, 0))
  bel : Below w.heap.size w W
theorem AlB.set {w W : World} {l m : Int} (h : AlB w W l m) (l' m' : Int) : AlB w ((W.setCell ⟨w.heap.size, 0, none⟩ (.int .i64 l')).setCell ⟨w.heap.size, 1, none⟩ (.int .i64 m')) l' m' :=
  ⟨two_set h.r _ _, by
    have ne : ∀ o, w.heap.size + 1 + 1 = (⟨w.heap.size, o, none⟩ : Addr).block ∨ (⟨w.heap.size, o, none⟩ : Addr).block = w.heap.size + 1 + 1 → False := fun o e => by
      have e : w.heap.size + 1 + 1 = w.heap.size := e.elim id Eq.symm
      omega
    rw [heap_setCell_other _ ⟨w.heap.size, 1, none⟩ _ _ (fun e => ne 1 (by first | exact .inl e | exact .inr e)), heap_setCell_other _ ⟨w.heap.size, 0, none⟩ _ _ (fun e => ne 0 (by first | exact .inl e | exact .inr e))]
    exact h.an, two_below h.bel (Nat.le_refl _) _ _⟩
theorem AlB.made (w : World) (l m : Int) (o : Obj) : AlB w (((w.alloc (.cells #[.int .i64 l, .int .i64 m] 44)).alloc o).alloc (.cells #[.int .i64 0, .int .i64 0] 44)) l m := by
  refine ⟨?_, ?_, below_alloc (below_alloc (below_alloc (Below.refl _ _) _) _) _⟩
  · exact (Below.heap_alloc _ _ _ (by simp; omega)).trans ((Below.heap_alloc _ _ _ (by simp)).trans (World.alloc_heap_new w _))
  · have := World.alloc_heap_new ((w.alloc (.cells #[.int .i64 l, .int .i64 m] 44)).alloc o) (.cells #[.int .i64 0, .int .i64 0] 44)
    rw [World.size_alloc, World.size_alloc] at this
    exact this
theorem al_cases (l m : Int) (xs : List Int) (k : Nat) : ∃ x s t p q r v, x = xs.getD k 0 ∧ s = m + sumTo xs k ∧ t = alTo l m xs k ∧ t - x = p ∧ x - s = q ∧ s + x = r ∧ m + sumTo xs (k + 1) = r ∧ alTo l m xs (k + 1) = v ∧
    ((p ≤ 0 ∧ q ≤ 0 ∧ v = 0) ∨ (p ≤ 0 ∧ 0 < q ∧ v = q) ∨ (0 < p ∧ q ≤ p ∧ v = p) ∨ (0 < p ∧ p < q ∧ v = q)) := by
  refine ⟨_, _, _, _, _, _, _, rfl, rfl, rfl, rfl, rfl, rfl, ?_, rfl, ?_⟩
  · rw [sumTo]; omega
  · rw [alTo]; omega

set_option maxRecDepth 100000 in
set_option maxHeartbeats 4000000 in
theorem along_any (l m : Int) (A : Option Addr) (n c : Nat) (xs : List Int) (w : World) (h : Rd w A n xs) (hb : Bundle xs) (hl0 : 0 ≤ l) (hl : l ≤ 60) (hm0 : 0 ≤ m) (hm : m ≤ 540) :
    Calls Try.prog 50 #[rchV l m, .agg #[.slice A n c]] w fun e w' => e = .returned (rchV (alTo l m xs xs.length) (m + sumL xs)) ∧ Below w.heap.size w w' := by
  have HL := Lib.hid h.1
  have s0 := AlB.made w l m (.cells #[.slice A n c] 51)
  have hn9 := (bundle_n h hb).2
  go_enter Try.func50, Try.ntmps50
  go_wp2_with fail
  go_loopw [6, 10] (fun _ i wr => ∃ k : Nat, k ≤ n ∧ i = .int .i64 k ∧ AlB w wr (alTo l m xs k) (m + sumTo xs k)) (fun _ i _ => n - (intOf i).toNat)
  case atStart => exact ⟨0, Nat.zero_le _, rfl, by rw [show m + sumTo xs 0 = m from Int.add_zero m]; exact s0⟩
  case round =>
    obtain ⟨k, hk, rfl, hal⟩ := hrel
    clear s0
    by_cases hlt : k < n
    · obtain ⟨b, off, rfl, hbl, hc⟩ := h.2 (by omega)
      have hcx : wr.cell? ⟨b, off + k, none⟩ = some (.int .i64 (xs.getD k 0)) := (hal.bel.cell (p := ⟨b, off + k, none⟩) hbl).trans (hc k hlt)
      have hx := hb.2.2.1 k (by rw [HL.out]; exact hlt)
      have ht := alTo_bd hb hl0 hl hm0 k (by rw [HL.out]; exact hk)
      have hs := sumTo_in hb k (by rw [HL.out]; exact hk)
      obtain ⟨x, s, t, p, q, r, v, ex, es, et, ep, eq, er, e1, e2, hcs⟩ := al_cases l m xs k
      rw [← ex] at hcx hx
      rw [← et, ← es] at hal
      rw [← et] at ht
      have v1 : IntKind.i64.wrap (t - x) = p := wrap_is ep (by omega) (by omega)
      have v2 : IntKind.i64.wrap (x - s) = q := wrap_is eq (by omega) (by omega)
      have v3 : IntKind.i64.wrap (s + x) = r := wrap_is er (by omega) (by omega)
      have E1 := Lib.hid e1
      have E2 := Lib.hid e2
      have HA := Lib.hid hal
      obtain ⟨u0, u1, u2, u3⟩ := two_cells hal.r
      clear hc h ex es et ep eq er e1 e2 hx hs ht hal hl0 hl hm0 hm
      rcases hcs with ⟨q1, q2, q3⟩ | ⟨q1, q2, q3⟩ | ⟨q1, q2, q3⟩ | ⟨q1, q2, q3⟩
      all_goals
        subst q3
        go_wp2_with fail
        go_roundw
        case rel => first | exact ⟨k + 1, by omega, by go_num, by rw [E2.out, E1.out]; exact HA.out.set _ _⟩ | ((repeat apply Exists.intro); exact ⟨⟨k + 1, by omega, by go_num, by rw [E2.out, E1.out]; exact HA.out.set _ _⟩, rfl⟩)
        case measure => simp [intOf]; omega
    · obtain rfl : k = n := by omega
      have e1 : alTo l m xs k = alTo l m xs xs.length := by rw [HL.out]
      have e2 : m + sumTo xs k = m + sumL xs := by unfold sumL; rw [HL.out]
      rw [e1, e2] at hal
      obtain ⟨L, eL⟩ : ∃ L, L = alTo l m xs xs.length := ⟨_, rfl⟩
      obtain ⟨M, eM⟩ : ∃ M, M = m + sumL xs := ⟨_, rfl⟩
      rw [← eL, ← eM] at hal
      have EL := Lib.hid eL
      have EM := Lib.hid eM
      obtain ⟨u0, u1, u2, u3⟩ := two_cells hal.r
      obtain ⟨z0, z1, z2, z3⟩ := two_cells hal.an
      clear h e1 e2 hl0 hl hm0 hm hb eL eM
      go_wp2_with fail
      have hRn := two_set hal.an (.int .i64 L) (.int .i64 M)
      have b5 := two_below hal.bel (by omega : w.heap.size ≤ w.heap.size + 1 + 1) (.int .i64 L) (.int .i64 M)
      generalize (wr.setCell ⟨w.heap.size + 1 + 1, 0, none⟩ (.int .i64 L)).setCell ⟨w.heap.size + 1 + 1, 1, none⟩ (.int .i64 M) = W4 at hRn b5 ⊢
      obtain ⟨y0, y1, _, _⟩ := two_cells hRn
      refine bodyPost_ret (v := rchV L M) ?_ rfl ⟨ret_r EL.out EM.out, b5⟩
      simp [results, Try.f50, go_sem, y0, y1]

theorem implChainReach_any (A : Option Addr) (n c : Nat) (xs : List Int) (w : World) (h : Rd w A n xs) (hn : n ≤ 1048576) :
    Calls Try.prog 19 #[.slice A n c] w fun e w' => e = .returned (.tuple #[.int .i64 (lowM xs), .int .i64 (sumM xs), .bool (bundleB xs)]) ∧ Below w.heap.size w w' := by
  have hR := reachOf_any A n c xs w h hn
  generalize lowM xs = l at *
  generalize sumM xs = s at *
  go_enter Try.func19, Try.ntmps19
  go_wp2_with fail
  refine hR.mono ?_
  rintro e w1 ⟨rfl, b1⟩
  have b2 := below_alloc b1 (.cells #[.int .i64 l, .int .i64 s] 44)
  obtain ⟨k0, k1, _, _⟩ := two_cells (World.alloc_heap_new w1 (.cells #[.int .i64 l, .int .i64 s] 44))
  go_wp2_with fail
  go_quiet (fail)
  go_wp2_with fail
  go_ret3
  exact ⟨rfl, below_drewN b2 _⟩

set_option maxHeartbeats 1000000 in
theorem implChainStep_any (A : Option Addr) (n c : Nat) (xs : List Int) (w : World) (h : Rd w A n xs) (hn : n ≤ 1048576) :
    Calls Try.prog 21 #[.slice A n c] w fun e w' => e = .returned (.tuple #[.int .i64 (lowM xs), .int .i64 (sumM xs), .bool (bundleB xs)]) ∧ Below w.heap.size w w' := by
  have b0 := below_alloc (Below.refl w.heap.size w) (.cells #[.slice A n c] 51)
  have hC := World.alloc_heap_new w (.cells #[.slice A n c] 51)
  have hr0 := h.same b0
  have hV := valid_any A n c xs _ hr0 hn
  by_cases hb : bundleB xs = true
  · have HB := Lib.hid hb
    have hA := fun W (h : Rd W A n xs) => along_any 0 0 A n c xs W h (bundleB_true HB.out) (by omega) (by omega) (by omega) (by omega)
    rw [al_step (bundleB_true hb), Int.zero_add] at hA
    rw [lowM_yes hb, sumM_yes hb]
    generalize lowL xs = l at *
    generalize sumL xs = s at *
    rw [hb] at hV
    clear hb
    go_enter Try.func21, Try.ntmps21
    go_wp2_with fail
    refine hV.mono ?_
    rintro e w1 ⟨rfl, b1⟩
    have b2 := b0.trans (b1.mono b0.size)
    have hC1 := (b1.block _ (by simp)).trans hC
    have k1 := one_cell hC1
    have r1 := h.same b2
    clear hr0 hV h hC b0
    go_wp2_with fail
    refine (hA _ r1).mono ?_
    rintro e w2 ⟨rfl, b3⟩
    have b4 := below_then b2 b3
    have b5 := below_alloc b4 (.cells #[.int .i64 l, .int .i64 s] 44)
    obtain ⟨k0, k1, _, _⟩ := two_cells (World.alloc_heap_new w2 (.cells #[.int .i64 l, .int .i64 s] 44))
    go_wp2_with fail
    go_quiet (fail)
    go_wp2_with fail
    go_ret3
    exact ⟨ret_iib rfl rfl HB.out.symm, below_drewN b5 _⟩
  · rw [Bool.not_eq_true] at hb
    have HB := Lib.hid hb
    rw [lowM_no hb, sumM_no hb]
    rw [hb] at hV
    clear hb
    go_enter Try.func21, Try.ntmps21
    go_wp2_with fail
    refine hV.mono ?_
    rintro e w1 ⟨rfl, b1⟩
    have b2 := b0.trans (b1.mono b0.size)
    go_wp2_with fail
    go_ret3
    exact ⟨ret_iib rfl rfl HB.out.symm, b2⟩

theorem implChainTo_any (A : Option Addr) (n c : Nat) (xs : List Int) (d : Int) (w : World) (h : Rd w A n xs) (hn : n ≤ 1048576) :
    Calls Try.prog 22 #[.slice A n c, .int .i64 d] w fun e w' => e = .returned (.bool (chTo xs d)) ∧ Below w.heap.size w w' := by
  have hR := reachOf_any A n c xs w h hn
  by_cases hb : bundleB xs = true
  · rw [lowM_yes hb, sumM_yes hb, hb] at hR
    rw [chTo_yes hb, toB_is]
    generalize lowL xs = l at *
    generalize sumL xs = s at *
    clear hb
    go_enter Try.func22, Try.ntmps22
    go_wp2_with fail
    refine hR.mono ?_
    rintro e w1 ⟨rfl, b1⟩
    have b2 := below_alloc b1 (.cells #[.int .i64 l, .int .i64 s] 44)
    obtain ⟨k0, k1, _, _⟩ := two_cells (World.alloc_heap_new w1 (.cells #[.int .i64 l, .int .i64 s] 44))
    go_wp2_with fail
    refine (has_any l s d _).mono ?_
    rintro e w2 ⟨rfl, b3⟩
    go_wp2_with fail
    go_ret
    exact ⟨rfl, below_then b2 b3⟩
  · rw [Bool.not_eq_true] at hb
    rw [hb] at hR
    rw [chTo_no hb]
    generalize lowM xs = l at *
    generalize sumM xs = s at *
    clear hb
    go_enter Try.func22, Try.ntmps22
    go_wp2_with fail
    refine hR.mono ?_
    rintro e w1 ⟨rfl, b1⟩
    have b2 := below_alloc b1 (.cells #[.int .i64 l, .int .i64 s] 44)
    go_wp2_with fail
    go_ret
    exact ⟨rfl, b2⟩

theorem implChainClose_any (A : Option Addr) (n c : Nat) (xs : List Int) (w : World) (h : Rd w A n xs) (hn : n ≤ 1048576) :
    Calls Try.prog 35 #[.slice A n c] w fun e w' => e = .returned (.bool (chTo xs 0)) ∧ Below w.heap.size w w' := by
  go_enter Try.func35, Try.ntmps35
  go_wp2_with fail
  refine (implChainTo_any A n c xs 0 w h hn).mono ?_
  rintro e w1 ⟨rfl, b1⟩
  go_wp2_with fail
  go_ret
  exact ⟨rfl, b1⟩

theorem implChainHold_any (A : Option Addr) (n c : Nat) (xs : List Int) (w : World) (h : Rd w A n xs) (hn : n ≤ 1048576) :
    Calls Try.prog 37 #[.slice A n c] w fun e w' => e = .returned (.tuple #[.int .i64 (hldM xs), .bool (bundleB xs)]) ∧ Below w.heap.size w w' := by
  have hR := reachOf_any A n c xs w h hn
  by_cases hb : bundleB xs = true
  · have HB := Lib.hid hb
    have hq := hold_is xs
    rw [← hldM_yes hb] at hq
    rw [lowM_yes hb, sumM_yes hb, hb] at hR
    generalize lowL xs = l at *
    generalize sumL xs = s at *
    rcases hq with ⟨q1, q2⟩ | ⟨q1, q2⟩
    all_goals
      have HQ := Lib.hid q2
      clear hb q2
      go_enter Try.func37, Try.ntmps37
      go_wp2_with fail
      refine hR.mono ?_
      rintro e w1 ⟨rfl, b1⟩
      have b2 := below_alloc b1 (.cells #[.int .i64 l, .int .i64 s] 44)
      obtain ⟨k0, k1, _, _⟩ := two_cells (World.alloc_heap_new w1 (.cells #[.int .i64 l, .int .i64 s] 44))
      go_wp2_with fail
      go_ret2
      exact ⟨ret_ibs HQ.out.symm HB.out.symm, b2⟩
  · rw [Bool.not_eq_true] at hb
    have HB := Lib.hid hb
    rw [hb] at hR
    rw [hldM_no hb]
    generalize lowM xs = l at *
    generalize sumM xs = s at *
    clear hb
    go_enter Try.func37, Try.ntmps37
    go_wp2_with fail
    refine hR.mono ?_
    rintro e w1 ⟨rfl, b1⟩
    have b2 := below_alloc b1 (.cells #[.int .i64 l, .int .i64 s] 44)
    go_wp2_with fail
    go_ret2
    exact ⟨ret_ibs rfl HB.out.symm, b2⟩
end Go.Proofs.Ytjciligkaamepaa
