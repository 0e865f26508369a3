/- Chains that meet, and the best number of rods, of the program. -/
import Derived.Test.YtjciligkaamepaaChain2
namespace Go.Proofs.Ytjciligkaamepaa
open Go.RowKit Go.Sort

/-- The call's own blocks: two chains. -/
structure TwB (w W : World) (A : Option Addr) (n c : Nat) (B : Option Addr) (m k : Nat) : Prop where
  one : W.heap[w.heap.size]? = some (.cells #[.slice A n c] 51 (0, 0))
  two : W.heap[w.heap.size + 1]? = some (.cells #[.slice B m k] 51 (0, 0))
  bel : Below w.heap.size w W
theorem TwB.same {w W W' : World} {A : Option Addr} {n c : Nat} {B : Option Addr} {m k : Nat} (h : TwB w W A n c B m k) (hb : Below W.heap.size W W') : TwB w W' A n c B m k :=
  ⟨(hb.block _ (Array.getElem?_eq_some_iff.1 h.one).1).trans h.one, (hb.block _ (Array.getElem?_eq_some_iff.1 h.two).1).trans h.two, h.bel.trans (hb.mono h.bel.size)⟩
theorem TwB.made (w : World) (A : Option Addr) (n c : Nat) (B : Option Addr) (m k : Nat) : TwB w ((w.alloc (.cells #[.slice A n c] 51)).alloc (.cells #[.slice B m k] 51)) A n c B m k := by
  refine ⟨?_, ?_, below_alloc (below_alloc (Below.refl _ _) _) _⟩
  · exact (Below.heap_alloc _ _ _ (by simp)).trans (World.alloc_heap_new w _)
  · have := World.alloc_heap_new (w.alloc (.cells #[.slice A n c] 51)) (.cells #[.slice B m k] 51)
    rw [World.size_alloc] at this
    exact this

set_option maxRecDepth 100000 in
set_option maxHeartbeats 4000000 in
theorem implChainMeet_any (A : Option Addr) (n c : Nat) (xs : List Int) (B : Option Addr) (m k : Nat) (ys : List Int) (d : Int) (w : World) (h : Rd w A n xs) (hn : n ≤ 1048576) (h' : Rd w B m ys) (hm : m ≤ 1048576) :
    Calls Try.prog 31 #[.slice A n c, .slice B m k, .int .i64 d] w fun e w' => e = .returned (.bool (chMeet xs ys d)) ∧ Below w.heap.size w w' := by
  have s0 := TwB.made w A n c B m k
  have r0 := h.same s0.bel
  have k0 := one_cell s0.two
  by_cases hb : bundleB xs = true
  · have HB := Lib.hid hb
    by_cases hb' : bundleB ys = true
    · have HB' := Lib.hid hb'
      by_cases hd : inB d 0 1000 = true
      · have HD := Lib.hid hd
        have HQ := Lib.hid ((chMeet_yes hb hb' hd).trans (al_meet (bundleB_true hb) (bundleB_true hb') (inB_true hd).1).symm)
        have hlo := low_bd (bundleB_true hb)
        have hR := fun W (h : Rd W A n xs) => reach_any A n c xs W h (bundleB_true HB.out)
        have hA := fun W (h : Rd W B m ys) => along_any (lowL xs) (sumL xs) B m k ys W h (bundleB_true HB'.out) (by omega) (by omega) (by omega) (by omega)
        generalize alTo (lowL xs) (sumL xs) ys ys.length = L at *
        generalize sumL xs + sumL ys = M at *
        generalize lowL xs = l at *
        generalize sumL xs = s at *
        clear hb hb' hd hlo
        go_enter Try.func31, Try.ntmps31
        go_wp2_with fail
        refine (valid_any A n c xs _ r0 hn).mono ?_
        rintro e w1 ⟨rfl, b1⟩
        rw [HB.out]
        have s1 := s0.same b1
        have r1 := h'.same s1.bel
        have k1 := one_cell s1.two
        clear s0 r0 k0
        go_wp2_with fail
        refine (valid_any B m k ys _ r1 hm).mono ?_
        rintro e w2 ⟨rfl, b2⟩
        rw [HB'.out]
        have s2 := s1.same b2
        clear s1 r1 k1
        go_wp2_with fail
        refine (isApart_any d _).mono ?_
        rintro e w2' ⟨rfl, rfl⟩
        rw [HD.out]
        go_wp2_with fail
        have b3 := s2.bel
        have c1 : ∀ d os, (grow (redrawn w2 d) os).cell? ⟨w.heap.size, 0, none⟩ = some (.slice A n c) := fun d os => cell_regrown (one_cell s2.one) d os
        have c2 : ∀ d os, (grow (redrawn w2 d) os).cell? ⟨w.heap.size + 1, 0, none⟩ = some (.slice B m k) := fun d os => cell_regrown (one_cell s2.two) d os
        have cR : ∀ d os, Calls Try.prog 62 #[.agg #[.slice A n c]] (grow (redrawn w2 d) os) fun e w'' => e = .returned (rchV l s) ∧ ∃ p : Regrown, w'' = grow (redrawn w2 p.d) p.os := fun d os =>
          Calls.regrown_of (hR _ ((h.same b3).same (below_regrown w2 d os)))
        have cA : ∀ d os, Calls Try.prog 50 #[rchV l s, .agg #[.slice B m k]] (grow (redrawn w2 d) os) fun e w'' => e = .returned (rchV L M) ∧ ∃ p : Regrown, w'' = grow (redrawn w2 p.d) p.os := fun d os =>
          Calls.regrown_of (hA _ ((h'.same b3).same (below_regrown w2 d os)))
        have cH : ∀ d' os, Calls Try.prog 51 #[rchV L M, .int .i64 d] (grow (redrawn w2 d') os) fun e w'' => e = .returned (.bool (decide (d ≥ L) && decide (d ≤ M))) ∧ ∃ p : Regrown, w'' = grow (redrawn w2 p.d) p.os := fun d' os =>
          Calls.regrown_of (has_any L M d _)
        clear hR hA h h' s2
        refine wp_region_quiet_below (by kernel_rfl) (by kernel_rfl) ?_
        repeat (go_big_quiet_step (first | exact cR _ _ | exact cA _ _ | exact cH _ _))
        refine wpQuiet_nil ?_
        intro _ hw'
        obtain ⟨⟨dq, osq⟩, hw''⟩ := hw'
        subst hw''
        have bq := below_regrown w2 dq osq
        generalize Go.Sort.grow (redrawn w2 dq) osq = wq at bq ⊢
        go_wp2_with fail
        go_ret
        exact ⟨ret_b HQ.out.symm, b3.trans (bq.mono b3.size)⟩
      · rw [Bool.not_eq_true] at hd
        have HD := Lib.hid hd
        have HQ := Lib.hid (chMeet_no3 (xs := xs) (ys := ys) hd)
        clear hb hb' hd
        go_enter Try.func31, Try.ntmps31
        go_wp2_with fail
        refine (valid_any A n c xs _ r0 hn).mono ?_
        rintro e w1 ⟨rfl, b1⟩
        rw [HB.out]
        have s1 := s0.same b1
        have r1 := h'.same s1.bel
        have k1 := one_cell s1.two
        clear s0 r0 k0
        go_wp2_with fail
        refine (valid_any B m k ys _ r1 hm).mono ?_
        rintro e w2 ⟨rfl, b2⟩
        rw [HB'.out]
        have s2 := s1.same b2
        go_wp2_with fail
        refine (isApart_any d _).mono ?_
        rintro e w2' ⟨rfl, rfl⟩
        rw [HD.out]
        go_wp2_with fail
        go_ret
        exact ⟨ret_b HQ.out.symm, s2.bel⟩
    · rw [Bool.not_eq_true] at hb'
      have HB' := Lib.hid hb'
      have HQ := Lib.hid (chMeet_no2 (xs := xs) (d := d) hb')
      clear hb hb'
      go_enter Try.func31, Try.ntmps31
      go_wp2_with fail
      refine (valid_any A n c xs _ r0 hn).mono ?_
      rintro e w1 ⟨rfl, b1⟩
      rw [HB.out]
      have s1 := s0.same b1
      have r1 := h'.same s1.bel
      have k1 := one_cell s1.two
      clear s0 r0 k0
      go_wp2_with fail
      refine (valid_any B m k ys _ r1 hm).mono ?_
      rintro e w2 ⟨rfl, b2⟩
      rw [HB'.out]
      have s2 := s1.same b2
      go_wp2_with fail
      go_ret
      exact ⟨ret_b HQ.out.symm, s2.bel⟩
  · rw [Bool.not_eq_true] at hb
    have HB := Lib.hid hb
    have HQ := Lib.hid (chMeet_no1 (ys := ys) (d := d) hb)
    clear hb
    go_enter Try.func31, Try.ntmps31
    go_wp2_with fail
    refine (valid_any A n c xs _ r0 hn).mono ?_
    rintro e w1 ⟨rfl, b1⟩
    rw [HB.out]
    have s1 := s0.same b1
    go_wp2_with fail
    go_ret
    exact ⟨ret_b HQ.out.symm, s1.bel⟩

set_option maxHeartbeats 4000000 in
theorem implChainBest_any (A : Option Addr) (n c : Nat) (xs : List Int) (d : Int) (w : World) (h : Rd w A n xs) (hn : n ≤ 1048576) (hc : n ≤ c) :
    Calls Try.prog 41 #[.slice A n c, .int .i64 d] w fun e w' => e = .returned (.tuple #[.int .i64 (bstM xs d), .bool (bstB xs d)]) ∧ Below w.heap.size w w' := by
  by_cases hb : bundleB xs = true
  · have HB := Lib.hid hb
    by_cases hd : inB d 0 1000 = true
    · have HD := Lib.hid hd
      have HL := Lib.hid h.1
      have hB := bundleB_true hb
      clear hb hd
      go_enter Try.func41, Try.ntmps41
      go_wp2_with fail
      refine (implStickIn_any _ _ _ xs _ h hn).mono ?_
      rintro e w1 ⟨rfl, b1⟩
      rw [HB.out]
      go_wp2_with fail
      refine (isApart_any d _).mono ?_
      rintro e w2 ⟨rfl, rfl⟩
      rw [HD.out]
      go_wp2_with fail
      go_loopw [6] (fun i wr => ∃ k : Nat, k ≤ n ∧ i = .int .i64 k ∧ bestTo xs d k = bestL xs d ∧ Below w.heap.size w wr) (fun i _ => (intOf i).toNat)
      case atStart => exact ⟨n, Nat.le_refl _, rfl, by unfold bestL; rw [HL.out], b1⟩
      case round =>
        obtain ⟨k, hk, rfl, hw, hbw⟩ := hrel
        have HK := Lib.hid hw
        clear hw
        by_cases h1 : 1 ≤ k
        · obtain ⟨b, off, rfl, _, _⟩ := h.2 (by omega)
          have ht := Lib.hid ((h.same hbw).take hk)
          have hC : ∀ c', Calls Try.prog 22 #[.slice (some ⟨b, off, none⟩) k c', .int .i64 d] wr fun e w' => e = .returned (.bool (toB (xs.take k) d)) ∧ Below wr.heap.size wr w' := fun c' => by
            have := implChainTo_any _ k c' _ d _ ht.out (by omega)
            rw [chTo_take hB h1 (by rw [HL.out]; exact hk)] at this
            exact this
          have d1 : decide ((k : Int) ≥ 1) = true := by simp; omega
          cases hcl : toB (xs.take k) d with
          | true =>
            have HE := Lib.hid (bestTo_yes h1 hcl)
            rw [hcl] at hC
            clear h
            go_wp2_with fail
            refine (hC _).mono ?_
            rintro e w2 ⟨rfl, b2⟩
            have hq : bestL xs d = k := by rw [← HK.out, HE.out]
            have hY := bstB_yes HB.out HD.out (by omega : 1 ≤ bestL xs d)
            have HY := Lib.hid hY
            have HZ := Lib.hid (show (k : Int) = bstM xs d by rw [bstM_yes hY, hq])
            clear hq hY
            go_wp2_with fail
            go_ret2
            exact ⟨ret_ibs HZ.out HY.out.symm, below_then hbw b2⟩
          | false =>
            have HE := Lib.hid (bestTo_no h1 hcl)
            rw [hcl] at hC
            clear h
            go_wp2_with fail
            refine (hC _).mono ?_
            rintro e w2 ⟨rfl, b2⟩
            go_wp2_with fail
            go_roundw
            case rel => exact ⟨k - 1, by omega, by go_num, by rw [← HE.out, HK.out], below_then hbw b2⟩
            case measure => simp [intOf]; omega
        · obtain rfl : k = 0 := by omega
          have HN := Lib.hid (bstB_none (show bestL xs d = 0 from HK.out.symm))
          have d1 : decide (((0 : Nat) : Int) ≥ 1) = false := by simp
          clear h
          go_wp2_with fail
          go_ret2
          exact ⟨ret_ibs (bstM_no HN.out).symm HN.out.symm, hbw⟩
    · rw [Bool.not_eq_true] at hd
      have HD := Lib.hid hd
      have HN := Lib.hid (bstB_no2 (xs := xs) hd)
      clear hb hd
      go_enter Try.func41, Try.ntmps41
      go_wp2_with fail
      refine (implStickIn_any _ _ _ xs _ h hn).mono ?_
      rintro e w1 ⟨rfl, b1⟩
      rw [HB.out]
      go_wp2_with fail
      refine (isApart_any d _).mono ?_
      rintro e w2 ⟨rfl, rfl⟩
      rw [HD.out]
      go_wp2_with fail
      go_ret2
      exact ⟨ret_ibs (bstM_no HN.out).symm HN.out.symm, b1⟩
  · rw [Bool.not_eq_true] at hb
    have HB := Lib.hid hb
    have HN := Lib.hid (bstB_no1 (d := d) hb)
    clear hb
    go_enter Try.func41, Try.ntmps41
    go_wp2_with fail
    refine (implStickIn_any _ _ _ xs _ h hn).mono ?_
    rintro e w1 ⟨rfl, b1⟩
    rw [HB.out]
    go_wp2_with fail
    go_ret2
    exact ⟨ret_ibs (bstM_no HN.out).symm HN.out.symm, b1⟩
end Go.Proofs.Ytjciligkaamepaa
