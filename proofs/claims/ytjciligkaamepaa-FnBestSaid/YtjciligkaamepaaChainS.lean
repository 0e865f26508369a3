/- Reaches of chains, of the model. -/
import Derived.Test.YtjciligkaamepaaChainQ
import Derived.Test.YtjciligkaamepaaPoly2
namespace Go.Proofs.Ytjciligkaamepaa
open Go.RowKit Go.Sort

theorem ret_ii2 {a b c d : Int} (h : a = b) (k : c = d) : Ending.returned (.tuple #[.int .i64 a, .int .i64 c]) = .returned (.tuple #[.int .i64 b, .int .i64 d]) := by subst h k; rfl
theorem ret_iib {a b c d : Int} {x y : Bool} (h : a = b) (k : c = d) (l : x = y) : Ending.returned (.tuple #[.int .i64 a, .int .i64 c, .bool x]) = .returned (.tuple #[.int .i64 b, .int .i64 d, .bool y]) := by subst h k l; rfl
theorem sumM_yes {xs : List Int} (h : bundleB xs = true) : sumM xs = sumL xs := by unfold sumM; rw [if_pos h]
theorem sumM_no {xs : List Int} (h : bundleB xs = false) : sumM xs = 0 := by unfold sumM; rw [h]; rfl
theorem bundle_n {w : World} {A : Option Addr} {n : Nat} {xs : List Int} (h : Rd w A n xs) (hb : Bundle xs) : 1 ≤ n ∧ n ≤ 9 := by
  have h1 := hb.1
  have h2 := hb.2.1
  rw [h.1] at h1 h2
  exact ⟨h1, h2⟩

set_option maxHeartbeats 1000000 in
theorem l4Reach_any (A : Option Addr) (n c : Nat) (xs : List Int) (w : World) (h : Rd w A n xs) (hb : Bundle xs) :
    Calls Try.prog 48 #[.slice A n c] w fun e w' => e = .returned (.tuple #[.int .i64 (lowL xs), .int .i64 (sumL xs)]) ∧ Below w.heap.size w w' := by
  have hn := bundle_n h hb
  have hS := fun w1 (h : Rd w1 A n xs) => specSum_any A n c xs w1 h (by omega) (bundle_small hb)
  have hbd := low_bd hb
  have hx := last_in hb
  have hl := low_is xs
  have hS0 := hS w h
  obtain ⟨b, off, m, rfl, rfl, hbl, hc⟩ := last_cell h hn.1
  obtain ⟨x, ex⟩ : ∃ x, x = xs.getD (xs.length - 1) 0 := ⟨_, rfl⟩
  rw [← ex] at hc hx hl
  generalize sumL xs = s at *
  generalize lowL xs = l at *
  have e1 : ((m + 1 : Nat) : Int) - 1 = (m : Int) := by omega
  have v1 : IntKind.i64.wrap (m : Int) = (m : Int) := wrap_is rfl (by omega) (by omega)
  have v2 : IntKind.i64.wrap (2 * x) = 2 * x := wrap_is rfl (by omega) (by omega)
  have v3 : IntKind.i64.wrap (2 * x - s) = 2 * x - s := wrap_is rfl (by omega) (by omega)
  have v4 : (m : Int) < ((m + 1 : Nat) : Int) := by omega
  have v5 : (m : Int) < (m : Int) + 1 := by omega
  rcases hl with ⟨q1, q2⟩ | ⟨q1, q2⟩
  all_goals
    have HQ := Lib.hid q2
    clear hbd hx hS h q2 ex
    go_enter Try.func48, Try.ntmps48
    go_wp2_with fail
    refine hS0.mono ?_
    rintro e w1 ⟨rfl, b1⟩
    have cx : w1.cell? ⟨b, off + m, none⟩ = some (.int .i64 x) := (b1.cell (p := ⟨b, off + m, none⟩) hbl).trans hc
    go_wp2_with fail
    go_ret2
    exact ⟨ret_ii2 HQ.out.symm rfl, b1⟩

set_option maxHeartbeats 1000000 in
theorem l4To_any (A : Option Addr) (n c : Nat) (xs : List Int) (d : Int) (w : World) (h : Rd w A n xs) (hb : Bundle xs) :
    Calls Try.prog 55 #[.slice A n c, .int .i64 d] w fun e w' => e = .returned (.bool (toB xs d)) ∧ Below w.heap.size w w' := by
  have hR := l4Reach_any A n c xs w h hb
  unfold toB
  generalize sumL xs = s at *
  generalize lowL xs = l at *
  clear hb h
  by_cases h1 : l ≤ d
  · go_enter Try.func55, Try.ntmps55
    go_wp2_with fail
    refine hR.mono ?_
    rintro e w1 ⟨rfl, b1⟩
    go_wp2_with fail
    go_ret
    exact ⟨by simp [h1], b1⟩
  · go_enter Try.func55, Try.ntmps55
    go_wp2_with fail
    refine hR.mono ?_
    rintro e w1 ⟨rfl, b1⟩
    go_wp2_with fail
    go_ret
    exact ⟨by simp; omega, b1⟩

theorem specChainReach_any (A : Option Addr) (n c : Nat) (xs : List Int) (w : World) (h : Rd w A n xs) (hn : n ≤ 1048576) :
    Calls Try.prog 20 #[.slice A n c] w fun e w' => e = .returned (.tuple #[.int .i64 (lowM xs), .int .i64 (sumM xs), .bool (bundleB xs)]) ∧ Below w.heap.size w w' := by
  by_cases hb : bundleB xs = true
  · have HB := Lib.hid hb
    clear hb
    go_enter Try.func20, Try.ntmps20
    go_wp2_with fail
    refine (l1Bundle_any _ _ _ xs _ h hn).mono ?_
    rintro e w1 ⟨rfl, b1⟩
    rw [HB.out]
    go_wp2_with fail
    refine (l4Reach_any _ _ _ xs _ (h.same b1) (bundleB_true HB.out)).mono ?_
    rintro e w2 ⟨rfl, b2⟩
    go_wp2_with fail
    go_ret3
    exact ⟨ret_iib (lowM_yes HB.out).symm (sumM_yes HB.out).symm HB.out.symm, below_then b1 b2⟩
  · rw [Bool.not_eq_true] at hb
    have HB := Lib.hid hb
    clear hb
    go_enter Try.func20, Try.ntmps20
    go_wp2_with fail
    refine (l1Bundle_any _ _ _ xs _ h hn).mono ?_
    rintro e w1 ⟨rfl, b1⟩
    rw [HB.out]
    go_wp2_with fail
    go_ret3
    exact ⟨ret_iib (lowM_no HB.out).symm (sumM_no HB.out).symm HB.out.symm, b1⟩

theorem specChainTo_any (A : Option Addr) (n c : Nat) (xs : List Int) (d : Int) (w : World) (h : Rd w A n xs) (hn : n ≤ 1048576) :
    Calls Try.prog 28 #[.slice A n c, .int .i64 d] w fun e w' => e = .returned (.bool (chTo xs d)) ∧ Below w.heap.size w w' := by
  by_cases hb : bundleB xs = true
  · have HB := Lib.hid hb
    clear hb
    by_cases hd : 0 ≤ d
    · go_enter Try.func28, Try.ntmps28
      go_wp2_with fail
      refine (l1Bundle_any _ _ _ xs _ h hn).mono ?_
      rintro e w1 ⟨rfl, b1⟩
      rw [HB.out]
      go_wp2_with fail
      refine (l4To_any _ _ _ xs d _ (h.same b1) (bundleB_true HB.out)).mono ?_
      rintro e w2 ⟨rfl, b2⟩
      go_wp2_with fail
      go_ret
      exact ⟨ret_b (chTo_yes HB.out d).symm, below_then b1 b2⟩
    · go_enter Try.func28, Try.ntmps28
      go_wp2_with fail
      refine (l1Bundle_any _ _ _ xs _ h hn).mono ?_
      rintro e w1 ⟨rfl, b1⟩
      rw [HB.out]
      go_wp2_with fail
      go_ret
      exact ⟨ret_b (chTo_neg (by omega)).symm, b1⟩
  · rw [Bool.not_eq_true] at hb
    have HB := Lib.hid hb
    clear hb
    go_enter Try.func28, Try.ntmps28
    go_wp2_with fail
    refine (l1Bundle_any _ _ _ xs _ h hn).mono ?_
    rintro e w1 ⟨rfl, b1⟩
    rw [HB.out]
    go_wp2_with fail
    go_ret
    exact ⟨ret_b (chTo_no HB.out d).symm, b1⟩

theorem specChainClose_any (A : Option Addr) (n c : Nat) (xs : List Int) (w : World) (h : Rd w A n xs) (hn : n ≤ 1048576) :
    Calls Try.prog 36 #[.slice A n c] w fun e w' => e = .returned (.bool (chTo xs 0)) ∧ Below w.heap.size w w' := by
  by_cases hb : bundleB xs = true
  · have HB := Lib.hid hb
    clear hb
    go_enter Try.func36, Try.ntmps36
    go_wp2_with fail
    refine (l1Bundle_any _ _ _ xs _ h hn).mono ?_
    rintro e w1 ⟨rfl, b1⟩
    rw [HB.out]
    go_wp2_with fail
    refine (l4To_any _ _ _ xs 0 _ (h.same b1) (bundleB_true HB.out)).mono ?_
    rintro e w2 ⟨rfl, b2⟩
    go_wp2_with fail
    go_ret
    exact ⟨ret_b (chTo_yes HB.out 0).symm, below_then b1 b2⟩
  · rw [Bool.not_eq_true] at hb
    have HB := Lib.hid hb
    clear hb
    go_enter Try.func36, Try.ntmps36
    go_wp2_with fail
    refine (l1Bundle_any _ _ _ xs _ h hn).mono ?_
    rintro e w1 ⟨rfl, b1⟩
    rw [HB.out]
    go_wp2_with fail
    go_ret
    exact ⟨ret_b (chTo_no HB.out 0).symm, b1⟩

set_option maxHeartbeats 1000000 in
theorem specChainHold_any (A : Option Addr) (n c : Nat) (xs : List Int) (w : World) (h : Rd w A n xs) (hn : n ≤ 1048576) :
    Calls Try.prog 39 #[.slice A n c] w fun e w' => e = .returned (.tuple #[.int .i64 (hldM xs), .bool (bundleB xs)]) ∧ Below w.heap.size w w' := by
  by_cases hb : bundleB xs = true
  · have HB := Lib.hid hb
    have hR := fun w1 (h : Rd w1 A n xs) => l4Reach_any A n c xs w1 h (bundleB_true HB.out)
    have hq := hold_is xs
    rw [← hldM_yes hb] at hq
    generalize lowL xs = l at *
    rcases hq with ⟨q1, q2⟩ | ⟨q1, q2⟩
    all_goals
      have HQ := Lib.hid q2
      clear hb q2
      go_enter Try.func39, Try.ntmps39
      go_wp2_with fail
      refine (l1Bundle_any _ _ _ xs _ h hn).mono ?_
      rintro e w1 ⟨rfl, b1⟩
      rw [HB.out]
      go_wp2_with fail
      refine (hR _ (h.same b1)).mono ?_
      rintro e w2 ⟨rfl, b2⟩
      go_wp2_with fail
      go_ret2
      exact ⟨ret_ibs HQ.out.symm HB.out.symm, below_then b1 b2⟩
  · rw [Bool.not_eq_true] at hb
    have HB := Lib.hid hb
    clear hb
    go_enter Try.func39, Try.ntmps39
    go_wp2_with fail
    refine (l1Bundle_any _ _ _ xs _ h hn).mono ?_
    rintro e w1 ⟨rfl, b1⟩
    rw [HB.out]
    go_wp2_with fail
    go_ret2
    exact ⟨ret_ibs (hldM_no HB.out).symm HB.out.symm, b1⟩

set_option maxHeartbeats 4000000 in
theorem specChainMeet_any (A : Option Addr) (n c : Nat) (xs : List Int) (B : Option Addr) (m k : Nat) (ys : List Int) (d : Int) (w : World) (h : Rd w A n xs) (hn : n ≤ 1048576) (h' : Rd w B m ys) (hm : m ≤ 1048576) :
    Calls Try.prog 32 #[.slice A n c, .slice B m k, .int .i64 d] w fun e w' => e = .returned (.bool (chMeet xs ys d)) ∧ Below w.heap.size w w' := by
  by_cases hb : bundleB xs = true
  · have HB := Lib.hid hb
    by_cases hb' : bundleB ys = true
    · have HB' := Lib.hid hb'
      by_cases hd : inB d 0 1000 = true
      · have HD := Lib.hid hd
        have hdd := inB_true hd
        have q1 := low_bd (bundleB_true hb)
        have q2 := low_bd (bundleB_true hb')
        have hR := fun w1 (h : Rd w1 A n xs) => l4Reach_any A n c xs w1 h (bundleB_true HB.out)
        have hR' := fun w1 (h : Rd w1 B m ys) => l4Reach_any B m k ys w1 h (bundleB_true HB'.out)
        have hq := Lib.hid (chMeet_yes hb hb' hd)
        unfold meetB at hq
        generalize lowL xs = l at *
        generalize lowL ys = l' at *
        generalize sumL xs = s at *
        generalize sumL ys = s' at *
        have v1 : IntKind.i64.wrap (s + s') = s + s' := wrap_is rfl (by omega) (by omega)
        have v2 : IntKind.i64.wrap (s' + d) = s' + d := wrap_is rfl (by omega) (by omega)
        have v3 : IntKind.i64.wrap (s + d) = s + d := wrap_is rfl (by omega) (by omega)
        clear hb hb' hd q1 q2 hdd
        by_cases h1 : d ≤ s + s'
        · by_cases h2 : l ≤ s' + d
          · have HQ := Lib.hid (hq.out.trans (show _ = decide (l' ≤ s + d) by rw [decide_eq_true h1, decide_eq_true h2]; rfl))
            clear hq
            go_enter Try.func32, Try.ntmps32
            go_wp2_with fail
            refine (l1Bundle_any _ _ _ xs _ h hn).mono ?_
            rintro e w1 ⟨rfl, b1⟩
            rw [HB.out]
            go_wp2_with fail
            refine (l1Bundle_any _ _ _ ys _ (h'.same b1) hm).mono ?_
            rintro e w2 ⟨rfl, b2⟩
            rw [HB'.out]
            have b3 := below_then b1 b2
            go_wp2_with fail
            refine (l6In_any _ _ _ _).mono ?_
            rintro e w3 ⟨rfl, rfl⟩
            rw [HD.out]
            go_wp2_with fail
            refine (hR _ (h.same b3)).mono ?_
            rintro e w4 ⟨rfl, b4⟩
            have b5 := below_then b3 b4
            go_wp2_with fail
            refine (hR' _ (h'.same b5)).mono ?_
            rintro e w6 ⟨rfl, b6⟩
            go_wp2_with fail
            go_ret
            exact ⟨ret_b HQ.out.symm, below_then b5 b6⟩
          · have HQ := Lib.hid (hq.out.trans (show _ = false by rw [decide_eq_false h2]; simp))
            clear hq
            go_enter Try.func32, Try.ntmps32
            go_wp2_with fail
            refine (l1Bundle_any _ _ _ xs _ h hn).mono ?_
            rintro e w1 ⟨rfl, b1⟩
            rw [HB.out]
            go_wp2_with fail
            refine (l1Bundle_any _ _ _ ys _ (h'.same b1) hm).mono ?_
            rintro e w2 ⟨rfl, b2⟩
            rw [HB'.out]
            have b3 := below_then b1 b2
            go_wp2_with fail
            refine (l6In_any _ _ _ _).mono ?_
            rintro e w3 ⟨rfl, rfl⟩
            rw [HD.out]
            go_wp2_with fail
            refine (hR _ (h.same b3)).mono ?_
            rintro e w4 ⟨rfl, b4⟩
            have b5 := below_then b3 b4
            go_wp2_with fail
            refine (hR' _ (h'.same b5)).mono ?_
            rintro e w6 ⟨rfl, b6⟩
            go_wp2_with fail
            go_ret
            exact ⟨ret_b HQ.out.symm, below_then b5 b6⟩
        · have HQ := Lib.hid (hq.out.trans (show _ = false by rw [decide_eq_false h1]; simp))
          clear hq
          go_enter Try.func32, Try.ntmps32
          go_wp2_with fail
          refine (l1Bundle_any _ _ _ xs _ h hn).mono ?_
          rintro e w1 ⟨rfl, b1⟩
          rw [HB.out]
          go_wp2_with fail
          refine (l1Bundle_any _ _ _ ys _ (h'.same b1) hm).mono ?_
          rintro e w2 ⟨rfl, b2⟩
          rw [HB'.out]
          have b3 := below_then b1 b2
          go_wp2_with fail
          refine (l6In_any _ _ _ _).mono ?_
          rintro e w3 ⟨rfl, rfl⟩
          rw [HD.out]
          go_wp2_with fail
          refine (hR _ (h.same b3)).mono ?_
          rintro e w4 ⟨rfl, b4⟩
          have b5 := below_then b3 b4
          go_wp2_with fail
          refine (hR' _ (h'.same b5)).mono ?_
          rintro e w6 ⟨rfl, b6⟩
          go_wp2_with fail
          go_ret
          exact ⟨ret_b HQ.out.symm, below_then b5 b6⟩
      · rw [Bool.not_eq_true] at hd
        have HD := Lib.hid hd
        have HQ := Lib.hid (chMeet_no3 (xs := xs) (ys := ys) hd)
        clear hb hb' hd
        go_enter Try.func32, Try.ntmps32
        go_wp2_with fail
        refine (l1Bundle_any _ _ _ xs _ h hn).mono ?_
        rintro e w1 ⟨rfl, b1⟩
        rw [HB.out]
        go_wp2_with fail
        refine (l1Bundle_any _ _ _ ys _ (h'.same b1) hm).mono ?_
        rintro e w2 ⟨rfl, b2⟩
        rw [HB'.out]
        go_wp2_with fail
        refine (l6In_any _ _ _ _).mono ?_
        rintro e w3 ⟨rfl, rfl⟩
        rw [HD.out]
        go_wp2_with fail
        go_ret
        exact ⟨ret_b HQ.out.symm, below_then b1 b2⟩
    · rw [Bool.not_eq_true] at hb'
      have HB' := Lib.hid hb'
      have HQ := Lib.hid (chMeet_no2 (xs := xs) (d := d) hb')
      clear hb hb'
      go_enter Try.func32, Try.ntmps32
      go_wp2_with fail
      refine (l1Bundle_any _ _ _ xs _ h hn).mono ?_
      rintro e w1 ⟨rfl, b1⟩
      rw [HB.out]
      go_wp2_with fail
      refine (l1Bundle_any _ _ _ ys _ (h'.same b1) hm).mono ?_
      rintro e w2 ⟨rfl, b2⟩
      rw [HB'.out]
      go_wp2_with fail
      go_ret
      exact ⟨ret_b HQ.out.symm, below_then b1 b2⟩
  · rw [Bool.not_eq_true] at hb
    have HB := Lib.hid hb
    have HQ := Lib.hid (chMeet_no1 (ys := ys) (d := d) hb)
    clear hb
    go_enter Try.func32, Try.ntmps32
    go_wp2_with fail
    refine (l1Bundle_any _ _ _ xs _ h hn).mono ?_
    rintro e w1 ⟨rfl, b1⟩
    rw [HB.out]
    go_wp2_with fail
    go_ret
    exact ⟨ret_b HQ.out.symm, b1⟩

theorem step_cases (xs : List Int) (k : Nat) : ∃ x s l v, x = xs.getD k 0 ∧ s = sumTo xs k ∧ l = stepTo xs k ∧ sumTo xs (k + 1) = s + x ∧ stepTo xs (k + 1) = v ∧
    ((l - x < x - s ∧ 0 < x - s ∧ v = x - s) ∨ (l - x < x - s ∧ x - s ≤ 0 ∧ v = 0) ∨ (x - s ≤ l - x ∧ 0 < l - x ∧ v = l - x) ∨ (x - s ≤ l - x ∧ l - x ≤ 0 ∧ v = 0)) := by
  refine ⟨_, _, _, _, rfl, rfl, rfl, rfl, rfl, ?_⟩
  rw [stepTo]
  omega

set_option maxHeartbeats 4000000 in
theorem specChainStep_any (A : Option Addr) (n c : Nat) (xs : List Int) (w : World) (h : Rd w A n xs) (hn : n ≤ 1048576) :
    Calls Try.prog 24 #[.slice A n c] w fun e w' => e = .returned (.tuple #[.int .i64 (lowM xs), .int .i64 (sumM xs), .bool (bundleB xs)]) ∧ Below w.heap.size w w' := by
  by_cases hb : bundleB xs = true
  · have HB := Lib.hid hb
    have HL := Lib.hid h.1
    have hB := bundleB_true hb
    have hE1 := Lib.hid (step_all hB)
    clear hb
    go_enter Try.func24, Try.ntmps24
    go_wp2_with fail
    refine (l1Bundle_any _ _ _ xs _ h hn).mono ?_
    rintro e w1 ⟨rfl, b1⟩
    rw [HB.out]
    go_wp2_with fail
    go_loopw [5, 6, 7, 8] (fun lo hi i _ wr => ∃ k : Nat, k ≤ n ∧ lo = .int .i64 (stepTo xs k) ∧ hi = .int .i64 (sumTo xs k) ∧ i = .int .i64 k ∧ Below w.heap.size w wr) (fun _ _ i _ _ => n - (intOf i).toNat)
    case atStart => exact ⟨0, Nat.zero_le _, rfl, rfl, rfl, b1⟩
    case round =>
      obtain ⟨k, hk, rfl, rfl, rfl, hbw⟩ := hrel
      by_cases hlt : k < n
      · obtain ⟨b, off, rfl, hbl, hc⟩ := h.2 (by omega)
        have hcx : wr.cell? ⟨b, off + k, none⟩ = some (.int .i64 (xs.getD k 0)) := (hbw.cell (p := ⟨b, off + k, none⟩) hbl).trans (hc k hlt)
        have hx := hB.2.2.1 k (by rw [HL.out]; exact hlt)
        have hl := stepTo_bd hB k (by rw [HL.out]; exact hk)
        have hs := sumTo_in hB k (by rw [HL.out]; exact hk)
        have hn9 := (bundle_n h hB).2
        obtain ⟨x, s, l, v, ex, es, el, e1, e2, hcs⟩ := step_cases xs k
        rw [← ex] at hcx hx
        rw [← el] at hl
        rw [← es] at hs
        have v1 : IntKind.i64.wrap (l - x) = l - x := wrap_is rfl (by omega) (by omega)
        have v2 : IntKind.i64.wrap (x - s) = x - s := wrap_is rfl (by omega) (by omega)
        have v3 : IntKind.i64.wrap (s + x) = s + x := wrap_is rfl (by omega) (by omega)
        have E1 := Lib.hid e1
        have E2 := Lib.hid e2
        rw [← el, ← es]
        clear hc h b1 ex es el e1 e2 hx hs hl
        rcases hcs with ⟨q1, q2, q3⟩ | ⟨q1, q2, q3⟩ | ⟨q1, q2, q3⟩ | ⟨q1, q2, q3⟩
        all_goals
          have HQ := Lib.hid q3
          clear q3
          go_wp2_with fail
          go_region
          go_wp2_with fail
          go_roundw
          case rel => first | exact ⟨k + 1, by omega, by rw [E2.out, HQ.out], by rw [E1.out], by go_num, by first | exact hbw | exact hbw.drew⟩ | ((repeat apply Exists.intro); exact ⟨⟨k + 1, by omega, by rw [E2.out, HQ.out], by rw [E1.out], by go_num, by first | exact hbw | exact hbw.drew⟩, rfl⟩)
          case measure => simp [intOf]; omega
      · obtain rfl : k = n := by omega
        have e1 : stepTo xs k = lowL xs := by rw [← hE1.out, HL.out]
        have e2 : sumTo xs k = sumL xs := by unfold sumL; rw [HL.out]
        rw [e1, e2]
        clear h e1 e2
        go_wp2_with fail
        go_ret3
        exact ⟨ret_iib (lowM_yes HB.out).symm (sumM_yes HB.out).symm HB.out.symm, hbw⟩
  · rw [Bool.not_eq_true] at hb
    have HB := Lib.hid hb
    clear hb
    go_enter Try.func24, Try.ntmps24
    go_wp2_with fail
    refine (l1Bundle_any _ _ _ xs _ h hn).mono ?_
    rintro e w1 ⟨rfl, b1⟩
    rw [HB.out]
    go_wp2_with fail
    go_ret3
    exact ⟨ret_iib (lowM_no HB.out).symm (sumM_no HB.out).symm HB.out.symm, b1⟩

set_option maxHeartbeats 4000000 in
theorem specChainBest_any (A : Option Addr) (n c : Nat) (xs : List Int) (d : Int) (w : World) (h : Rd w A n xs) (hn : n ≤ 1048576) (hc : n ≤ c) :
    Calls Try.prog 42 #[.slice A n c, .int .i64 d] w fun e w' => e = .returned (.tuple #[.int .i64 (bstM xs d), .bool (bstB xs d)]) ∧ Below w.heap.size w w' := by
  by_cases hb : bundleB xs = true
  · have HB := Lib.hid hb
    by_cases hd : inB d 0 1000 = true
    · have HD := Lib.hid hd
      have HL := Lib.hid h.1
      have hB := bundleB_true hb
      clear hb hd
      go_enter Try.func42, Try.ntmps42
      go_wp2_with fail
      refine (l1Bundle_any _ _ _ xs _ h hn).mono ?_
      rintro e w1 ⟨rfl, b1⟩
      rw [HB.out]
      go_wp2_with fail
      refine (l6In_any _ _ _ _).mono ?_
      rintro e w2 ⟨rfl, rfl⟩
      rw [HD.out]
      go_wp2_with fail
      go_loopw [6] (fun i wr => ∃ k : Nat, k ≤ n ∧ i = .int .i64 k ∧ bestTo xs d k = bestL xs d ∧ Below w.heap.size w wr) (fun i _ => (intOf i).toNat)
      case atStart => exact ⟨n, Nat.le_refl _, rfl, by unfold bestL; rw [HL.out], b1⟩
      case round =>
        obtain ⟨k, hk, rfl, hw, hbw⟩ := hrel
        have HK := Lib.hid hw
        clear hw
        by_cases h1 : 1 ≤ k
        · obtain ⟨b, off, rfl, _, _⟩ := h.2 (by omega)
          have ht := Lib.hid ((h.same hbw).take hk)
          have hC : ∀ c', Calls Try.prog 55 #[.slice (some ⟨b, off, none⟩) k c', .int .i64 d] wr fun e w' => e = .returned (.bool (toB (xs.take k) d)) ∧ Below wr.heap.size wr w' := fun c' => l4To_any _ k c' _ d _ ht.out (bundle_take hB h1 (by rw [HL.out]; exact hk))
          have d1 : decide ((k : Int) > 0) = true := by simp; omega
          cases hcl : toB (xs.take k) d with
          | true =>
            have HE := Lib.hid (bestTo_yes h1 hcl)
            rw [hcl] at hC
            clear h
            go_wp2_with fail
            refine (hC _).mono ?_
            rintro e w2 ⟨rfl, b2⟩
            have hq : bestL xs d = k := by rw [← HK.out, HE.out]
            have hY := bstB_yes HB.out HD.out (by omega : 1 ≤ bestL xs d)
            have HY := Lib.hid hY
            have HZ := Lib.hid (show (k : Int) = bstM xs d by rw [bstM_yes hY, hq])
            clear hq hY
            go_wp2_with fail
            go_ret2
            exact ⟨ret_ibs HZ.out HY.out.symm, below_then hbw b2⟩
          | false =>
            have HE := Lib.hid (bestTo_no h1 hcl)
            rw [hcl] at hC
            clear h
            go_wp2_with fail
            refine (hC _).mono ?_
            rintro e w2 ⟨rfl, b2⟩
            go_wp2_with fail
            go_roundw
            case rel => exact ⟨k - 1, by omega, by go_num, by rw [← HE.out, HK.out], below_then hbw b2⟩
            case measure => simp [intOf]; omega
        · obtain rfl : k = 0 := by omega
          have HN := Lib.hid (bstB_none (show bestL xs d = 0 from HK.out.symm))
          have d1 : decide (((0 : Nat) : Int) > 0) = false := by simp
          clear h
          go_wp2_with fail
          go_ret2
          exact ⟨ret_ibs (bstM_no HN.out).symm HN.out.symm, hbw⟩
    · rw [Bool.not_eq_true] at hd
      have HD := Lib.hid hd
      have HN := Lib.hid (bstB_no2 (xs := xs) hd)
      clear hb hd
      go_enter Try.func42, Try.ntmps42
      go_wp2_with fail
      refine (l1Bundle_any _ _ _ xs _ h hn).mono ?_
      rintro e w1 ⟨rfl, b1⟩
      rw [HB.out]
      go_wp2_with fail
      refine (l6In_any _ _ _ _).mono ?_
      rintro e w2 ⟨rfl, rfl⟩
      rw [HD.out]
      go_wp2_with fail
      go_ret2
      exact ⟨ret_ibs (bstM_no HN.out).symm HN.out.symm, b1⟩
  · rw [Bool.not_eq_true] at hb
    have HB := Lib.hid hb
    have HN := Lib.hid (bstB_no1 (d := d) hb)
    clear hb
    go_enter Try.func42, Try.ntmps42
    go_wp2_with fail
    refine (l1Bundle_any _ _ _ xs _ h hn).mono ?_
    rintro e w1 ⟨rfl, b1⟩
    rw [HB.out]
    go_wp2_with fail
    go_ret2
    exact ⟨ret_ibs (bstM_no HN.out).symm HN.out.symm, b1⟩
end Go.Proofs.Ytjciligkaamepaa
