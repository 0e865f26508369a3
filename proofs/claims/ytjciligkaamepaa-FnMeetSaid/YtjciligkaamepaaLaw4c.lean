/- The walks of the laws FnMeet, FnMeetAll. -/
import Derived.Test.YtjciligkaamepaaDraw4
import Derived.Test.YtjciligkaamepaaChain3
namespace Go.Proofs.Ytjciligkaamepaa
open Go.RowKit Go.Sort

theorem own_last4 {w : World} {B n c : Nat} {A : Option Addr} {xs : List Int} (h : Own w B A n c xs) (h1 : 1 ≤ n) : ∃ g m, n = m + 1 ∧ A = some ⟨g, 0, none⟩ ∧ w.cell? ⟨g, m, none⟩ = some (.int .i64 (xs.getD (xs.length - 1) 0)) := by
  obtain ⟨g, rfl, _, _⟩ := h.form (by omega)
  refine ⟨g, n - 1, by omega, rfl, ?_⟩
  rw [h.len]
  exact h.cell (n - 1) (by omega)
theorem chMeet_far {xs : List Int} (hb : Bundle xs) : chMeet xs xs (2 * sumL xs + 1) = false := by
  unfold chMeet
  rw [(meet_self hb).2.2.2]
  simp

set_option maxRecDepth 100000 in
set_option maxHeartbeats 4000000 in
theorem fnMeet_walk (A0 : Option Addr) (n0 c0 : Nat) (z0 : List Int) (w : World) (h0 : RdB w A0 n0 z0) (k0 : WfL .u8 z0) (q0 : n0 ≤ c0) :
    Calls Try.prog 6 #[.slice A0 n0 c0] w fun e w' => e = .returned (.bool true) ∧ Below w.heap.size w w' := by
  by_cases big : n0 ≤ 1048576
  rotate_left
  · go_enter Try.func6, Try.ntmps6
    go_wp2_with fail
    go_ret
    exact ⟨rfl, Below.refl _ _⟩
  go_enter Try.func6, Try.ntmps6
  go_wp2_with fail
  refine (drawChainMeet_any A0 n0 c0 z0 _ h0 (bytes_of k0) big q0).mono ?_
  rintro e w1 ⟨A, n, c, xs, B, m, k, ys, d, rfl, o1, hn, hx, o2, hm, hy, hd1, hd2, b1⟩
  have hI := fun W (h : Rd W A n xs) (h' : Rd W B m ys) => implChainMeet_any A n c xs B m k ys d W h (by omega) h' (by omega)
  have hS := fun W (h : Rd W A n xs) (h' : Rd W B m ys) => specChainMeet_any A n c xs B m k ys d W h (by omega) h' (by omega)
  by_cases hs : chMeet xs ys d = true
  · obtain ⟨hB, hB', hD, hM⟩ := chMeet_parts hs
    have hb := bundleB_true hB
    have hb' := bundleB_true hB'
    have hr := meet_ring hM
    have hC := fun W (h : Rd W A n xs) (h' : Rd W B m ys) => implChainMeet_any B m k ys A n c xs d W h' (by omega) h (by omega)
    have hT1 := fun W (h : Rd W A n xs) => total_any A n c xs W h (by omega) (bundle_small hb)
    have hT2 := fun W (h : Rd W B m ys) => total_any B m k ys W h (by omega) (bundle_small hb')
    rw [chMeet_comm ys xs, hs] at hC
    rw [hs] at hI hS
    have hla := last_in hb
    have hlb := last_in hb'
    have hlo1 := low_bd hb
    have hlo2 := low_bd hb'
    have hn1 : 1 ≤ n := by have := hb.1; have := o1.len; omega
    have hm1 : 1 ≤ m := by have := hb'.1; have := o2.len; omega
    obtain ⟨x, ex⟩ : ∃ x, x = xs.getD (xs.length - 1) 0 := ⟨_, rfl⟩
    obtain ⟨y, ey⟩ : ∃ y, y = ys.getD (ys.length - 1) 0 := ⟨_, rfl⟩
    rw [← ex, ← ey] at hr
    rw [← ex] at hla
    rw [← ey] at hlb
    have EX := Lib.hid ex
    have EY := Lib.hid ey
    generalize sumL xs = s at *
    generalize sumL ys = t at *
    have v1 : IntKind.i64.wrap (s + t) = s + t := wrap_is rfl (by omega) (by omega)
    have v2 : IntKind.i64.wrap (s + t + d) = s + t + d := wrap_is rfl (by omega) (by omega)
    have v9 : IntKind.i64.wrap (2 * max d (max x y)) = 2 * max d (max x y) := wrap_is rfl (by omega) (by omega)
    have d1 : decide (2 * max d (max x y) ≤ s + t + d) = true := decide_eq_true hr
    clear hs hB hB' hD hM hb hb' hr hla hlb hlo1 hlo2 ex ey hx hy
    go_wp2_with fail
    refine (hI _ o1.rd o2.rd).mono ?_
    rintro e w2 ⟨rfl, b2⟩
    have b3 := below_then b1 b2
    replace o1 := o1.same b2
    replace o2 := o2.same b2
    go_wp2_with fail
    refine (hS _ o1.rd o2.rd).mono ?_
    rintro e w3 ⟨rfl, b4⟩
    have b5 := below_then b3 b4
    replace o1 := o1.same b4
    replace o2 := o2.same b4
    go_wp2_with fail
    refine (hT1 _ o1.rd).mono ?_
    rintro e w4 ⟨rfl, b6⟩
    have b7 := below_then b5 b6
    replace o1 := o1.same b6
    replace o2 := o2.same b6
    go_wp2_with fail
    refine (hT2 _ o2.rd).mono ?_
    rintro e w5 ⟨rfl, b8⟩
    have b9 := below_then b7 b8
    replace o1 := o1.same b8
    replace o2 := o2.same b8
    go_wp2_with fail
    obtain ⟨ga, na, rfl, rfl, cx⟩ := own_last4 o1 hn1
    obtain ⟨gb, nb, rfl, rfl, cy⟩ := own_last4 o2 hm1
    rw [← EX.out] at cx
    rw [← EY.out] at cy
    have c1 : ∀ d os, (grow (redrawn w5 d) os).cell? ⟨ga, na, none⟩ = some (.int .i64 x) := fun d os => cell_regrown cx d os
    have c2 : ∀ d os, (grow (redrawn w5 d) os).cell? ⟨gb, nb, none⟩ = some (.int .i64 y) := fun d os => cell_regrown cy d os
    have e1 : ((na + 1 : Nat) : Int) - 1 = (na : Int) := by omega
    have e2 : ((nb + 1 : Nat) : Int) - 1 = (nb : Int) := by omega
    have e3 : (na : Int) + 1 - 1 = (na : Int) := by omega
    have e4 : (nb : Int) + 1 - 1 = (nb : Int) := by omega
    have v3 : IntKind.i64.wrap (na : Int) = (na : Int) := wrap_is rfl (by omega) (by omega)
    have v4 : IntKind.i64.wrap (nb : Int) = (nb : Int) := wrap_is rfl (by omega) (by omega)
    have v5 : (na : Int) < ((na + 1 : Nat) : Int) := by omega
    have v6 : (nb : Int) < ((nb + 1 : Nat) : Int) := by omega
    have v7 : (na : Int) < (na : Int) + 1 := by omega
    have v8 : (nb : Int) < (nb : Int) + 1 := by omega
    have hra := o1.rd
    have hrb := o2.rd
    clear hI hS hT1 hT2 o1 o2 cx cy hn1 hm1
    refine wp_region_quiet_below (by kernel_rfl) (by kernel_rfl) ?_
    repeat (go_big_quiet_step (fail))
    refine wpQuiet_nil ?_
    intro _ hw'
    obtain ⟨⟨dq, osq⟩, hw''⟩ := hw'
    subst hw''
    have bq := below_regrown w5 dq osq
    generalize Go.Sort.grow (redrawn w5 dq) osq = wq at bq ⊢
    go_wp2_with fail
    refine (hC _ (hra.same bq) (hrb.same bq)).mono ?_
    rintro e w6 ⟨rfl, b10⟩
    go_wp2_with fail
    go_ret
    exact ⟨rfl, below_then (below_then b9 bq) b10⟩
  · rw [Bool.not_eq_true] at hs
    rw [hs] at hI hS
    clear hs
    go_wp2_with fail
    refine (hI _ o1.rd o2.rd).mono ?_
    rintro e w2 ⟨rfl, b2⟩
    have b3 := below_then b1 b2
    replace o1 := o1.same b2
    replace o2 := o2.same b2
    go_wp2_with fail
    refine (hS _ o1.rd o2.rd).mono ?_
    rintro e w3 ⟨rfl, b4⟩
    go_wp2_with fail
    go_ret
    exact ⟨rfl, below_then b3 b4⟩

set_option maxRecDepth 100000 in
set_option maxHeartbeats 4000000 in
theorem fnMeetAll_walk (A0 : Option Addr) (n0 c0 : Nat) (z0 : List Int) (w : World) (h0 : RdB w A0 n0 z0) (k0 : WfL .u8 z0) (q0 : n0 ≤ c0) :
    Calls Try.prog 7 #[.slice A0 n0 c0] w fun e w' => e = .returned (.bool true) ∧ Below w.heap.size w w' := by
  by_cases big : n0 ≤ 1048576
  rotate_left
  · go_enter Try.func7, Try.ntmps7
    go_wp2_with fail
    go_ret
    exact ⟨rfl, Below.refl _ _⟩
  go_enter Try.func7, Try.ntmps7
  go_wp2_with fail
  refine (drawChainReach_any A0 n0 c0 z0 _ h0 (bytes_of k0) big q0).mono ?_
  rintro e w1 ⟨A, n, c, xs, rfl, o1, hn, hx, b1⟩
  have hI := fun W (h : Rd W A n xs) => implChainReach_any A n c xs W h (by omega)
  have hS := fun W (h : Rd W A n xs) => specChainReach_any A n c xs W h (by omega)
  by_cases hs : bundleB xs = true
  · have hb := bundleB_true hs
    have hbd := low_bd hb
    have hla := last_in hb
    have hT := fun W (h : Rd W A n xs) => total_any A n c xs W h (by omega) (bundle_small hb)
    have hM := fun d W (h : Rd W A n xs) => implChainMeet_any A n c xs A n c xs d W h (by omega) h (by omega)
    obtain ⟨m0, m7, mS, _⟩ := meet_self hb
    have hM0 := hM 0
    have hM7 := hM 7
    have hMS := hM (sumL xs)
    have hMX := hM (2 * sumL xs + 1)
    rw [chMeet_yes hs hs (inB_mk (by omega) (by omega)), m0] at hM0
    rw [chMeet_yes hs hs (inB_mk (by omega) (by omega)), m7] at hM7
    rw [chMeet_yes hs hs (inB_mk (by omega) (by omega)), mS] at hMS
    rw [chMeet_far hb] at hMX
    rw [lowM_yes hs, sumM_yes hs, hs] at hI hS
    have hn1 : 1 ≤ n := by have := hb.1; have := o1.len; omega
    obtain ⟨x, ex⟩ : ∃ x, x = xs.getD (xs.length - 1) 0 := ⟨_, rfl⟩
    rw [← ex] at hla hM7
    have EX := Lib.hid ex
    generalize lowL xs = l at *
    generalize sumL xs = s at *
    have v1 : IntKind.i64.wrap (2 * s) = 2 * s := wrap_is rfl (by omega) (by omega)
    have v2 : IntKind.i64.wrap (2 * s + 7) = 2 * s + 7 := wrap_is rfl (by omega) (by omega)
    have v3 : IntKind.i64.wrap (2 * s + 1) = 2 * s + 1 := wrap_is rfl (by omega) (by omega)
    have v4 : IntKind.i64.wrap (2 * x) = 2 * x := wrap_is rfl (by omega) (by omega)
    have v8 : IntKind.i64.wrap (2 * max 7 x) = 2 * max 7 x := wrap_is rfl (by omega) (by omega)
    clear hs hb hbd hla hM m0 m7 mS ex hx
    go_wp2_with fail
    refine (hI _ o1.rd).mono ?_
    rintro e w2 ⟨rfl, b2⟩
    have b3 := below_then b1 b2
    replace o1 := o1.same b2
    go_wp2_with fail
    refine (hS _ o1.rd).mono ?_
    rintro e w3 ⟨rfl, b4⟩
    have b5 := below_then b3 b4
    replace o1 := o1.same b4
    have hr := o1.rd
    obtain ⟨g, m, rfl, rfl, cx⟩ := own_last4 o1 hn1
    rw [← EX.out] at cx
    have e1 : ((m + 1 : Nat) : Int) - 1 = (m : Int) := by omega
    have v5 : IntKind.i64.wrap (m : Int) = (m : Int) := wrap_is rfl (by omega) (by omega)
    have v6 : (m : Int) < ((m + 1 : Nat) : Int) := by omega
    have v7 : (m : Int) < (m : Int) + 1 := by omega
    clear hI hS hn1 o1
    cases hd : decide (2 * max 7 x ≤ 2 * s + 7)
    all_goals
      rw [hd] at hM7
      go_wp2_with fail
      refine (hT _ hr).mono ?_
      rintro e w4 ⟨rfl, b6⟩
      have b7 := below_then b5 b6
      replace hr := hr.same b6
      go_wp2_with fail
      refine (hM0 _ hr).mono ?_
      rintro e w5 ⟨rfl, b8⟩
      have b9 := below_then b7 b8
      replace hr := hr.same b8
      go_wp2_with fail
      refine (hM7 _ hr).mono ?_
      rintro e w6 ⟨rfl, b10⟩
      have b11 := below_then b9 b10
      replace hr := hr.same b10
      go_wp2_with fail
      refine (hMS _ hr).mono ?_
      rintro e w7 ⟨rfl, b12⟩
      have b13 := below_then b11 b12
      replace hr := hr.same b12
      go_wp2_with fail
      refine (hMX _ hr).mono ?_
      rintro e w8 ⟨rfl, b14⟩
      go_wp2_with fail
      go_ret
      exact ⟨rfl, below_then b13 b14⟩
  · rw [Bool.not_eq_true] at hs
    rw [lowM_no hs, sumM_no hs, hs] at hI hS
    clear hs
    go_wp2_with fail
    refine (hI _ o1.rd).mono ?_
    rintro e w2 ⟨rfl, b2⟩
    have b3 := below_then b1 b2
    replace o1 := o1.same b2
    go_wp2_with fail
    refine (hS _ o1.rd).mono ?_
    rintro e w3 ⟨rfl, b4⟩
    go_wp2_with fail
    go_ret
    exact ⟨rfl, below_then b3 b4⟩
end Go.Proofs.Ytjciligkaamepaa
