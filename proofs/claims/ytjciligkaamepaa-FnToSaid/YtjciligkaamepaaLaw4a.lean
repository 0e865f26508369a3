/- The walks of the laws FnReach, FnStep, FnChainClose, FnHold. -/
import Derived.Test.YtjciligkaamepaaDraw4
import Derived.Test.YtjciligkaamepaaChain3
import Derived.Test.YtjciligkaamepaaPut
namespace Go.Proofs.Ytjciligkaamepaa
open Go.RowKit

set_option maxRecDepth 100000 in
set_option maxHeartbeats 4000000 in
theorem fnReach_walk (A0 : Option Addr) (n0 c0 : Nat) (z0 : List Int) (w : World) (h0 : RdB w A0 n0 z0) (k0 : WfL .u8 z0) (q0 : n0 ≤ c0) :
    Calls Try.prog 3 #[.slice A0 n0 c0] w fun e w' => e = .returned (.bool true) ∧ Below w.heap.size w w' := by
  by_cases big : n0 ≤ 1048576
  rotate_left
  · go_enter Try.func3, Try.ntmps3
    go_wp2_with fail
    go_ret
    exact ⟨rfl, Below.refl _ _⟩
  go_enter Try.func3, Try.ntmps3
  go_wp2_with fail
  refine (drawChainReach_any A0 n0 c0 z0 _ h0 (bytes_of k0) big q0).mono ?_
  rintro e w1 ⟨A, n, c, xs, rfl, o1, hn, hx, b1⟩
  have hI := fun W (h : Rd W A n xs) => implChainReach_any A n c xs W h (by omega)
  have hS := fun W (h : Rd W A n xs) => specChainReach_any A n c xs W h (by omega)
  by_cases hs : bundleB xs = true
  · have hb := bundleB_true hs
    have hbd := low_bd hb
    have hP := fun W (h : Rd W A n xs) => implChainStep_any A n c xs W h (by omega)
    have hT1 := fun W (h : Rd W A n xs) => implChainTo_any A n c xs (lowL xs) W h (by omega)
    have hT2 := fun W (h : Rd W A n xs) => implChainTo_any A n c xs (sumL xs) W h (by omega)
    have hT3 := fun W (h : Rd W A n xs) => implChainTo_any A n c xs (sumL xs + 1) W h (by omega)
    have hT4 := fun W (h : Rd W A n xs) => implChainTo_any A n c xs (lowL xs - 1) W h (by omega)
    rw [chTo_yes hs, show toB xs (lowL xs) = true by rw [toB_iff]; omega] at hT1
    rw [chTo_yes hs, show toB xs (sumL xs) = true by rw [toB_iff]; omega] at hT2
    rw [chTo_yes hs, show toB xs (sumL xs + 1) = false by rw [Bool.eq_false_iff, Ne, toB_iff]; omega] at hT3
    rw [chTo_yes hs, show toB xs (lowL xs - 1) = false by rw [Bool.eq_false_iff, Ne, toB_iff]; omega] at hT4
    rw [lowM_yes hs, sumM_yes hs, hs] at hI hS hP
    generalize lowL xs = l at *
    generalize sumL xs = s at *
    have v1 : IntKind.i64.wrap (s + 1) = s + 1 := wrap_is rfl (by omega) (by omega)
    have v2 : IntKind.i64.wrap (l - 1) = l - 1 := wrap_is rfl (by omega) (by omega)
    clear hs hb hx
    by_cases h0 : l = 0
    · have d0 : (l == 0) = true := by simpa using h0
      clear h0 hbd
      go_wp2_with fail
      refine (hI _ o1.rd).mono ?_
      rintro e w2 ⟨rfl, b2⟩
      have b3 := below_then b1 b2
      replace o1 := o1.same b2
      go_wp2_with fail
      refine (hS _ o1.rd).mono ?_
      rintro e w3 ⟨rfl, b4⟩
      have b5 := below_then b3 b4
      replace o1 := o1.same b4
      go_wp2_with fail
      refine (hP _ o1.rd).mono ?_
      rintro e w4 ⟨rfl, b6⟩
      have b7 := below_then b5 b6
      replace o1 := o1.same b6
      go_wp2_with fail
      refine (hT1 _ o1.rd).mono ?_
      rintro e w5 ⟨rfl, b8⟩
      have b9 := below_then b7 b8
      replace o1 := o1.same b8
      go_wp2_with fail
      refine (hT2 _ o1.rd).mono ?_
      rintro e w6 ⟨rfl, b10⟩
      have b11 := below_then b9 b10
      replace o1 := o1.same b10
      go_wp2_with fail
      refine (hT3 _ o1.rd).mono ?_
      rintro e w7 ⟨rfl, b12⟩
      have b13 := below_then b11 b12
      go_wp2_with fail
      go_ret
      exact ⟨rfl, b13⟩
    · have d0 : (l == 0) = false := by simpa using h0
      clear h0 hbd
      go_wp2_with fail
      refine (hI _ o1.rd).mono ?_
      rintro e w2 ⟨rfl, b2⟩
      have b3 := below_then b1 b2
      replace o1 := o1.same b2
      go_wp2_with fail
      refine (hS _ o1.rd).mono ?_
      rintro e w3 ⟨rfl, b4⟩
      have b5 := below_then b3 b4
      replace o1 := o1.same b4
      go_wp2_with fail
      refine (hP _ o1.rd).mono ?_
      rintro e w4 ⟨rfl, b6⟩
      have b7 := below_then b5 b6
      replace o1 := o1.same b6
      go_wp2_with fail
      refine (hT1 _ o1.rd).mono ?_
      rintro e w5 ⟨rfl, b8⟩
      have b9 := below_then b7 b8
      replace o1 := o1.same b8
      go_wp2_with fail
      refine (hT2 _ o1.rd).mono ?_
      rintro e w6 ⟨rfl, b10⟩
      have b11 := below_then b9 b10
      replace o1 := o1.same b10
      go_wp2_with fail
      refine (hT3 _ o1.rd).mono ?_
      rintro e w7 ⟨rfl, b12⟩
      have b13 := below_then b11 b12
      replace o1 := o1.same b12
      go_wp2_with fail
      refine (hT4 _ o1.rd).mono ?_
      rintro e w8 ⟨rfl, b14⟩
      have b15 := below_then b13 b14
      go_wp2_with fail
      go_ret
      exact ⟨rfl, b15⟩
  · rw [Bool.not_eq_true] at hs
    rw [lowM_no hs, sumM_no hs, hs] at hI hS
    clear hs
    go_wp2_with fail
    refine (hI _ o1.rd).mono ?_
    rintro e w2 ⟨rfl, b2⟩
    have b3 := below_then b1 b2
    replace o1 := o1.same b2
    go_wp2_with fail
    refine (hS _ o1.rd).mono ?_
    rintro e w3 ⟨rfl, b4⟩
    go_wp2_with fail
    go_ret
    exact ⟨rfl, below_then b3 b4⟩

set_option maxRecDepth 100000 in
set_option maxHeartbeats 4000000 in
theorem fnStep_walk (A0 : Option Addr) (n0 c0 : Nat) (z0 : List Int) (w : World) (h0 : RdB w A0 n0 z0) (k0 : WfL .u8 z0) (q0 : n0 ≤ c0) :
    Calls Try.prog 4 #[.slice A0 n0 c0] w fun e w' => e = .returned (.bool true) ∧ Below w.heap.size w w' := by
  by_cases big : n0 ≤ 1048576
  rotate_left
  · go_enter Try.func4, Try.ntmps4
    go_wp2_with fail
    go_ret
    exact ⟨rfl, Below.refl _ _⟩
  go_enter Try.func4, Try.ntmps4
  go_wp2_with fail
  refine (drawChainStep_any A0 n0 c0 z0 _ h0 (bytes_of k0) big q0).mono ?_
  rintro e w1 ⟨A, n, c, xs, rfl, o1, hn, hx, b1⟩
  have hI := fun W (h : Rd W A n xs) => implChainStep_any A n c xs W h (by omega)
  have hS := fun W (h : Rd W A n xs) => specChainStep_any A n c xs W h (by omega)
  by_cases hs : bundleB xs = true
  · have hb := bundleB_true hs
    have hg := gap_bd hb
    have hla := last_in hb
    have hgb : -60 ≤ gapL xs ∧ gapL xs ≤ 540 := by unfold gapL; omega
    have hq := low_gap2 xs
    have hU := fun W (h : Rd W A n xs) => implStickSum_any A n c xs W h (by omega)
    have hG := fun W (h : Rd W A n xs) => implPolyGap_any A n c xs W h (by omega)
    rw [lowM_yes hs, sumM_yes hs, hs] at hI hS
    rw [sumM_yes hs, hs] at hU
    rw [gpM_yes hs, hs] at hG
    generalize lowL xs = l at *
    generalize sumL xs = s at *
    generalize gapL xs = g at *
    have v1 : IntKind.i64.wrap (0 - g) = -g := wrap_is (by omega) (by omega) (by omega)
    have v2 : IntKind.i64.wrap (-g) = -g := wrap_is rfl (by omega) (by omega)
    rcases hq with ⟨q1, q2⟩ | ⟨q1, q2⟩
    · have d1 : (l == 0) = false := by simp; omega
      have d2 : decide (g ≥ 0) = false := by simp; omega
      have d3 : (l == -g) = true := by simpa using q2
      have d4 : (l == 0 - g) = true := by simp; omega
      clear hs hb hg hla hgb hx q1 q2
      go_wp2_with fail
      refine (hI _ o1.rd).mono ?_
      rintro e w2 ⟨rfl, b2⟩
      have b3 := below_then b1 b2
      replace o1 := o1.same b2
      go_wp2_with fail
      refine (hS _ o1.rd).mono ?_
      rintro e w3 ⟨rfl, b4⟩
      have b5 := below_then b3 b4
      replace o1 := o1.same b4
      go_wp2_with fail
      refine (hU _ o1.rd).mono ?_
      rintro e w4 ⟨rfl, b6⟩
      have b7 := below_then b5 b6
      replace o1 := o1.same b6
      go_wp2_with fail
      refine (hG _ o1.rd).mono ?_
      rintro e w5 ⟨rfl, b8⟩
      go_wp2_with fail
      go_ret
      exact ⟨rfl, below_then b7 b8⟩
    · have d1 : (l == 0) = true := by simpa using q2
      have d2 : decide (g ≥ 0) = true := by simp; omega
      clear hs hb hg hla hgb hx q1 q2
      go_wp2_with fail
      refine (hI _ o1.rd).mono ?_
      rintro e w2 ⟨rfl, b2⟩
      have b3 := below_then b1 b2
      replace o1 := o1.same b2
      go_wp2_with fail
      refine (hS _ o1.rd).mono ?_
      rintro e w3 ⟨rfl, b4⟩
      have b5 := below_then b3 b4
      replace o1 := o1.same b4
      go_wp2_with fail
      refine (hU _ o1.rd).mono ?_
      rintro e w4 ⟨rfl, b6⟩
      have b7 := below_then b5 b6
      replace o1 := o1.same b6
      go_wp2_with fail
      refine (hG _ o1.rd).mono ?_
      rintro e w5 ⟨rfl, b8⟩
      go_wp2_with fail
      go_ret
      exact ⟨rfl, below_then b7 b8⟩
  · rw [Bool.not_eq_true] at hs
    rw [lowM_no hs, sumM_no hs, hs] at hI hS
    clear hs
    go_wp2_with fail
    refine (hI _ o1.rd).mono ?_
    rintro e w2 ⟨rfl, b2⟩
    have b3 := below_then b1 b2
    replace o1 := o1.same b2
    go_wp2_with fail
    refine (hS _ o1.rd).mono ?_
    rintro e w3 ⟨rfl, b4⟩
    go_wp2_with fail
    go_ret
    exact ⟨rfl, below_then b3 b4⟩

theorem chTo_parts {xs : List Int} {d : Int} (h : chTo xs d = true) : bundleB xs = true ∧ toB xs d = true := by
  unfold chTo at h
  simpa using h
theorem chTo_putM {xs : List Int} {x d : Int} (hB : bundleB xs = true) (hp : putB xs x = true) (h : toB (isort (xs ++ [x])) d = true) : chTo (putM xs x) d = true := by
  rw [putM_yes hp, chTo_yes (by rw [← putB_of hB]; exact hp), h]

set_option maxRecDepth 100000 in
set_option maxHeartbeats 4000000 in
theorem fnChainClose_walk (A0 : Option Addr) (n0 c0 : Nat) (z0 : List Int) (w : World) (h0 : RdB w A0 n0 z0) (k0 : WfL .u8 z0) (q0 : n0 ≤ c0) :
    Calls Try.prog 8 #[.slice A0 n0 c0] w fun e w' => e = .returned (.bool true) ∧ Below w.heap.size w w' := by
  by_cases big : n0 ≤ 1048576
  rotate_left
  · go_enter Try.func8, Try.ntmps8
    go_wp2_with fail
    go_ret
    exact ⟨rfl, Below.refl _ _⟩
  go_enter Try.func8, Try.ntmps8
  go_wp2_with fail
  refine (drawChainClose_any A0 n0 c0 z0 _ h0 (bytes_of k0) big q0).mono ?_
  rintro e w1 ⟨A, n, c, xs, rfl, o1, hn, hx, b1⟩
  have hI := fun W (h : Rd W A n xs) => implChainClose_any A n c xs W h (by omega)
  have hS := fun W (h : Rd W A n xs) => specChainClose_any A n c xs W h (by omega)
  by_cases hs : chTo xs 0 = true
  · obtain ⟨hB, hT⟩ := chTo_parts hs
    have hl := (toB_iff.1 hT).1
    have hq := low_gap2 xs
    have hh := hold_is xs
    have hG := fun W (h : Rd W A n xs) => implPolyGap_any A n c xs W h (by omega)
    have hH := fun W (h : Rd W A n xs) => implChainHold_any A n c xs W h (by omega)
    rw [gpM_yes hB, hB] at hG
    rw [hldM_yes hB, hB, show holdL xs = 1 by omega] at hH
    have hg0 : 0 ≤ gapL xs := by omega
    generalize gapL xs = g at *
    have d1 : decide (g ≥ 0) = true := by simpa using hg0
    rw [hs] at hI hS
    clear hs hB hT hl hq hh hg0 hx
    go_wp2_with fail
    refine (hI _ o1.rd).mono ?_
    rintro e w2 ⟨rfl, b2⟩
    have b3 := below_then b1 b2
    replace o1 := o1.same b2
    go_wp2_with fail
    refine (hS _ o1.rd).mono ?_
    rintro e w3 ⟨rfl, b4⟩
    have b5 := below_then b3 b4
    replace o1 := o1.same b4
    go_wp2_with fail
    refine (hG _ o1.rd).mono ?_
    rintro e w4 ⟨rfl, b6⟩
    have b7 := below_then b5 b6
    replace o1 := o1.same b6
    go_wp2_with fail
    refine (hH _ o1.rd).mono ?_
    rintro e w5 ⟨rfl, b8⟩
    go_wp2_with fail
    go_ret
    exact ⟨rfl, below_then b7 b8⟩
  · rw [Bool.not_eq_true] at hs
    rw [hs] at hI hS
    clear hs
    go_wp2_with fail
    refine (hI _ o1.rd).mono ?_
    rintro e w2 ⟨rfl, b2⟩
    have b3 := below_then b1 b2
    replace o1 := o1.same b2
    go_wp2_with fail
    refine (hS _ o1.rd).mono ?_
    rintro e w3 ⟨rfl, b4⟩
    go_wp2_with fail
    go_ret
    exact ⟨rfl, below_then b3 b4⟩

set_option maxRecDepth 100000 in
set_option maxHeartbeats 4000000 in
theorem fnHold_walk (A0 : Option Addr) (n0 c0 : Nat) (z0 : List Int) (w : World) (h0 : RdB w A0 n0 z0) (k0 : WfL .u8 z0) (q0 : n0 ≤ c0) :
    Calls Try.prog 9 #[.slice A0 n0 c0] w fun e w' => e = .returned (.bool true) ∧ Below w.heap.size w w' := by
  by_cases big : n0 ≤ 1048576
  rotate_left
  · go_enter Try.func9, Try.ntmps9
    go_wp2_with fail
    go_ret
    exact ⟨rfl, Below.refl _ _⟩
  go_enter Try.func9, Try.ntmps9
  go_wp2_with fail
  refine (drawChainHold_any A0 n0 c0 z0 _ h0 (bytes_of k0) big q0).mono ?_
  rintro e w1 ⟨A, n, c, xs, rfl, o1, hn, hx, b1⟩
  have hI := fun W (h : Rd W A n xs) => implChainHold_any A n c xs W h (by omega)
  have hS := fun W (h : Rd W A n xs) => specChainHold_any A n c xs W h (by omega)
  by_cases hs : bundleB xs = true
  · have hb := bundleB_true hs
    have hh := hold_bd hb
    have hU := fun W (h : Rd W A n xs) => implStickPut_any A n c xs (holdL xs) W h (by omega) o1.nilA
    have hT := fun W (h : Rd W A n xs) => implChainTo_any A n c xs (holdL xs) W h (by omega)
    have hC : putB xs (holdL xs) = true → chTo (putM xs (holdL xs)) 0 = true := fun hp => chTo_putM hs hp hh.2.2.2
    rw [hldM_yes hs, hs] at hI hS
    rw [chTo_yes hs, hh.2.2.1] at hT
    generalize holdL xs = f at *
    have HC := Lib.hid hC
    clear hs hb hh hC hx
    go_wp2_with fail
    refine (hI _ o1.rd).mono ?_
    rintro e w2 ⟨rfl, b2⟩
    have b3 := below_then b1 b2
    replace o1 := o1.same b2
    go_wp2_with fail
    refine (hS _ o1.rd).mono ?_
    rintro e w3 ⟨rfl, b4⟩
    have b5 := below_then b3 b4
    replace o1 := o1.same b4
    go_wp2_with fail
    refine (hU _ o1.rd).mono ?_
    rintro e w4 ⟨A4, n4, c4, rfl, o4, hn4, b6⟩
    have b7 := below_then b5 b6
    replace o1 := o1.same b6
    cases hp : putB xs f with
    | true =>
      have HP := Lib.hid (HC.out hp)
      clear hp hI hS hU
      go_wp2_with fail
      refine (implChainClose_any A4 n4 c4 _ _ o4.rd hn4).mono ?_
      rw [HP.out]
      rintro e w6 ⟨rfl, b10⟩
      replace o1 := o1.same b10
      go_wp2_with fail
      refine (hT _ o1.rd).mono ?_
      rintro e w7 ⟨rfl, b11⟩
      go_wp2_with fail
      go_ret
      exact ⟨rfl, below_then (below_then b7 b10) b11⟩
    | false =>
      clear hp hI hS hU
      go_wp2_with fail
      refine (hT _ o1.rd).mono ?_
      rintro e w7 ⟨rfl, b11⟩
      go_wp2_with fail
      go_ret
      exact ⟨rfl, below_then b7 b11⟩
  · rw [Bool.not_eq_true] at hs
    rw [hldM_no hs, hs] at hI hS
    clear hs
    go_wp2_with fail
    refine (hI _ o1.rd).mono ?_
    rintro e w2 ⟨rfl, b2⟩
    have b3 := below_then b1 b2
    replace o1 := o1.same b2
    go_wp2_with fail
    refine (hS _ o1.rd).mono ?_
    rintro e w3 ⟨rfl, b4⟩
    go_wp2_with fail
    go_ret
    exact ⟨rfl, below_then b3 b4⟩
end Go.Proofs.Ytjciligkaamepaa
