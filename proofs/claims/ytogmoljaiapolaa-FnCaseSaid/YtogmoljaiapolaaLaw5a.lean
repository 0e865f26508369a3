/- The walk of the law FnCase. -/
import Derived.Test.YtogmoljaiapolaaDraw5
import Derived.Test.YtogmoljaiapolaaFoldI
namespace Go.Proofs.Ytogmoljaiapolaa
open Go.RowKit

set_option maxRecDepth 100000 in
set_option maxHeartbeats 4000000 in
theorem fnCase_walk (A0 : Option Addr) (n0 c0 : Nat) (z0 : List Int) (w : World) (h0 : RdB w A0 n0 z0) (k0 : WfL .u8 z0) (q0 : n0 ≤ c0) :
    Calls Try.prog 8 #[.slice A0 n0 c0] w fun e w' => e = .returned (.bool true) ∧ Below w.heap.size w w' := by
  by_cases big : n0 ≤ 1048576
  rotate_left
  · go_enter Try.func8, Try.ntmps8
    go_wp2_with fail
    go_ret
    exact ⟨rfl, Below.refl _ _⟩
  go_enter Try.func8, Try.ntmps8
  go_wp2_with fail
  refine (drawFoldCase_any A0 n0 c0 z0 _ h0 (bytes_of k0) big q0).mono ?_
  rintro e w1 ⟨A, n, c, xs, rfl, o1, hn, b1⟩
  have hA := o1.nilA
  have hI := fun W (h : Rd W A n xs) => implFoldCase_any A n c xs W h (by omega) hA
  have hS := fun W (h : Rd W A n xs) => specFoldCase_any A n c xs W h (by omega)
  by_cases hs : rulB xs = true
  · have hsp := span_ruler (rulB_true hs)
    have hT1 := fun W (h : Rd W A n xs) => implFoldFits_any A n c xs (spanL xs) W h (by omega) hA
    have hT2 := fun W (h : Rd W A n xs) => implFoldFits_any A n c xs (spanL xs - 1) W h (by omega) hA
    rw [fitM_yes hs, show decide (spanL xs ≤ spanL xs) = true by simp] at hT1
    rw [fitM_yes hs, show decide (spanL xs ≤ spanL xs - 1) = false by rw [decide_eq_false_iff_not]; omega] at hT2
    rw [spnM_yes hs, hs] at hI hS
    generalize spanL xs = s at *
    have v1 : IntKind.i64.wrap (s - 1) = s - 1 := wrap_is rfl (by omega) (by omega)
    clear hs hA
    go_wp2_with fail
    refine (hI _ o1.rd).mono ?_
    rintro e w2 ⟨rfl, b2⟩
    have b3 := below_then b1 b2
    replace o1 := o1.same b2
    go_wp2_with fail
    refine (hS _ o1.rd).mono ?_
    rintro e w3 ⟨rfl, b4⟩
    have b5 := below_then b3 b4
    replace o1 := o1.same b4
    go_wp2_with fail
    refine (hT1 _ o1.rd).mono ?_
    rintro e w4 ⟨rfl, b6⟩
    have b7 := below_then b5 b6
    replace o1 := o1.same b6
    go_wp2_with fail
    refine (hT2 _ o1.rd).mono ?_
    rintro e w5 ⟨rfl, b8⟩
    go_wp2_with fail
    go_ret
    exact ⟨rfl, below_then b7 b8⟩
  · rw [Bool.not_eq_true] at hs
    rw [spnM_no hs, hs] at hI hS
    clear hs hA
    go_wp2_with fail
    refine (hI _ o1.rd).mono ?_
    rintro e w2 ⟨rfl, b2⟩
    have b3 := below_then b1 b2
    replace o1 := o1.same b2
    go_wp2_with fail
    refine (hS _ o1.rd).mono ?_
    rintro e w3 ⟨rfl, b4⟩
    go_wp2_with fail
    go_ret
    exact ⟨rfl, below_then b3 b4⟩
end Go.Proofs.Ytogmoljaiapolaa
