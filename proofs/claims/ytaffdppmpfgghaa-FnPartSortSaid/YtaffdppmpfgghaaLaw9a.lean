/- The walk of the law FnPartSort. -/
import Derived.Test.YtaffdppmpfgghaaDraw1
import Derived.Test.YtaffdppmpfgghaaPrtM
import Derived.Test.YtaffdppmpfgghaaLaw1c
import Derived.Lib.QuietBelow
namespace Go.Proofs.Ytaffdppmpfgghaa
open Go.RowKit

set_option maxRecDepth 100000 in
set_option maxHeartbeats 4000000 in
theorem fnPartSort_walk (A0 : Option Addr) (n0 c0 : Nat) (z0 : List Int) (w : World) (h0 : RdB w A0 n0 z0) (k0 : WfL .u8 z0) (q0 : n0 ≤ c0) :
    Calls Try.prog 18 #[.slice A0 n0 c0] w fun e w' => e = .returned (.bool true) ∧ Below w.heap.size w w' := by
  by_cases big : n0 ≤ 1048576
  rotate_left
  · go_enter Try.func18, Try.ntmps18
    go_wp2_with fail
    go_ret
    exact ⟨rfl, Below.refl _ _⟩
  go_enter Try.func18, Try.ntmps18
  go_wp2_with fail
  refine (drawSort_any A0 n0 c0 z0 _ h0 (bytes_of k0) big q0).mono ?_
  rintro e w1 ⟨A, n, c, xs, rfl, o1, hn1, hn, hx, b1⟩
  go_wp2_with fail
  refine (implStickSort_any A n c xs _ o1.rd (by omega) o1.nilA).mono ?_
  rintro e w2 ⟨A4, n4, c4, rfl, o4, hn4, b2⟩
  have b3 := below_then b1 b2
  replace o1 := o1.same b2
  go_wp2_with fail
  refine (specStickSort_any A n c xs _ o1.rd (by omega)).mono ?_
  rintro e w3 ⟨A5, n5, c5, rfl, r5, hn5, b4⟩
  have b5 := below_then b3 b4
  replace o1 := o1.same b4
  replace o4 := o4.same b4
  have hl1 := o1.len
  by_cases hs : bundleB (isort xs) = true
  · rw [doneM_yes hs] at o4 r5
    have hl4 := o4.len
    rw [length_isort, hl1] at hl4
    subst hl4
    have HS := Lib.hid hs
    rw [hs]
    clear hs
    go_wp2_with fail
    refine (sameInts_any A4 A5 n n5 c4 c5 _ _ o4.rd r5 hn4).mono ?_
    rintro e w6 ⟨rfl, b6⟩
    have b7 := below_then b5 b6
    replace o1 := o1.same b6
    replace o4 := o4.same b6
    clear r5
    have hm := mstP_le (cloQ (isort xs)) (isort xs).length
    rw [length_isort, hl1] at hm
    have hmb := mostB_yes HS.out
    rw [length_isort, hl1] at hmb
    have HMB := Lib.hid hmb
    obtain ⟨z, ez⟩ : ∃ z, z = mstP (cloQ (isort xs)) n := ⟨_, rfl⟩
    rw [← ez] at hm HMB
    have v1 : IntKind.i64.wrap (3 * z) = 3 * z := wrap_is rfl (by omega) (by omega)
    clear ez hmb
    go_wp2_with fail
    refine (implPartMost_any A4 n c4 (isort xs) _ o4.rd (by omega)).mono ?_
    rw [HMB.out, HS.out]
    rintro e w7 ⟨rfl, b8⟩
    have b9 := below_then b7 b8
    have d1 : decide (3 * z ≤ (n : Int)) = true := decide_eq_true (by omega)
    have d2 : decide (0 ≤ z) = true := decide_eq_true (by omega)
    go_wp2_with fail
    go_ret
    exact ⟨rfl, b9⟩
  · rw [Bool.not_eq_true] at hs
    rw [doneM_no hs] at o4 r5
    rw [hs]
    clear hs
    go_wp2_with fail
    refine (sameInts_any A4 A5 n4 n5 c4 c5 _ _ o4.rd r5 hn4).mono ?_
    rintro e w6 ⟨rfl, b6⟩
    have b7 := below_then b5 b6
    go_wp2_with fail
    refine (sameInts_any A4 A5 n4 n5 c4 c5 _ _ (o4.same b6).rd (r5.same b6) hn4).mono ?_
    rintro e w7 ⟨rfl, b8⟩
    go_wp2_with fail
    go_ret
    exact ⟨rfl, below_then b7 b8⟩
end Go.Proofs.Ytaffdppmpfgghaa
