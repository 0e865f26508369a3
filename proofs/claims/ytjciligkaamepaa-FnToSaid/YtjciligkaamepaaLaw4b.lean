/- The walk of the law FnTo. -/
import Derived.Test.YtjciligkaamepaaLaw4a
namespace Go.Proofs.Ytjciligkaamepaa
open Go.RowKit

set_option maxRecDepth 100000 in
set_option maxHeartbeats 4000000 in
theorem fnTo_walk (A0 : Option Addr) (n0 c0 : Nat) (z0 : List Int) (w : World) (h0 : RdB w A0 n0 z0) (k0 : WfL .u8 z0) (q0 : n0 ≤ c0) :
    Calls Try.prog 5 #[.slice A0 n0 c0] w fun e w' => e = .returned (.bool true) ∧ Below w.heap.size w w' := by
  by_cases big : n0 ≤ 1048576
  rotate_left
  · go_enter Try.func5, Try.ntmps5
    go_wp2_with fail
    go_ret
    exact ⟨rfl, Below.refl _ _⟩
  go_enter Try.func5, Try.ntmps5
  go_wp2_with fail
  refine (drawChainTo_any A0 n0 c0 z0 _ h0 (bytes_of k0) big q0).mono ?_
  rintro e w1 ⟨A, n, c, xs, d, rfl, o1, hn, hx, hd1, hd2, b1⟩
  have hI := fun W (h : Rd W A n xs) => implChainTo_any A n c xs d W h (by omega)
  have hS := fun W (h : Rd W A n xs) => specChainTo_any A n c xs d W h (by omega)
  by_cases hs : chTo xs d = true
  · obtain ⟨hB, hT⟩ := chTo_parts hs
    have hb := bundleB_true hB
    have hd0 : 0 ≤ d := by have := (toB_iff.1 hT).1; have := (low_bd hb).1; omega
    have hto := to_put hb hd0 hT
    have hU := fun W (h : Rd W A n xs) => implStickPut_any A n c xs 3 W h (by omega) o1.nilA
    have hC1 : putB xs 3 = true → chTo (putM xs 3) (d + 3) = true := fun hp => chTo_putM hB hp hto.1
    have hC2 : putB xs 3 = true → chTo (putM xs 3) (max (d - 3) (3 - d)) = true := fun hp => chTo_putM hB hp hto.2
    obtain ⟨p, ep⟩ : ∃ p, d - 3 = p := ⟨_, rfl⟩
    obtain ⟨q, eq⟩ : ∃ q, 3 - d = q := ⟨_, rfl⟩
    obtain ⟨r, er⟩ : ∃ r, d + 3 = r := ⟨_, rfl⟩
    rw [er] at hC1
    rw [ep, eq] at hC2
    have v1 : IntKind.i64.wrap (d - 3) = p := wrap_is ep (by omega) (by omega)
    have v2 : IntKind.i64.wrap (3 - d) = q := wrap_is eq (by omega) (by omega)
    have v3 : IntKind.i64.wrap (d + 3) = r := wrap_is er (by omega) (by omega)
    rw [hs] at hI hS
    have H1 := Lib.hid hC1
    have H2 := Lib.hid hC2
    clear hs hB hT hb hd0 hto hC1 hC2 ep eq er hd1 hd2 hx
    go_wp2_with fail
    refine (hI _ o1.rd).mono ?_
    rintro e w2 ⟨rfl, b2⟩
    have b3 := below_then b1 b2
    replace o1 := o1.same b2
    go_wp2_with fail
    refine (hS _ o1.rd).mono ?_
    rintro e w3 ⟨rfl, b4⟩
    have b5 := below_then b3 b4
    replace o1 := o1.same b4
    go_wp2_with fail
    refine (hU _ o1.rd).mono ?_
    rintro e w4 ⟨A4, n4, c4, rfl, o4, hn4, b6⟩
    have b7 := below_then b5 b6
    cases hp : putB xs 3 with
    | true =>
      have HC1 := Lib.hid (H1.out hp)
      have HC2 := Lib.hid (H2.out hp)
      clear hp hI hS hU
      have hT1 := fun W (h : Rd W A4 n4 (putM xs 3)) => implChainTo_any A4 n4 c4 _ r W h hn4
      have hT2 := fun W (h : Rd W A4 n4 (putM xs 3)) => implChainTo_any A4 n4 c4 _ (max p q) W h hn4
      rw [HC1.out] at hT1
      rw [HC2.out] at hT2
      go_wp2_with fail
      refine (hT1 _ o4.rd).mono ?_
      rintro e w6 ⟨rfl, b10⟩
      replace o4 := o4.same b10
      go_wp2_with fail
      refine (hT2 _ o4.rd).mono ?_
      rintro e w7 ⟨rfl, b11⟩
      go_wp2_with fail
      go_ret
      exact ⟨rfl, below_then (below_then b7 b10) b11⟩
    | false =>
      clear hp hI hS hU
      go_wp2_with fail
      go_ret
      exact ⟨rfl, b7⟩
  · rw [Bool.not_eq_true] at hs
    rw [hs] at hI hS
    clear hs hd1 hd2
    go_wp2_with fail
    refine (hI _ o1.rd).mono ?_
    rintro e w2 ⟨rfl, b2⟩
    have b3 := below_then b1 b2
    replace o1 := o1.same b2
    go_wp2_with fail
    refine (hS _ o1.rd).mono ?_
    rintro e w3 ⟨rfl, b4⟩
    go_wp2_with fail
    go_ret
    exact ⟨rfl, below_then b3 b4⟩
end Go.Proofs.Ytjciligkaamepaa
