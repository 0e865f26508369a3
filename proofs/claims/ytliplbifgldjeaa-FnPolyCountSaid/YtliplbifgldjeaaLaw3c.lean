/- The walk of the law FnPolyCount. -/
import Derived.Test.YtliplbifgldjeaaDraw3
import Derived.Test.YtliplbifgldjeaaTryC
import Derived.Test.YtliplbifgldjeaaLst3
import Derived.Test.YtliplbifgldjeaaFill
namespace Go.Proofs.Ytliplbifgldjeaa
open Go.RowKit

theorem rnd_is {p : Int} (h1 : 1 ≤ p) (h2 : p ≤ 60) : rndM p = rnd3 p := by
  unfold rndM rnd3
  rw [if_pos (inB_mk h1 h2)]

set_option maxRecDepth 100000 in
set_option maxHeartbeats 4000000 in
theorem fnPolyCount_walk (A0 : Option Addr) (n0 c0 : Nat) (z0 : List Int) (w : World) (h0 : RdB w A0 n0 z0) (k0 : WfL .u8 z0) (q0 : n0 ≤ c0) :
    Calls Try.prog 5 #[.slice A0 n0 c0] w fun e w' => e = .returned (.bool true) ∧ Below w.heap.size w w' := by
  by_cases big : n0 ≤ 1048576
  rotate_left
  · go_enter Try.func5, Try.ntmps5
    go_wp2_with fail
    go_ret
    exact ⟨rfl, Below.refl _ _⟩
  go_enter Try.func5, Try.ntmps5
  go_wp2_with fail
  refine (drawPolyCount_any A0 n0 c0 z0 _ h0 (bytes_of k0) big q0).mono ?_
  rintro e w1 ⟨u, v, rfl, hu1, hu2, hv1, hv2, b1⟩
  have hI := fun W => implPolyCount_any u v W
  have hT := fun W => specPolyCount_any u v W
  by_cases hs : mayB u v = true
  · obtain ⟨N, P, rfl, rfl, h3, h4, h5, h6⟩ := mayB_true hs
    have hf := (poly_facts h3 h4 h5 h6).2.2.2.2
    have hR := fun W => implPolyRest_any N P W
    have hC := fun W => implTriCount_any P W
    have hin : inB (P : Int) 1 60 = true := inB_mk (by omega) (by omega)
    rw [rstM_yes hs, hs] at hI hT hR
    rw [hin] at hC
    have hr := rnd_is (p := (P : Int)) (by omega) (by omega)
    rw [hr] at hC
    generalize rnd3 (P : Int) = y at *
    generalize polN N P = k at *
    have hcase : (N ≤ 3 ∧ y = (k : Int)) ∨ 3 < N := by
      by_cases h : N = 3
      · exact .inl ⟨by omega, hf h⟩
      · exact .inr (by omega)
    clear hf hr hin hs
    rcases hcase with ⟨c1, c2⟩ | c1
    · subst c2
      go_wp2_with fail
      refine (hI _).mono ?_
      rintro e w2 ⟨rfl, b2⟩
      go_wp2_with fail
      refine (hT _).mono ?_
      rintro e w3 ⟨rfl, b3⟩
      go_wp2_with fail
      refine (hR _).mono ?_
      rintro e w4 ⟨rfl, rfl⟩
      go_wp2_with fail
      refine (hC _).mono ?_
      rintro e w5 ⟨rfl, b5⟩
      go_wp2_with fail
      go_ret
      exact ⟨ret_b (by first | rfl | simp), below_then (below_then (below_then b1 b2) b3) b5⟩
    · have d1 : ((N : Int) != 3) = true := by simp; omega
      go_wp2_with fail
      refine (hI _).mono ?_
      rintro e w2 ⟨rfl, b2⟩
      go_wp2_with fail
      refine (hT _).mono ?_
      rintro e w3 ⟨rfl, b3⟩
      go_wp2_with fail
      refine (hR _).mono ?_
      rintro e w4 ⟨rfl, rfl⟩
      go_wp2_with fail
      refine (hC _).mono ?_
      rintro e w5 ⟨rfl, b5⟩
      go_wp2_with fail
      go_ret
      exact ⟨ret_b (by first | rfl | simp), below_then (below_then (below_then b1 b2) b3) b5⟩
  · rw [Bool.not_eq_true] at hs
    rw [rstM_no hs, hs] at hI hT
    clear hs
    go_wp2_with fail
    refine (hI _).mono ?_
    rintro e w2 ⟨rfl, b2⟩
    go_wp2_with fail
    refine (hT _).mono ?_
    rintro e w3 ⟨rfl, b3⟩
    go_wp2_with fail
    go_ret
    exact ⟨rfl, below_then (below_then b1 b2) b3⟩
end Go.Proofs.Ytliplbifgldjeaa
