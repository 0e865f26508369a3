/- The walks of the laws FnPolyRest, FnPolyShares. -/
import Derived.Test.YtliplbifgldjeaaDraw3
import Derived.Test.YtliplbifgldjeaaShares
namespace Go.Proofs.Ytliplbifgldjeaa
open Go.RowKit

theorem quiet_below {w w' : World} (h : w = w') : Below w.heap.size w w' := h ▸ Below.refl _ _

set_option maxRecDepth 100000 in
set_option maxHeartbeats 4000000 in
theorem fnPolyRest_walk (A0 : Option Addr) (n0 c0 : Nat) (z0 : List Int) (w : World) (h0 : RdB w A0 n0 z0) (k0 : WfL .u8 z0) (q0 : n0 ≤ c0) :
    Calls Try.prog 6 #[.slice A0 n0 c0] w fun e w' => e = .returned (.bool true) ∧ Below w.heap.size w w' := by
  by_cases big : n0 ≤ 1048576
  rotate_left
  · go_enter Try.func6, Try.ntmps6
    go_wp2_with fail
    go_ret
    exact ⟨rfl, Below.refl _ _⟩
  go_enter Try.func6, Try.ntmps6
  go_wp2_with fail
  refine (drawPolyRest_any A0 n0 c0 z0 _ h0 (bytes_of k0) big q0).mono ?_
  rintro e w1 ⟨u, v, rfl, hu1, hu2, hv1, hv2, b1⟩
  have hI := fun W => implPolyRest_any u v W
  have hT := fun W => specPolyRest_any u v W
  by_cases hs : mayB u v = true
  · obtain ⟨N, P, rfl, rfl, h3, h4, h5, h6⟩ := mayB_true hs
    have hf := poly_facts h3 h4 h5 h6
    have hS := fun W => implPolyShares_any N P W
    have hsb : shB N P = true := by unfold shB; rw [inB_mk (by omega) (by omega), inB_mk (by omega) (by omega)]; rfl
    have hsm : shM N P = (shr N P : Nat) := by unfold shM; rw [if_pos hsb]; simp
    rw [rstM_yes hs, hs] at hI hT
    rw [hsm, hsb] at hS
    have q1 := hf.2.2.1
    have q2 := hf.2.2.2.1
    generalize shr N P = s at *
    generalize polN N P = k at *
    have d2 : (k : Int) ≤ (s : Int) := by omega
    clear hf hsb hsm hs
    rcases (show (P < N ∧ k ≤ 0) ∨ (N ≤ P ∧ 3 < N ∧ 0 < k) ∨ (N ≤ P ∧ N ≤ 3 ∧ 4 ≤ P ∧ P ≤ 4 ∧ k ≤ 0) ∨ (N ≤ P ∧ N ≤ 3 ∧ P < 4 ∧ 0 < k) ∨ (N ≤ P ∧ N ≤ 3 ∧ 4 < P ∧ 0 < k) by omega) with ⟨c1, c2⟩ | ⟨c1, c2, c3⟩ | ⟨c1, c2, c3, c4, c5⟩ | ⟨c1, c2, c3, c4⟩ | ⟨c1, c2, c3, c4⟩
    all_goals
      clear q1 q2
      go_wp2_with fail
      refine (hI _).mono ?_
      rintro e w2 ⟨rfl, rfl⟩
      go_wp2_with fail
      refine (hT _).mono ?_
      rintro e w3 ⟨rfl, rfl⟩
      go_wp2_with fail
      refine (hS _).mono ?_
      rintro e w4 ⟨rfl, rfl⟩
      go_wp2_with fail
      go_ret
      exact ⟨ret_b (by first | rfl | (exfalso; omega) | (simp; omega) | (rw [beq_iff_eq, Bool.eq_iff_iff]; simp; omega) | simp), b1⟩
  · rw [Bool.not_eq_true] at hs
    rw [rstM_no hs, hs] at hI hT
    clear hs
    go_wp2_with fail
    refine (hI _).mono ?_
    rintro e w2 ⟨rfl, rfl⟩
    go_wp2_with fail
    refine (hT _).mono ?_
    rintro e w3 ⟨rfl, rfl⟩
    go_wp2_with fail
    go_ret
    exact ⟨rfl, b1⟩

set_option maxRecDepth 100000 in
set_option maxHeartbeats 4000000 in
theorem fnPolyShares_walk (A0 : Option Addr) (n0 c0 : Nat) (z0 : List Int) (w : World) (h0 : RdB w A0 n0 z0) (k0 : WfL .u8 z0) (q0 : n0 ≤ c0) :
    Calls Try.prog 8 #[.slice A0 n0 c0] w fun e w' => e = .returned (.bool true) ∧ Below w.heap.size w w' := by
  by_cases big : n0 ≤ 1048576
  rotate_left
  · go_enter Try.func8, Try.ntmps8
    go_wp2_with fail
    go_ret
    exact ⟨rfl, Below.refl _ _⟩
  go_enter Try.func8, Try.ntmps8
  go_wp2_with fail
  refine (drawPolyShares_any A0 n0 c0 z0 _ h0 (bytes_of k0) big q0).mono ?_
  rintro e w1 ⟨u, v, rfl, hu1, hu2, hv1, hv2, b1⟩
  have hI := fun a b W => implPolyShares_any a b W
  have hT := fun W => specPolyShares_any u v W
  have v1 : IntKind.i64.wrap (u - 1) = u - 1 := wrap_is rfl (by omega) (by omega)
  have v2 : IntKind.i64.wrap (v - 1) = v - 1 := wrap_is rfl (by omega) (by omega)
  have v3 : IntKind.i64.wrap (v - u) = v - u := wrap_is rfl (by omega) (by omega)
  by_cases hs : shB u v = true
  · have hI0 := hI u v
    rw [hs] at hI0 hT
    have hI1 := hI (u - 1) (v - 1)
    have hI2 := hI u (v - u)
    obtain ⟨N, P, e1, e2, h1, h6, h30, hM⟩ := shB_true hs
    by_cases h2 : u < 2
    · have d1 : decide (u < 2) = true := by simpa using h2
      clear hs hI hM h2 e1 e2
      generalize shM u v = s at *
      generalize shM (u - 1) (v - 1) = s1 at *
      generalize shM u (v - u) = s2 at *
      generalize shB (u - 1) (v - 1) = t1 at *
      generalize shB u (v - u) = t2 at *
      go_wp2_with fail
      refine (hI0 _).mono ?_
      rintro e w2 ⟨rfl, rfl⟩
      go_wp2_with fail
      refine (hT _).mono ?_
      rintro e w3 ⟨rfl, rfl⟩
      go_wp2_with fail
      refine (hI1 _).mono ?_
      rintro e w4 ⟨rfl, rfl⟩
      go_wp2_with fail
      refine (hI2 _).mono ?_
      rintro e w5 ⟨rfl, rfl⟩
      go_wp2_with fail
      go_ret
      exact ⟨rfl, b1⟩
    · have d1 : decide (u < 2) = false := by simpa using h2
      by_cases h7 : v < u
      · have d2 : decide (v < u) = true := by simpa using h7
        clear hs hI hM h2 e1 e2 h7
        generalize shM u v = s at *
        generalize shM (u - 1) (v - 1) = s1 at *
        generalize shM u (v - u) = s2 at *
        generalize shB (u - 1) (v - 1) = t1 at *
        generalize shB u (v - u) = t2 at *
        go_wp2_with fail
        refine (hI0 _).mono ?_
        rintro e w2 ⟨rfl, rfl⟩
        go_wp2_with fail
        refine (hT _).mono ?_
        rintro e w3 ⟨rfl, rfl⟩
        go_wp2_with fail
        refine (hI1 _).mono ?_
        rintro e w4 ⟨rfl, rfl⟩
        go_wp2_with fail
        refine (hI2 _).mono ?_
        rintro e w5 ⟨rfl, rfl⟩
        go_wp2_with fail
        go_ret
        exact ⟨rfl, b1⟩
      · have d2 : decide (v < u) = false := by simpa using h7
        have hb1 : shB (u - 1) (v - 1) = true := by unfold shB; rw [inB_mk (by omega) (by omega), inB_mk (by omega) (by omega)]; rfl
        have hb2 : shB u (v - u) = true := by unfold shB; rw [inB_mk (by omega) (by omega), inB_mk (by omega) (by omega)]; rfl
        have m1 : shM (u - 1) (v - 1) = (shr (N - 1) (P - 1) : Nat) := by unfold shM; rw [if_pos hb1, show (u - 1).toNat = N - 1 by omega, show (v - 1).toNat = P - 1 by omega]
        have m2 : shM u (v - u) = (shr N (P - N) : Nat) := by unfold shM; rw [if_pos hb2, show u.toNat = N by omega, show (v - u).toNat = P - N by omega]
        have hst : shr N P = shr (N - 1) (P - 1) + shr N (P - N) := shr_step (by omega) (by omega) h6 h30
        have g1 := shF_big 40 (N - 1) (P - 1) (by omega)
        have g2 := shF_big 40 N (P - N) (by omega)
        rw [show shF 40 (N - 1) (P - 1) = shr (N - 1) (P - 1) from rfl] at g1
        rw [show shF 40 N (P - N) = shr N (P - N) from rfl] at g2
        rw [m1, hb1] at hI1
        rw [m2, hb2] at hI2
        rw [hM] at hI0 hT
        generalize shr N P = s at *
        generalize shr (N - 1) (P - 1) = s1 at *
        generalize shr N (P - N) = s2 at *
        have d3 : ((s : Int) == (s1 : Int) + (s2 : Int)) = true := by simp; omega
        have v4 : IntKind.i64.wrap ((s1 : Int) + (s2 : Int)) = (s1 : Int) + (s2 : Int) := wrap_is rfl (by omega) (by omega)
        clear hs hI hM h2 e1 e2 h7 hb1 hb2 m1 m2 hst
        go_wp2_with fail
        refine (hI0 _).mono ?_
        rintro e w2 ⟨rfl, rfl⟩
        go_wp2_with fail
        refine (hT _).mono ?_
        rintro e w3 ⟨rfl, rfl⟩
        go_wp2_with fail
        refine (hI1 _).mono ?_
        rintro e w4 ⟨rfl, rfl⟩
        go_wp2_with fail
        refine (hI2 _).mono ?_
        rintro e w5 ⟨rfl, rfl⟩
        go_wp2_with fail
        go_ret
        exact ⟨rfl, b1⟩
  · rw [Bool.not_eq_true] at hs
    have hI0 := hI u v
    rw [shM_no hs, hs] at hI0 hT
    clear hs hI
    go_wp2_with fail
    refine (hI0 _).mono ?_
    rintro e w2 ⟨rfl, rfl⟩
    go_wp2_with fail
    refine (hT _).mono ?_
    rintro e w3 ⟨rfl, rfl⟩
    go_wp2_with fail
    go_ret
    exact ⟨rfl, b1⟩
end Go.Proofs.Ytliplbifgldjeaa
