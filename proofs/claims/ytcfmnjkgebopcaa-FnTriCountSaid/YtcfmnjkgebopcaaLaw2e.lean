/- The walk of the law FnTriCount. -/
import Derived.Test.YtcfmnjkgebopcaaLaw2a
import Derived.Test.YtcfmnjkgebopcaaLists
namespace Go.Proofs.Ytcfmnjkgebopcaa
open Go.RowKit Go.Sort

set_option maxRecDepth 100000 in
set_option maxHeartbeats 4000000 in
theorem fnTriCount_walk (A0 : Option Addr) (n0 c0 : Nat) (z0 : List Int) (w : World) (h0 : RdB w A0 n0 z0) (k0 : WfL .u8 z0) (q0 : n0 ≤ c0) :
    Calls Try.prog 13 #[.slice A0 n0 c0] w fun e w' => e = .returned (.bool true) ∧ Below w.heap.size w w' := by
  by_cases big : n0 ≤ 1048576
  rotate_left
  · go_enter Try.func13, Try.ntmps13
    go_wp2_with fail
    go_ret
    exact ⟨rfl, Below.refl _ _⟩
  go_enter Try.func13, Try.ntmps13
  go_wp2_with fail
  refine (drawTriCount_any A0 n0 c0 z0 _ h0 (bytes_of k0) big q0).mono ?_
  rintro e w1 ⟨p, rfl, hp1, hp2, b1⟩
  go_wp2_with fail
  refine (implTriCount_any p _).mono ?_
  rintro e w2 ⟨rfl, b2⟩
  have b3 := below_then b1 b2
  go_wp2_with fail
  refine (specTriCount_any p _).mono ?_
  rintro e w3 ⟨rfl, b4⟩
  have b5 := below_then b3 b4
  by_cases hs : inB p 1 60 = true
  · have hb := inB_true hs
    have hE := len_allP hb.1 hb.2
    have hR := fun W => implTriRound_any p W
    have hA := fun W => implTriAll_any p W
    simp only [triAllM_yes hs] at hA
    generalize allP p = L at hE hA
    generalize hm : L.length = m at hE hA
    rw [← hE, hs] at hR
    rw [hs] at hA
    rw [← hE, hs]
    clear hE hs hm
    go_wp2_with fail
    refine (hR _).mono ?_
    rintro e w4 ⟨rfl, b6⟩
    go_wp2_with fail
    refine (hA _).mono ?_
    rintro e w5 ⟨A, c, rfl, ho, b7⟩
    clear ho hA hR
    go_wp2_with fail
    go_ret
    exact ⟨rfl, below_then (below_then b5 b6) b7⟩
  · rw [Bool.not_eq_true] at hs
    rw [hs]
    obtain ⟨r, hr⟩ : ∃ r, r = rndM p := ⟨_, rfl⟩
    rw [← hr]
    clear hr hs
    go_wp2_with fail
    go_ret
    exact ⟨rfl, b5⟩
end Go.Proofs.Ytcfmnjkgebopcaa
