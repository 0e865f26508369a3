/- The walk of the law FnPolyFirst. -/
import Derived.Test.YtliplbifgldjeaaDraw3
import Derived.Test.YtliplbifgldjeaaTryC
import Derived.Test.YtliplbifgldjeaaFirst
import Derived.Test.YtliplbifgldjeaaLaw1c
namespace Go.Proofs.Ytliplbifgldjeaa
open Go.RowKit

set_option maxRecDepth 100000 in
set_option maxHeartbeats 4000000 in
theorem fnPolyFirst_walk (A0 : Option Addr) (n0 c0 : Nat) (z0 : List Int) (w : World) (h0 : RdB w A0 n0 z0) (k0 : WfL .u8 z0) (q0 : n0 ≤ c0) :
    Calls Try.prog 7 #[.slice A0 n0 c0] w fun e w' => e = .returned (.bool true) ∧ Below w.heap.size w w' := by
  by_cases big : n0 ≤ 1048576
  rotate_left
  · go_enter Try.func7, Try.ntmps7
    go_wp2_with fail
    go_ret
    exact ⟨rfl, Below.refl _ _⟩
  go_enter Try.func7, Try.ntmps7
  go_wp2_with fail
  refine (drawPolyFirst_any A0 n0 c0 z0 _ h0 (bytes_of k0) big q0).mono ?_
  rintro e w1 ⟨u, v, rfl, hu1, hu2, hv1, hv2, b1⟩
  have hI := fun W => implPolyFirst_any u v W
  have hT := fun W => specPolyFirst_any u v W
  by_cases hs : fstB u v = true
  · have hm : mayB u v = true := by unfold fstB at hs; simp only [Bool.and_eq_true] at hs; exact hs.1
    obtain ⟨N, P, rfl, rfl, h3, h4, h5, h6⟩ := mayB_true hm
    have hC := fun W => implPolyCount_any N P W
    obtain ⟨r, hr⟩ : ∃ r, polF N P = some r := by
      unfold fstB polB at hs
      rw [Int.toNat_natCast, Int.toNat_natCast] at hs
      simp only [Bool.and_eq_true] at hs
      exact Option.isSome_iff_exists.1 hs.2
    obtain ⟨f1, f2, f3, f4, f5⟩ := first_is h3 h4 h6 hr
    have hfm := (fst_yes hm hr).2
    have hpc : pcB r = true := by rw [pcB_yes (bundleB_mk f4)]; exact f3
    have hsm := small_of_bundle f4
    rw [hs, hfm] at hI hT
    rw [rstM_yes hm, hm] at hC
    generalize polN N P = k at *
    have d1 : (1 : Int) ≤ (k : Int) := by omega
    have HPC := Lib.hid hpc
    have HF1 := Lib.hid f1
    have HF2 := Lib.hid f2
    clear hs hm hr f3 f4 hfm hpc f1 f2
    go_wp2_with fail
    refine (hI _).mono ?_
    rintro e w2 ⟨A4, n4, c4, rfl, o4, hn4, b2⟩
    have b3 := below_then b1 b2
    go_wp2_with fail
    refine (hT _).mono ?_
    rintro e w3 ⟨A5, n5, c5, rfl, r5, hn5, b4⟩
    have b5 := below_then b3 b4
    replace o4 := o4.same b4
    have hl4 : n4 = N := by rw [← o4.len]; exact HF1.out
    subst hl4
    go_wp2_with fail
    refine (sameInts_any A4 A5 n4 n5 c4 c5 _ _ o4.rd r5 hn4).mono ?_
    rintro e w6 ⟨rfl, b6⟩
    have b7 := below_then b5 b6
    replace o4 := o4.same b6
    clear r5
    go_wp2_with fail
    refine (hC _).mono ?_
    rintro e w7 ⟨rfl, b8⟩
    have b9 := below_then b7 b8
    replace o4 := o4.same b8
    go_wp2_with fail
    refine (implPolyCloses_any A4 n4 c4 _ _ o4.rd hn4).mono ?_
    rw [HPC.out]
    rintro e w8 ⟨rfl, b10⟩
    have b11 := below_then b9 b10
    replace o4 := o4.same b10
    go_wp2_with fail
    refine (total_any A4 n4 c4 _ _ o4.rd hn4 hsm).mono ?_
    rw [HF2.out]
    rintro e w9 ⟨rfl, b12⟩
    go_wp2_with fail
    go_ret
    exact ⟨ret_b (by first | rfl | simp), below_then b11 b12⟩
  · rw [Bool.not_eq_true] at hs
    have hfm : fstM u v = [] := by unfold fstM; rw [hs]; rfl
    rw [hfm, hs] at hI hT
    clear hs hfm
    go_wp2_with fail
    refine (hI _).mono ?_
    rintro e w2 ⟨A4, n4, c4, rfl, o4, hn4, b2⟩
    have b3 := below_then b1 b2
    go_wp2_with fail
    refine (hT _).mono ?_
    rintro e w3 ⟨A5, n5, c5, rfl, r5, hn5, b4⟩
    have b5 := below_then b3 b4
    replace o4 := o4.same b4
    go_wp2_with fail
    refine (sameInts_any A4 A5 n4 n5 c4 c5 _ _ o4.rd r5 hn4).mono ?_
    rintro e w6 ⟨rfl, b6⟩
    go_wp2_with fail
    refine (sameInts_any A4 A5 n4 n5 c4 c5 _ _ (o4.same b6).rd (r5.same b6) hn4).mono ?_
    rintro e w7 ⟨rfl, b7⟩
    go_wp2_with fail
    go_ret
    exact ⟨rfl, below_then (below_then b5 b6) b7⟩
end Go.Proofs.Ytliplbifgldjeaa
