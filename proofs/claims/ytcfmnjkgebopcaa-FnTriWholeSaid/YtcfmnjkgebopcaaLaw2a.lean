/- The walks of the laws FnTriRound, FnTriGrow, FnTriHalf, FnTriSame, FnTriKind, FnTriArea. -/
import Derived.Test.YtcfmnjkgebopcaaDraw2
import Derived.Test.YtcfmnjkgebopcaaLaw2P
import Derived.Test.YtcfmnjkgebopcaaLaw1c
namespace Go.Proofs.Ytcfmnjkgebopcaa
open Go.RowKit Go.Sort

set_option maxRecDepth 100000 in
set_option maxHeartbeats 4000000 in
theorem fnTriRound_walk (A0 : Option Addr) (n0 c0 : Nat) (z0 : List Int) (w : World) (h0 : RdB w A0 n0 z0) (k0 : WfL .u8 z0) (q0 : n0 ≤ c0) :
    Calls Try.prog 14 #[.slice A0 n0 c0] w fun e w' => e = .returned (.bool true) ∧ Below w.heap.size w w' := by
  by_cases big : n0 ≤ 1048576
  rotate_left
  · go_enter Try.func14, Try.ntmps14
    go_wp2_with fail
    go_ret
    exact ⟨rfl, Below.refl _ _⟩
  go_enter Try.func14, Try.ntmps14
  go_wp2_with fail
  refine (drawTriRound_any A0 n0 c0 z0 _ h0 (bytes_of k0) big q0).mono ?_
  rintro e w1 ⟨p, rfl, hp1, hp2, b1⟩
  go_wp2_with fail
  refine (implTriRound_any p _).mono ?_
  rintro e w2 ⟨rfl, b2⟩
  have b3 := below_then b1 b2
  go_wp2_with fail
  refine (specTriRound_any p _).mono ?_
  rintro e w3 ⟨rfl, b4⟩
  have b5 := below_then b3 b4
  by_cases hs : inB p 1 60 = true
  · have hb := inB_true hs
    have HS := Lib.hid hs
    rcases (show p % 2 = 1 ∨ p % 2 = 0 by omega) with h2 | h2
    · have hd : (p % 2 == 1) = true := by simp; omega
      obtain ⟨r, hr⟩ : ∃ r, r = rndM p := ⟨_, rfl⟩
      rw [← hr, hs]
      clear hr hs
      go_wp2_with fail
      refine (implTriRound_any (p - 3) _).mono ?_
      rintro e w4 ⟨rfl, b6⟩
      obtain ⟨q, hq⟩ : ∃ q, q = inB (p - 3) 1 60 := ⟨_, rfl⟩
      rw [← hq]
      clear hq
      go_wp2_with fail
      go_ret
      exact ⟨rfl, below_then b5 b6⟩
    · have hd : (p % 2 == 1) = false := by simp; omega
      by_cases h4 : p < 4
      · obtain ⟨r, hr⟩ : ∃ r, r = rndM p := ⟨_, rfl⟩
        rw [← hr, hs]
        clear hr hs
        go_wp2_with fail
        refine (implTriRound_any (p - 3) _).mono ?_
        rintro e w4 ⟨rfl, b6⟩
        obtain ⟨q, hq⟩ : ∃ q, q = inB (p - 3) 1 60 := ⟨_, rfl⟩
        rw [← hq]
        clear hq
        go_wp2_with fail
        go_ret
        exact ⟨rfl, below_then b5 b6⟩
      · have H3 := Lib.hid (rnd_three hs h2 (by omega))
        obtain ⟨r, hr⟩ : ∃ r, r = rndM p := ⟨_, rfl⟩
        rw [← hr] at H3 ⊢
        rw [hs]
        clear hr hs
        go_wp2_with fail
        refine (implTriRound_any (p - 3) _).mono ?_
        rw [H3.out.1, H3.out.2]
        rintro e w4 ⟨rfl, b6⟩
        go_wp2_with fail
        go_ret
        exact ⟨rfl, below_then b5 b6⟩
  · rw [Bool.not_eq_true] at hs
    rw [rndM_no hs, hs]
    clear hs
    go_wp2_with fail
    go_ret
    exact ⟨rfl, b5⟩

set_option maxRecDepth 100000 in
set_option maxHeartbeats 4000000 in
theorem fnTriGrow_walk (A0 : Option Addr) (n0 c0 : Nat) (z0 : List Int) (w : World) (h0 : RdB w A0 n0 z0) (k0 : WfL .u8 z0) (q0 : n0 ≤ c0) :
    Calls Try.prog 20 #[.slice A0 n0 c0] w fun e w' => e = .returned (.bool true) ∧ Below w.heap.size w w' := by
  by_cases big : n0 ≤ 1048576
  rotate_left
  · go_enter Try.func20, Try.ntmps20
    go_wp2_with fail
    go_ret
    exact ⟨rfl, Below.refl _ _⟩
  go_enter Try.func20, Try.ntmps20
  go_wp2_with fail
  refine (drawTriGrow_any A0 n0 c0 z0 _ h0 (bytes_of k0) big q0).mono ?_
  rintro e w1 ⟨gb, xs, rfl, o1, hx, b1⟩
  go_wp2_with fail
  refine (implTriGrow_any _ 3 3 xs _ o1.rd (by omega)).mono ?_
  rintro e w2 ⟨A4, n4, c4, rfl, o4, hn4, b2⟩
  have b3 := below_then b1 b2
  replace o1 := o1.same b2
  go_wp2_with fail
  refine (specTriGrow_any _ 3 3 xs _ o1.rd (by omega)).mono ?_
  rintro e w3 ⟨A5, n5, c5, rfl, r5, hn5, b4⟩
  have b5 := below_then b3 b4
  replace o1 := o1.same b4
  replace o4 := o4.same b4
  by_cases hs : groB xs = true
  · have hs2 := hs
    unfold groB at hs2
    simp only [Bool.and_eq_true, decide_eq_true_eq] at hs2
    obtain ⟨ht, h60⟩ := hs2
    have hp := (triLB_yes ht).2.2
    rw [groM_yes hs] at o4 r5
    have ht2 : triLB [xs.getD 0 0 + 1, xs.getD 1 0 + 1, xs.getD 2 0 + 1] = true := triLB_mk (by obtain ⟨h1, h2, h3, h4, h5⟩ := hp; exact ⟨by omega, by omega, by omega, by omega, by omega⟩)
    have hA1 := arM_yes ht
    have hA2 := arM_yes ht2
    have hgrow := area_grow hp
    rw [← hA1] at hgrow
    rw [show areaM (xs.getD 0 0 + 1) (xs.getD 1 0 + 1) (xs.getD 2 0 + 1) = arM [xs.getD 0 0 + 1, xs.getD 1 0 + 1, xs.getD 2 0 + 1] from hA2.symm] at hgrow
    have HT := Lib.hid ht
    have HT2 := Lib.hid ht2
    have hsm := bundle_small (bundleB_true (triLB_yes ht).2.1)
    have hsm2 := bundle_small (bundleB_true (triLB_yes ht2).2.1)
    have hS1 := sumL3 (triLB_yes ht).1
    have hS2 := sumL3 (triLB_yes ht2).1
    have hS : sumL [xs.getD 0 0 + 1, xs.getD 1 0 + 1, xs.getD 2 0 + 1] = sumL xs + 3 := by
      rw [hS1, hS2]
      show xs.getD 0 0 + 1 + (xs.getD 1 0 + 1) + (xs.getD 2 0 + 1) = _
      omega
    have hSb : 0 ≤ sumL xs ∧ sumL xs ≤ 180 := by obtain ⟨h1, h2, h3, h4, h5⟩ := hp; omega
    have HSS := Lib.hid hS
    rw [hs]
    clear hs ht ht2 hA1 hA2 hp hS1 hS2 hS
    go_wp2_with fail
    refine (sameInts_any A4 A5 n4 n5 c4 c5 _ _ o4.rd r5 hn4).mono ?_
    rintro e w6 ⟨rfl, b6⟩
    have b7 := below_then b5 b6
    replace o1 := o1.same b6
    replace o4 := o4.same b6
    clear r5
    go_wp2_with fail
    refine (implTriArea_any _ 3 3 xs _ o1.rd (by omega)).mono ?_
    rw [HT.out]
    rintro e w7 ⟨rfl, b8⟩
    have b9 := below_then b7 b8
    replace o1 := o1.same b8
    replace o4 := o4.same b8
    go_wp2_with fail
    refine (implTriArea_any A4 n4 c4 _ _ o4.rd hn4).mono ?_
    rw [HT2.out]
    rintro e w8 ⟨rfl, b10⟩
    have b11 := below_then b9 b10
    replace o1 := o1.same b10
    replace o4 := o4.same b10
    obtain ⟨N, hN⟩ : ∃ N, N = arM xs := ⟨_, rfl⟩
    obtain ⟨M, hM⟩ : ∃ M, M = arM [xs.getD 0 0 + 1, xs.getD 1 0 + 1, xs.getD 2 0 + 1] := ⟨_, rfl⟩
    rw [← hN, ← hM] at hgrow
    rw [← hN, ← hM]
    clear hN hM
    go_wp2_with fail
    refine (total_any A4 n4 c4 _ _ o4.rd hn4 hsm2).mono ?_
    rw [HSS.out]
    rintro e w10 ⟨rfl, b14⟩
    have b15 := below_then b11 b14
    replace o1 := o1.same b14
    go_wp2_with fail
    refine (total_any _ 3 3 _ _ o1.rd (by omega) hsm).mono ?_
    rintro e w11 ⟨rfl, b16⟩
    have b17 := below_then b15 b16
    obtain ⟨S, hS⟩ : ∃ S, S = sumL xs := ⟨_, rfl⟩
    rw [← hS] at hSb ⊢
    clear hS
    go_wp2_with fail
    go_ret
    exact ⟨rfl, b17⟩
  · rw [Bool.not_eq_true] at hs
    rw [groM_no hs] at o4 r5
    rw [hs]
    clear hs
    go_wp2_with fail
    refine (sameInts_any A4 A5 n4 n5 c4 c5 _ _ o4.rd r5 hn4).mono ?_
    rintro e w6 ⟨rfl, b6⟩
    have b7 := below_then b5 b6
    go_wp2_with fail
    refine (sameInts_any A4 A5 n4 n5 c4 c5 _ _ (o4.same b6).rd (r5.same b6) hn4).mono ?_
    rintro e w7 ⟨rfl, b8⟩
    go_wp2_with fail
    go_ret
    exact ⟨rfl, below_then b7 b8⟩

set_option maxRecDepth 100000 in
set_option maxHeartbeats 4000000 in
theorem fnTriHalf_walk (A0 : Option Addr) (n0 c0 : Nat) (z0 : List Int) (w : World) (h0 : RdB w A0 n0 z0) (k0 : WfL .u8 z0) (q0 : n0 ≤ c0) :
    Calls Try.prog 21 #[.slice A0 n0 c0] w fun e w' => e = .returned (.bool true) ∧ Below w.heap.size w w' := by
  by_cases big : n0 ≤ 1048576
  rotate_left
  · go_enter Try.func21, Try.ntmps21
    go_wp2_with fail
    go_ret
    exact ⟨rfl, Below.refl _ _⟩
  go_enter Try.func21, Try.ntmps21
  go_wp2_with fail
  refine (drawTriHalf_any A0 n0 c0 z0 _ h0 (bytes_of k0) big q0).mono ?_
  rintro e w1 ⟨gb, xs, rfl, o1, hx, b1⟩
  go_wp2_with fail
  refine (implTriHalf_any _ 3 3 xs _ o1.rd (by omega)).mono ?_
  rintro e w2 ⟨A4, n4, c4, rfl, o4, hn4, b2⟩
  have b3 := below_then b1 b2
  replace o1 := o1.same b2
  go_wp2_with fail
  refine (specTriHalf_any _ 3 3 xs _ o1.rd (by omega)).mono ?_
  rintro e w3 ⟨A5, n5, c5, rfl, r5, hn5, b4⟩
  have b5 := below_then b3 b4
  replace o1 := o1.same b4
  replace o4 := o4.same b4
  by_cases hs : hlfB xs = true
  · have hs2 := hs
    unfold hlfB at hs2
    simp only [Bool.and_eq_true, decide_eq_true_eq] at hs2
    obtain ⟨ht, hev⟩ := hs2
    obtain ⟨hl3, _, h1, h2, h3, h4, h5⟩ := triLB_yes ht
    have hS := sumL3 hl3
    rw [hlfM_yes hs, hS] at o4 r5
    rw [hS] at hev
    have hl4 := o4.len
    obtain rfl : 3 = n4 := hl4
    rw [hs]
    clear hs ht hS
    go_wp2_with fail
    refine (sameInts_any A4 A5 3 n5 c4 c5 _ _ o4.rd r5 hn4).mono ?_
    rintro e w6 ⟨rfl, b6⟩
    have b7 := below_then b5 b6
    replace o1 := o1.same b6
    replace o4 := o4.same b6
    clear r5
    obtain ⟨g4, rfl, _, _⟩ := o4.form (by omega)
    have k0' := o1.cell 0 (by omega)
    have k1' := o1.cell 1 (by omega)
    have k2' := o1.cell 2 (by omega)
    have j0' := o4.cell 0 (by omega)
    have j1' := o4.cell 1 (by omega)
    have j2' := o4.cell 2 (by omega)
    obtain ⟨x, ex⟩ : ∃ x, x = xs.getD 0 0 := ⟨_, rfl⟩
    obtain ⟨y, ey⟩ : ∃ y, y = xs.getD 1 0 := ⟨_, rfl⟩
    obtain ⟨z, ez⟩ : ∃ z, z = xs.getD 2 0 := ⟨_, rfl⟩
    rw [← ex] at k0' h1 h2 h5
    rw [← ey] at k1' h2 h3 h5
    rw [← ez] at k2' h3 h4 h5
    rw [← ex, ← ey, ← ez] at hev j0' j1' j2'
    simp at j0' j1' j2'
    obtain ⟨H, hH⟩ : ∃ H, H = (x + y + z) / 2 := ⟨_, rfl⟩
    rw [← hH] at j0' j1' j2'
    have hH2 : 2 * H = x + y + z := by omega
    clear ex ey ez hH
    have e0 : H - z + (H - y) = x := by omega
    have e1 : H - z + (H - x) = y := by omega
    have e2 : H - y + (H - x) = z := by omega
    have e3 : 1 ≤ H - z := by omega
    go_wp2_with fail
    go_quiet (fail)
    go_wp2_with fail
    go_ret
    exact ⟨rfl, below_drewN b7 _⟩
  · rw [Bool.not_eq_true] at hs
    rw [hlfM_no hs] at o4 r5
    rw [hs]
    clear hs
    go_wp2_with fail
    refine (sameInts_any A4 A5 n4 n5 c4 c5 _ _ o4.rd r5 hn4).mono ?_
    rintro e w6 ⟨rfl, b6⟩
    have b7 := below_then b5 b6
    go_wp2_with fail
    refine (sameInts_any A4 A5 n4 n5 c4 c5 _ _ (o4.same b6).rd (r5.same b6) hn4).mono ?_
    rintro e w7 ⟨rfl, b8⟩
    go_wp2_with fail
    go_ret
    exact ⟨rfl, below_then b7 b8⟩
end Go.Proofs.Ytcfmnjkgebopcaa
