/- The walks of the laws FnSort, FnMany, FnFreeOr, FnTryFree, FnPut, FnDrop. -/
import Derived.Test.YtaffdppmpfgghaaDraw1
import Derived.Test.YtaffdppmpfgghaaLaw1P
import Derived.Test.YtaffdppmpfgghaaSMany
import Derived.Test.YtaffdppmpfgghaaTry
import Derived.Lib.QuietBelow
namespace Go.Proofs.Ytaffdppmpfgghaa
open Go.RowKit

theorem small61 {xs : List Int} (h : Lens61 xs) : Small 1000000 xs := fun j hj => by have := h _ (getD_mem hj); omega
theorem small60 {xs : List Int} (h : Lens xs) : Small 1000000 xs := fun j hj => by have := h _ (getD_mem hj); omega

set_option maxRecDepth 100000 in
set_option maxHeartbeats 4000000 in
theorem fnMany_walk (A0 : Option Addr) (n0 c0 : Nat) (z0 : List Int) (w : World) (h0 : RdB w A0 n0 z0) (k0 : WfL .u8 z0) (q0 : n0 ≤ c0) :
    Calls Try.prog 3 #[.slice A0 n0 c0] w fun e w' => e = .returned (.bool true) ∧ Below w.heap.size w w' := by
  by_cases big : n0 ≤ 1048576
  rotate_left
  · go_enter Try.func3, Try.ntmps3
    go_wp2_with fail
    go_ret
    exact ⟨rfl, Below.refl _ _⟩
  go_enter Try.func3, Try.ntmps3
  go_wp2_with fail
  refine (drawMany_any A0 n0 c0 z0 _ h0 (bytes_of k0) big q0).mono ?_
  rintro e w1 ⟨A, n, c, xs, rfl, o1, hn, hx, b1⟩
  go_wp2_with fail
  refine (implStickMany_any A n c xs _ o1.rd (by omega)).mono ?_
  rintro e w2 ⟨rfl, b2⟩
  have b3 := below_then b1 b2
  replace o1 := o1.same b2
  go_wp2_with fail
  refine (specStickMany_any A n c xs _ o1.rd (by omega)).mono ?_
  rintro e w3 ⟨rfl, b4⟩
  have b5 := below_then b3 b4
  replace o1 := o1.same b4
  have hl1 := o1.len
  by_cases hs : bundleB xs = true
  · have hbd := bundleB_true hs
    have hn1 : 1 ≤ n := by rw [← hl1]; exact hbd.1
    have hn9 : n ≤ 9 := by rw [← hl1]; exact hbd.2.1
    have hle := cnt_le xs
    rw [hl1] at hle
    have HS := Lib.hid hs
    have HD := Lib.hid hbd
    have HL := Lib.hid hl1
    have hds := drop_sub xs
    rw [manyM_yes hs, hs]
    obtain ⟨N, hN⟩ : ∃ N, N = cntT xs := ⟨_, rfl⟩
    rw [← hN] at hle hds ⊢
    clear hs hbd hN
    go_wp2_with fail
    refine (implStickDrop_any A n c xs 0 _ o1.rd (by omega) o1.cap).mono ?_
    rintro e w4 ⟨A4, n4, c4, rfl, o4, hn4, b6⟩
    have b7 := below_then b5 b6
    go_wp2_with fail
    refine (implStickMany_any A4 n4 c4 _ _ o4.rd hn4).mono ?_
    rintro e w5 ⟨rfl, b8⟩
    have b9 := below_then b7 b8
    have hp : drpB xs 0 = bundleB (drpM xs 0) := by
      have e1 := drpB_of (p := 0) HS.out (by rw [HL.out]; omega)
      have e2 := drpM_of (p := 0) HS.out (by rw [HL.out]; omega)
      rw [show ((0 : Nat) : Int) = 0 from rfl] at e1 e2
      rw [e1, e2]
      by_cases hh : bundleB (dropM xs 0) = true
      · rw [doneM_yes hh]
      · rw [Bool.not_eq_true] at hh
        rw [doneM_no hh, hh]
        exact (not_bundle_len (by simp)).symm
    rw [← hp]
    have hq : (drpB xs 0 = false) ∨ (drpB xs 0 = true ∧ manyM (drpM xs 0) ≤ N) := by
      cases hh : drpB xs 0 with
      | false => exact .inl rfl
      | true =>
        refine .inr ⟨rfl, ?_⟩
        rw [manyM_yes (by rw [← hp]; exact hh), drpM_yes hh]
        show ((cntT (dropM xs 0) : Nat) : Int) ≤ N
        omega
    obtain ⟨q, hqq⟩ : ∃ q, q = manyM (drpM xs 0) := ⟨_, rfl⟩
    rw [← hqq] at hq ⊢
    clear hp hqq
    have hfin : (N : Int) ≤ (n : Int) * ((n : Int) - 1) * ((n : Int) - 2) / 6 := by rw [← c3_six n hn9]; omega
    clear hle hds o1 o4 HS HD HL hx b1 b2 b3 b4 b5 b6 b7 b8
    rcases (show n = 1 ∨ n = 2 ∨ n = 3 ∨ n = 4 ∨ n = 5 ∨ n = 6 ∨ n = 7 ∨ n = 8 ∨ n = 9 by omega) with rfl | rfl | rfl | rfl | rfl | rfl | rfl | rfl | rfl
    all_goals
      simp at hfin
      rcases hq with hq | ⟨hq, hq2⟩
      all_goals
        rw [hq]
        clear hq
        try subst hfin
        try simp at hq2
        go_wp2_with fail
        go_ret
        exact ⟨rfl, b9⟩
  · rw [Bool.not_eq_true] at hs
    rw [manyM_no hs, hs]
    clear hs
    go_wp2_with fail
    go_ret
    exact ⟨rfl, b5⟩

set_option maxRecDepth 100000 in
set_option maxHeartbeats 4000000 in
theorem fnFreeOr_walk (A0 : Option Addr) (n0 c0 : Nat) (z0 : List Int) (w : World) (h0 : RdB w A0 n0 z0) (k0 : WfL .u8 z0) (q0 : n0 ≤ c0) :
    Calls Try.prog 6 #[.slice A0 n0 c0] w fun e w' => e = .returned (.bool true) ∧ Below w.heap.size w w' := by
  by_cases big : n0 ≤ 1048576
  rotate_left
  · go_enter Try.func6, Try.ntmps6
    go_wp2_with fail
    go_ret
    exact ⟨rfl, Below.refl _ _⟩
  go_enter Try.func6, Try.ntmps6
  go_wp2_with fail
  refine (drawMany_any A0 n0 c0 z0 _ h0 (bytes_of k0) big q0).mono ?_
  rintro e w1 ⟨A, n, c, xs, rfl, o1, hn, hx, b1⟩
  go_wp2_with fail
  refine (implStickMany_any A n c xs _ o1.rd (by omega)).mono ?_
  rintro e w2 ⟨rfl, b2⟩
  have b3 := below_then b1 b2
  replace o1 := o1.same b2
  go_wp2_with fail
  refine (specStickMany_any A n c xs _ o1.rd (by omega)).mono ?_
  rintro e w3 ⟨rfl, b4⟩
  have b5 := below_then b3 b4
  replace o1 := o1.same b4
  by_cases hs : bundleB xs = true
  · have HS := Lib.hid hs
    have HW := Lib.hid (wid_pos (bundleB_true hs).2.2.2)
    rw [manyM_yes hs, hs]
    clear hs
    obtain ⟨N, hN⟩ : ∃ N, N = cntT xs := ⟨_, rfl⟩
    rw [← hN] at HW ⊢
    have HN := Lib.hid hN
    clear hN
    go_wp2_with fail
    refine (implStickWidest_any A n c xs _ o1.rd (by omega)).mono ?_
    rw [widM_yes HS.out, HW.out]
    rintro e w4 ⟨rfl, b6⟩
    have b7 := below_then b5 b6
    replace o1 := o1.same b6
    obtain ⟨z, hz⟩ : ∃ z, z = (wid xs xs.length).1 := ⟨_, rfl⟩
    rw [← hz]
    clear hz
    have hcase : N = 0 ∨ (0 < N ∧ ((N : Int) == 0) = false ∧ decide ((N : Int) > 0) = true) := by
      rcases Nat.eq_zero_or_pos N with h | h
      · exact .inl h
      · exact .inr ⟨h, by simp; omega, by simp; omega⟩
    rcases hcase with h0 | ⟨h0, d1, d2⟩
    · subst h0
      go_wp2_with fail
      refine (implStickFree_any A n c xs _ o1.rd (by omega)).mono ?_
      rw [HS.out, ← HN.out]
      rintro e w5 ⟨rfl, b8⟩
      go_wp2_with fail
      go_ret
      exact ⟨rfl, below_then b7 b8⟩
    · have h1 : ¬ N = 0 := by omega
      go_wp2_with fail
      refine (implStickFree_any A n c xs _ o1.rd (by omega)).mono ?_
      rw [HS.out, ← HN.out, decide_eq_false h1]
      rintro e w5 ⟨rfl, b8⟩
      go_wp2_with fail
      go_ret
      exact ⟨rfl, below_then b7 b8⟩
  · rw [Bool.not_eq_true] at hs
    rw [manyM_no hs, hs]
    clear hs
    go_wp2_with fail
    go_ret
    exact ⟨rfl, b5⟩

set_option maxRecDepth 100000 in
set_option maxHeartbeats 4000000 in
theorem fnTryFree_walk (A0 : Option Addr) (n0 c0 : Nat) (z0 : List Int) (w : World) (h0 : RdB w A0 n0 z0) (k0 : WfL .u8 z0) (q0 : n0 ≤ c0) :
    Calls Try.prog 8 #[.slice A0 n0 c0] w fun e w' => e = .returned (.bool true) ∧ Below w.heap.size w w' := by
  by_cases big : n0 ≤ 1048576
  rotate_left
  · go_enter Try.func8, Try.ntmps8
    go_wp2_with fail
    go_ret
    exact ⟨rfl, Below.refl _ _⟩
  go_enter Try.func8, Try.ntmps8
  go_wp2_with fail
  refine (drawTryFree_any A0 n0 c0 z0 _ h0 (bytes_of k0) big q0).mono ?_
  rintro e w1 ⟨n, rfl, hn1, hn2, b1⟩
  go_wp2_with fail
  refine (implStickTryFree_any n _).mono ?_
  rintro e w2 ⟨rfl, b2⟩
  have b3 := below_then b1 b2
  go_wp2_with fail
  refine (specStickTryFree_any n _).mono ?_
  rintro e w3 ⟨rfl, b4⟩
  have b5 := below_then b3 b4
  by_cases hs : inB n 1 8 = true
  · have hb := inB_true hs
    have h54 : inB n 1 54 = true := inB_mk hb.1 (by omega)
    rw [tryM_yes hs, lon_long n hs, hs]
    have H54 := Lib.hid h54
    clear hs h54
    go_wp2_with fail
    refine (implStickLongFree_any n _).mono ?_
    rw [H54.out]
    rintro e w4 ⟨A4, n4, c4, rfl, o4, hn4, b6⟩
    have hl := o4.len
    rw [hl]
    go_wp2_with fail
    go_ret
    exact ⟨rfl, below_then b5 b6⟩
  · rw [Bool.not_eq_true] at hs
    rw [tryM_no hs, hs]
    clear hs
    go_wp2_with fail
    go_ret
    exact ⟨rfl, b5⟩

set_option maxRecDepth 100000 in
set_option maxHeartbeats 4000000 in
theorem fnPut_walk (A0 : Option Addr) (n0 c0 : Nat) (z0 : List Int) (w : World) (h0 : RdB w A0 n0 z0) (k0 : WfL .u8 z0) (q0 : n0 ≤ c0) :
    Calls Try.prog 9 #[.slice A0 n0 c0] w fun e w' => e = .returned (.bool true) ∧ Below w.heap.size w w' := by
  by_cases big : n0 ≤ 1048576
  rotate_left
  · go_enter Try.func9, Try.ntmps9
    go_wp2_with fail
    go_ret
    exact ⟨rfl, Below.refl _ _⟩
  go_enter Try.func9, Try.ntmps9
  go_wp2_with fail
  refine (drawPut_any A0 n0 c0 z0 _ h0 (bytes_of k0) big q0).mono ?_
  rintro e w1 ⟨A, n, c, xs, x, rfl, o1, hn, hx, hx1, hx2, b1⟩
  go_wp2_with fail
  refine (implStickPut_any A n c xs x _ o1.rd (by omega) o1.nilA).mono ?_
  rintro e w2 ⟨A4, n4, c4, rfl, o4, hn4, b2⟩
  have b3 := below_then b1 b2
  replace o1 := o1.same b2
  go_wp2_with fail
  refine (specStickPut_any A n c xs x _ o1.rd (by omega)).mono ?_
  rintro e w3 ⟨A5, n5, c5, rfl, r5, hn5, b4⟩
  have b5 := below_then b3 b4
  replace o1 := o1.same b4
  replace o4 := o4.same b4
  have hl1 := o1.len
  by_cases hs : putB xs x = true
  · have hB : bundleB xs = true := by unfold putB at hs; simp only [Bool.and_eq_true] at hs; exact hs.1
    have hB2 : bundleB (isort (xs ++ [x])) = true := by rw [← putB_of hB]; exact hs
    rw [putM_yes hs] at o4 r5
    have hl4 := o4.len
    rw [length_isort, List.length_append, List.length_singleton, hl1] at hl4
    subst hl4
    have HB := Lib.hid hB
    have HB2 := Lib.hid hB2
    have hcm := cnt_put (isort_asc (bundleB_true hB).2.2.2) x
    have HP := Lib.hid (sum_put xs x)
    have hsm := small60 hx
    have hsm2 := small_of_bundle (bundleB_true hB2)
    have hsb := sumTo_bd hsm xs.length (Nat.le_refl _)
    rw [hl1] at hsb
    rw [hs]
    clear hs hB hB2
    go_wp2_with fail
    refine (sameInts_any A4 A5 (n + 1) n5 c4 c5 _ _ o4.rd r5 hn4).mono ?_
    rintro e w6 ⟨rfl, b6⟩
    have b7 := below_then b5 b6
    replace o1 := o1.same b6
    replace o4 := o4.same b6
    clear r5
    go_wp2_with fail
    refine (implStickMany_any A n c xs _ o1.rd (by omega)).mono ?_
    rw [HB.out, manyM_yes HB.out]
    rintro e w7 ⟨rfl, b8⟩
    have b9 := below_then b7 b8
    replace o1 := o1.same b8
    replace o4 := o4.same b8
    go_wp2_with fail
    refine (implStickMany_any A4 (n + 1) c4 _ _ o4.rd (by omega)).mono ?_
    rw [HB2.out, manyM_yes HB2.out]
    rintro e w8 ⟨rfl, b10⟩
    have b11 := below_then b9 b10
    replace o1 := o1.same b10
    replace o4 := o4.same b10
    obtain ⟨N, hN⟩ : ∃ N, N = cntT xs := ⟨_, rfl⟩
    obtain ⟨M, hM⟩ : ∃ M, M = cntT (isort (xs ++ [x])) := ⟨_, rfl⟩
    rw [← hN, ← hM] at hcm ⊢
    clear hN hM
    have hge : (N : Int) ≤ (M : Int) := by omega
    go_wp2_with fail
    refine (total_any A4 (n + 1) c4 _ _ o4.rd (by omega) hsm2).mono ?_
    rw [HP.out]
    rintro e w10 ⟨rfl, b14⟩
    have b15 := below_then b11 b14
    replace o1 := o1.same b14
    go_wp2_with fail
    refine (total_any A n c _ _ o1.rd (by omega) hsm).mono ?_
    rintro e w11 ⟨rfl, b16⟩
    have b17 := below_then b15 b16
    have hsb2 : -1000000 * 11 ≤ sumL xs ∧ sumL xs ≤ 1000000 * 11 := by unfold sumL; rw [hl1]; omega
    obtain ⟨S, hS⟩ : ∃ S, S = sumL xs := ⟨_, rfl⟩
    rw [← hS] at hsb2 ⊢
    clear hS hsb
    go_wp2_with fail
    go_ret
    exact ⟨rfl, b17⟩
  · rw [Bool.not_eq_true] at hs
    rw [putM_no hs] at o4 r5
    rw [hs]
    clear hs
    go_wp2_with fail
    refine (sameInts_any A4 A5 n4 n5 c4 c5 _ _ o4.rd r5 hn4).mono ?_
    rintro e w6 ⟨rfl, b6⟩
    have b7 := below_then b5 b6
    go_wp2_with fail
    refine (sameInts_any A4 A5 n4 n5 c4 c5 _ _ (o4.same b6).rd (r5.same b6) hn4).mono ?_
    rintro e w7 ⟨rfl, b8⟩
    go_wp2_with fail
    go_ret
    exact ⟨rfl, below_then b7 b8⟩

end Go.Proofs.Ytaffdppmpfgghaa
