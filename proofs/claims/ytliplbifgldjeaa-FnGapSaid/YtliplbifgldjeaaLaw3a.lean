/- The walks of the laws FnCloses, FnGap, FnPolyFix. -/
import Derived.Test.YtliplbifgldjeaaDraw3
import Derived.Test.YtliplbifgldjeaaPoly2
import Derived.Test.YtliplbifgldjeaaPut
namespace Go.Proofs.Ytliplbifgldjeaa
open Go.RowKit

theorem pcB_parts {xs : List Int} (h : pcB xs = true) : bundleB xs = true ∧ closB xs = true := by
  unfold pcB at h
  simpa using h
theorem clos_parts {xs : List Int} (h : closB xs = true) : 3 ≤ xs.length ∧ 0 < gapL xs := by
  unfold closB at h
  simpa using h
theorem own_last {w : World} {B n c : Nat} {A : Option Addr} {xs : List Int} (h : Own w B A n c xs) (h1 : 1 ≤ n) : ∃ g m, n = m + 1 ∧ A = some ⟨g, 0, none⟩ ∧ w.cell? ⟨g, m, none⟩ = some (.int .i64 (xs.getD (xs.length - 1) 0)) := by
  obtain ⟨g, rfl, _, _⟩ := h.form (by omega)
  refine ⟨g, n - 1, by omega, rfl, ?_⟩
  rw [h.len]
  exact h.cell (n - 1) (by omega)

set_option maxRecDepth 100000 in
set_option maxHeartbeats 4000000 in
theorem fnCloses_walk (A0 : Option Addr) (n0 c0 : Nat) (z0 : List Int) (w : World) (h0 : RdB w A0 n0 z0) (k0 : WfL .u8 z0) (q0 : n0 ≤ c0) :
    Calls Try.prog 3 #[.slice A0 n0 c0] w fun e w' => e = .returned (.bool true) ∧ Below w.heap.size w w' := by
  by_cases big : n0 ≤ 1048576
  rotate_left
  · go_enter Try.func3, Try.ntmps3
    go_wp2_with fail
    go_ret
    exact ⟨rfl, Below.refl _ _⟩
  go_enter Try.func3, Try.ntmps3
  go_wp2_with fail
  refine (drawPolyCloses_any A0 n0 c0 z0 _ h0 (bytes_of k0) big q0).mono ?_
  rintro e w1 ⟨A, n, c, xs, rfl, o1, hn, hx, b1⟩
  go_wp2_with fail
  refine (implPolyCloses_any A n c xs _ o1.rd (by omega)).mono ?_
  rintro e w2 ⟨rfl, b2⟩
  have b3 := below_then b1 b2
  replace o1 := o1.same b2
  go_wp2_with fail
  refine (specPolyCloses_any A n c xs _ o1.rd (by omega)).mono ?_
  rintro e w3 ⟨rfl, b4⟩
  have b5 := below_then b3 b4
  replace o1 := o1.same b4
  by_cases hs : pcB xs = true
  · obtain ⟨hB, hC⟩ := pcB_parts hs
    obtain ⟨h3, hg⟩ := clos_parts hC
    have HG := Lib.hid (gpM_yes hB)
    have HB := Lib.hid hB
    have hl1 := o1.len
    have hlast := last_in (bundleB_true hB)
    have hcl : ∀ x, x = xs.getD (xs.length - 1) 0 → putB xs x = true → pcB (putM xs x) = true := fun x hx hp => by
      rw [putM_yes hp, pcB_yes (by rw [← putB_of hB]; exact hp), clos_put (bundleB_true hB) (by omega)]
      simp
      omega
    obtain ⟨x, ex⟩ : ∃ x, x = xs.getD (xs.length - 1) 0 := ⟨_, rfl⟩
    have hcl := hcl x ex
    rw [← ex] at hlast
    have EX := Lib.hid ex
    have hP := fun W (h : Rd W A n xs) => implPolyGap_any A n c xs W h (by omega)
    rw [HG.out, HB.out] at hP
    generalize gapL xs = g at hP hg
    have hS := fun W (h : Rd W A n xs) => implStickPut_any A n c xs x W h (by omega) o1.nilA
    rw [hs]
    clear hs hB hC ex h3
    go_wp2_with fail
    refine (hP _ o1.rd).mono ?_
    rintro e w4 ⟨rfl, b6⟩
    have b7 := below_then b5 b6
    replace o1 := o1.same b6
    have hr1 := o1.rd
    have hn1 : 1 ≤ n := by have := (bundleB_true HB.out).1; omega
    obtain ⟨d, m, rfl, rfl, hcx⟩ := own_last o1 hn1
    rw [← EX.out] at hcx
    have e1 : ((m + 1 : Nat) : Int) - 1 = (m : Int) := by omega
    have v1 : IntKind.i64.wrap (m : Int) = (m : Int) := wrap_is rfl (by omega) (by omega)
    have v4 : (m : Int) < ((m + 1 : Nat) : Int) := by omega
    have v5 : (m : Int) < (m : Int) + 1 := by omega
    have d1 : decide (g > 0) = true := by simpa using hg
    clear hP hl1
    go_wp2_with fail
    refine (hS _ hr1).mono ?_
    rintro e w5 ⟨A5, n5, c5, rfl, o5, hn5, b8⟩
    have b9 := below_then b7 b8
    cases hp : putB xs x with
    | true =>
      have HC := Lib.hid (hcl hp)
      clear hp hcl hS
      go_wp2_with fail
      refine (implPolyCloses_any A5 n5 c5 _ _ o5.rd hn5).mono ?_
      rw [HC.out]
      rintro e w6 ⟨rfl, b10⟩
      go_wp2_with fail
      go_ret
      exact ⟨rfl, below_then b9 b10⟩
    | false =>
      clear hp hcl hS
      go_wp2_with fail
      go_ret
      exact ⟨rfl, b9⟩
  · rw [Bool.not_eq_true] at hs
    rw [hs]
    clear hs
    go_wp2_with fail
    go_ret
    exact ⟨rfl, b5⟩

set_option maxRecDepth 100000 in
set_option maxHeartbeats 4000000 in
theorem fnGap_walk (A0 : Option Addr) (n0 c0 : Nat) (z0 : List Int) (w : World) (h0 : RdB w A0 n0 z0) (k0 : WfL .u8 z0) (q0 : n0 ≤ c0) :
    Calls Try.prog 4 #[.slice A0 n0 c0] w fun e w' => e = .returned (.bool true) ∧ Below w.heap.size w w' := by
  by_cases big : n0 ≤ 1048576
  rotate_left
  · go_enter Try.func4, Try.ntmps4
    go_wp2_with fail
    go_ret
    exact ⟨rfl, Below.refl _ _⟩
  go_enter Try.func4, Try.ntmps4
  go_wp2_with fail
  refine (drawPolyGap_any A0 n0 c0 z0 _ h0 (bytes_of k0) big q0).mono ?_
  rintro e w1 ⟨A, n, c, xs, rfl, o1, hn, hx, b1⟩
  have hG := fun W (h : Rd W A n xs) => implPolyGap_any A n c xs W h (by omega)
  have hT := fun W (h : Rd W A n xs) => specPolyGap_any A n c xs W h (by omega)
  by_cases hs : bundleB xs = true
  · have HB := Lib.hid hs
    have hb := bundleB_true hs
    have hgd := gap_bd hb
    have hlast := last_in hb
    have hl1 := o1.len
    have hS := fun W (h : Rd W A n xs) => implStickSum_any A n c xs W h (by omega)
    have hC := fun W (h : Rd W A n xs) => implPolyCloses_any A n c xs W h (by omega)
    have hsum : sumM xs = sumL xs := by unfold sumM; rw [if_pos hs]
    rw [gpM_yes hs, hs] at hG hT
    rw [hsum, hs] at hS
    rw [pcB_yes hs] at hC
    have hcl : closB xs = (decide (3 ≤ n) && decide (gapL xs > 0)) := by unfold closB; rw [hl1]
    rw [hcl] at hC
    have hgl : gapL xs = sumL xs - 2 * xs.getD (xs.length - 1) 0 := rfl
    obtain ⟨x, ex⟩ : ∃ x, x = xs.getD (xs.length - 1) 0 := ⟨_, rfl⟩
    rw [← ex] at hlast hgd hgl
    have EX := Lib.hid ex
    generalize sumL xs = s at *
    generalize gapL xs = g at *
    have hn1 : 1 ≤ n := by have := hb.1; omega
    have HGL := Lib.hid hgl
    have v2 : IntKind.i64.wrap (2 * x) = 2 * x := wrap_is rfl (by omega) (by omega)
    have v3 : IntKind.i64.wrap (s - 2 * x) = s - 2 * x := wrap_is rfl (by omega) (by omega)
    have d0 : (g == s - 2 * x) = true := by simpa using hgl
    clear hs hb ex hgl hcl hsum
    go_wp2_with fail
    refine (hG _ o1.rd).mono ?_
    rintro e w2 ⟨rfl, b2⟩
    have b3 := below_then b1 b2
    replace o1 := o1.same b2
    go_wp2_with fail
    refine (hT _ o1.rd).mono ?_
    rintro e w3 ⟨rfl, b4⟩
    have b5 := below_then b3 b4
    replace o1 := o1.same b4
    go_wp2_with fail
    refine (hS _ o1.rd).mono ?_
    rintro e w4 ⟨rfl, b6⟩
    have b7 := below_then b5 b6
    replace o1 := o1.same b6
    have hr1 := o1.rd
    obtain ⟨d, m, rfl, rfl, hcx⟩ := own_last o1 hn1
    rw [← EX.out] at hcx
    have e1 : ((m + 1 : Nat) : Int) - 1 = (m : Int) := by omega
    have v1 : IntKind.i64.wrap (m : Int) = (m : Int) := wrap_is rfl (by omega) (by omega)
    have v4 : (m : Int) < ((m + 1 : Nat) : Int) := by omega
    have v5 : (m : Int) < (m : Int) + 1 := by omega
    by_cases h3 : 3 ≤ m + 1
    · have d1 : decide (((m + 1 : Nat) : Int) < 3) = false := by simp; omega
      have d2 : decide ((m : Int) + 1 < 3) = false := by simp; omega
      have hC2 := hC _ hr1
      rw [decide_eq_true h3, Bool.true_and] at hC2
      clear hG hT hS hC hl1
      go_wp2_with fail
      refine hC2.mono ?_
      rintro e w5 ⟨rfl, b8⟩
      have d3 : (decide (g > 0) == decide (g > 0)) = true := by simp
      go_wp2_with fail
      go_ret
      exact ⟨rfl, below_then b7 b8⟩
    · have d1 : decide (((m + 1 : Nat) : Int) < 3) = true := by simp; omega
      have d2 : decide ((m : Int) + 1 < 3) = true := by simp; omega
      clear hG hT hS hC hl1
      go_wp2_with fail
      go_ret
      exact ⟨rfl, b7⟩
  · rw [Bool.not_eq_true] at hs
    rw [gpM_no hs, hs] at hG hT
    clear hs
    go_wp2_with fail
    refine (hG _ o1.rd).mono ?_
    rintro e w2 ⟨rfl, b2⟩
    have b3 := below_then b1 b2
    replace o1 := o1.same b2
    go_wp2_with fail
    refine (hT _ o1.rd).mono ?_
    rintro e w3 ⟨rfl, b4⟩
    go_wp2_with fail
    go_ret
    exact ⟨rfl, below_then b3 b4⟩

set_option maxRecDepth 100000 in
set_option maxHeartbeats 4000000 in
theorem fnPolyFix_walk (A0 : Option Addr) (n0 c0 : Nat) (z0 : List Int) (w : World) (h0 : RdB w A0 n0 z0) (k0 : WfL .u8 z0) (q0 : n0 ≤ c0) :
    Calls Try.prog 11 #[.slice A0 n0 c0] w fun e w' => e = .returned (.bool true) ∧ Below w.heap.size w w' := by
  by_cases big : n0 ≤ 1048576
  rotate_left
  · go_enter Try.func11, Try.ntmps11
    go_wp2_with fail
    go_ret
    exact ⟨rfl, Below.refl _ _⟩
  go_enter Try.func11, Try.ntmps11
  go_wp2_with fail
  refine (drawPolyFix_any A0 n0 c0 z0 _ h0 (bytes_of k0) big q0).mono ?_
  rintro e w1 ⟨A, n, c, xs, rfl, o1, hn, hx, b1⟩
  have hG := fun W (h : Rd W A n xs) => implPolyFix_any A n c xs W h (by omega)
  have hT := fun W (h : Rd W A n xs) => specPolyFix_any A n c xs W h (by omega)
  by_cases hs : fixB xs = true
  · have hB : bundleB xs = true := by unfold fixB at hs; simp only [Bool.and_eq_true] at hs; exact hs.1
    have h28 : 2 ≤ xs.length ∧ xs.length ≤ 8 := by unfold fixB at hs; simp only [Bool.and_eq_true, decide_eq_true_eq] at hs; exact hs.2
    have hb := bundleB_true hB
    have hfx := fix_bd hb h28.1
    have hlast := last_in hb
    have hS := fun x W (h : Rd W A n xs) => implStickPut_any A n c xs x W h (by omega) o1.nilA
    have hp1 : putB xs (fixL xs) = true := by
      unfold putB
      rw [hB, decide_eq_true (by omega), inB_mk (by omega) (by omega)]; rfl
    have hc1 : pcB (putM xs (fixL xs)) = true := by
      rw [putM_yes hp1, pcB_yes (by rw [← putB_of hB]; exact hp1), clos_put hb hfx.2.1]
      simp
      omega
    have hc2 : putB xs (fixL xs - 1) = true → pcB (putM xs (fixL xs - 1)) = false := fun hp => by
      have h1 : inB (fixL xs - 1) 1 60 = true := by
        unfold putB at hp
        simp only [Bool.and_eq_true] at hp
        exact hp.2.2
      have h1 := inB_true h1
      rw [putM_yes hp, pcB_yes (by rw [← putB_of hB]; exact hp), clos_put hb (by omega), decide_eq_false (show ¬ 0 < gapL xs + (fixL xs - 1) by omega)]
      simp
    rw [fixM_yes hs, hs] at hG hT
    have hf60 : 1 ≤ fixL xs ∧ fixL xs ≤ 60 := by omega
    generalize fixL xs = f at *
    have H1 := Lib.hid hp1
    have H2 := Lib.hid hc1
    have H3 := Lib.hid hc2
    have v1 : IntKind.i64.wrap (f - 1) = f - 1 := wrap_is rfl (by omega) (by omega)
    have hA := o1.nilA
    clear hs hB hb hfx hlast hp1 hc1 hc2 h28
    go_wp2_with fail
    refine (hG _ o1.rd).mono ?_
    rintro e w2 ⟨rfl, b2⟩
    have b3 := below_then b1 b2
    replace o1 := o1.same b2
    go_wp2_with fail
    refine (hT _ o1.rd).mono ?_
    rintro e w3 ⟨rfl, b4⟩
    have b5 := below_then b3 b4
    replace o1 := o1.same b4
    go_wp2_with fail
    refine (hS f _ o1.rd).mono ?_
    rw [H1.out]
    rintro e w4 ⟨A4, n4, c4, rfl, o4, hn4, b6⟩
    have b7 := below_then b5 b6
    replace o1 := o1.same b6
    go_wp2_with fail
    refine (hS (f - 1) _ o1.rd).mono ?_
    rintro e w5 ⟨A5, n5, c5, rfl, o5, hn5, b8⟩
    have b9 := below_then b7 b8
    replace o4 := o4.same b8
    cases hp : putB xs (f - 1) with
    | true =>
      have HC := Lib.hid (H3.out hp)
      clear hp hS hG hT o1
      go_wp2_with fail
      refine (implPolyCloses_any A4 n4 c4 _ _ o4.rd hn4).mono ?_
      rw [H2.out]
      rintro e w6 ⟨rfl, b10⟩
      replace o5 := o5.same b10
      go_wp2_with fail
      refine (implPolyCloses_any A5 n5 c5 _ _ o5.rd hn5).mono ?_
      rw [HC.out]
      rintro e w7 ⟨rfl, b11⟩
      go_wp2_with fail
      go_ret
      exact ⟨rfl, below_then (below_then b9 b10) b11⟩
    | false =>
      clear hp hS hG hT o1
      go_wp2_with fail
      refine (implPolyCloses_any A4 n4 c4 _ _ o4.rd hn4).mono ?_
      rw [H2.out]
      rintro e w6 ⟨rfl, b10⟩
      go_wp2_with fail
      go_ret
      exact ⟨rfl, below_then b9 b10⟩
  · rw [Bool.not_eq_true] at hs
    rw [fixM_no hs, hs] at hG hT
    clear hs
    go_wp2_with fail
    refine (hG _ o1.rd).mono ?_
    rintro e w2 ⟨rfl, b2⟩
    have b3 := below_then b1 b2
    replace o1 := o1.same b2
    go_wp2_with fail
    refine (hT _ o1.rd).mono ?_
    rintro e w3 ⟨rfl, b4⟩
    go_wp2_with fail
    go_ret
    exact ⟨rfl, below_then b3 b4⟩
end Go.Proofs.Ytliplbifgldjeaa
