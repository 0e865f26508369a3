/- Contracts of the program's functions of chapter 5: FoldFits, FoldCase. -/
import Derived.Test.YtogmoljaiapolaaFoldI0
import Derived.Test.YtogmoljaiapolaaPut
namespace Go.Proofs.Ytogmoljaiapolaa
open Go.RowKit Go.Sort

theorem rulB_sort (xs : List Int) : bundleB (isort xs) = rulB xs := by
  by_cases h : Ruler xs
  · rw [rulB_mk h]
    refine bundleB_mk ((bundle_isort xs).2 ⟨h.1, h.2.1, fun y hy => ?_⟩)
    exact ruler_len1 h y hy
  · rw [rulB_not h]
    refine bundleB_not fun hb => h ?_
    obtain ⟨h1, h2, h3⟩ := (bundle_isort xs).1 hb
    refine ⟨h1, h2, fun j hj => h3 _ ?_⟩
    exact getD_memQ hj

set_option maxHeartbeats 400000 in
theorem rvalid_any (A : Option Addr) (n c : Nat) (xs : List Int) (w : World) (h : Rd w A n xs) (hn : n ≤ 1048576) (hA : A = none → n = 0 ∧ c = 0) :
    Calls Try.prog 53 #[.slice A n c] w fun e w' => e = .returned (.bool (rulB xs)) ∧ Below w.heap.size w w' := by
  go_enter Try.func53, Try.ntmps53
  go_wp2_with fail
  refine (implStickSort_any A n c xs _ h hn hA).mono ?_
  rintro e w1 ⟨A1, n1, c1, rfl, _, _, b1⟩
  rw [rulB_sort]
  go_wp2_with fail
  go_ret
  exact ⟨rfl, b1⟩

set_option maxRecDepth 100000 in
set_option maxHeartbeats 800000 in
theorem implFoldFits_any (A : Option Addr) (n c : Nat) (xs : List Int) (d : Int) (w : World) (h : Rd w A n xs) (hn : n ≤ 1048576) (hA : A = none → n = 0 ∧ c = 0) :
    Calls Try.prog 37 #[.slice A n c, .int .i64 d] w fun e w' => e = .returned (.bool (fitM xs d)) ∧ Below w.heap.size w w' := by
  have hV := rvalid_any A n c xs w h hn hA
  clear hA
  by_cases hR : rulB xs = true
  · have HR := Lib.hid hR
    have hr := rulB_true hR
    have hsp := span_ruler hr
    rw [hR] at hV
    by_cases hd : 0 ≤ d
    · obtain ⟨t, ht⟩ : ∃ t : Nat, min d 540 = (t : Int) := ⟨(min d 540).toNat, by omega⟩
      have HQ := Lib.hid (show decide (spanL xs ≤ (t : Int)) = fitM xs d by
        rw [fitM_yes hR, Bool.eq_iff_iff, decide_eq_true_iff, decide_eq_true_iff]
        omega)
      have cF : ∀ m, m = min d 540 → ∀ W, Rd W A n xs → Calls Try.prog 66 #[.slice A n c, .int .i64 m] W fun e w' => e = .returned (.bool (fitM xs d)) ∧ Below W.heap.size W w' := fun m hm W h => by
        rw [hm, ht, ← HQ.out]
        exact fits_any A n c xs t W h hr (by omega)
      have d1 : decide (d ≥ 0) = true := by simpa using hd
      have cG := cF (min d 540) rfl
      have hrd := h
      clear hR hr hsp ht hd HQ cF h
      go_enter Try.func37, Try.ntmps37
      go_wp2_with fail
      refine hV.mono ?_
      rintro e w1 ⟨rfl, b1⟩
      go_wp2_with fail
      refine (cG _ (hrd.same b1)).mono ?_
      rintro e w3 ⟨rfl, b4⟩
      go_wp2_with fail
      go_ret
      exact ⟨rfl, below_then b1 b4⟩
    · have HQ := Lib.hid (show fitM xs d = false by
        rw [fitM_yes hR, decide_eq_false_iff_not]
        omega)
      have d1 : decide (d ≥ 0) = false := by simpa using hd
      clear hR hr hsp hd
      go_enter Try.func37, Try.ntmps37
      go_wp2_with fail
      refine hV.mono ?_
      rintro e w1 ⟨rfl, b1⟩
      go_wp2_with fail
      go_ret
      exact ⟨ret_b HQ.out.symm, b1⟩
  · rw [Bool.not_eq_true] at hR
    have HR := Lib.hid hR
    rw [hR] at hV
    clear hR
    go_enter Try.func37, Try.ntmps37
    go_wp2_with fail
    refine hV.mono ?_
    rintro e w1 ⟨rfl, b1⟩
    go_wp2_with fail
    go_ret
    exact ⟨ret_b (fitM_no HR.out d).symm, b1⟩

set_option maxRecDepth 100000 in
set_option maxHeartbeats 1000000 in
theorem implFoldCase_any (A : Option Addr) (n c : Nat) (xs : List Int) (w : World) (h : Rd w A n xs) (hn : n ≤ 1048576) (hA : A = none → n = 0 ∧ c = 0) :
    Calls Try.prog 35 #[.slice A n c] w fun e w' => e = .returned (.tuple #[.int .i64 (spnM xs), .bool (rulB xs)]) ∧ Below w.heap.size w w' := by
  have hV := rvalid_any A n c xs w h hn hA
  clear hA
  by_cases hR : rulB xs = true
  · have HR := Lib.hid hR
    have hr := rulB_true hR
    have hsp := span_ruler hr
    have hmx := mx_span hr
    obtain ⟨s, hs⟩ : ∃ s : Nat, spanL xs = (s : Int) := ⟨(spanL xs).toNat, by omega⟩
    obtain ⟨m, hm⟩ : ∃ m : Nat, mxL xs = (m : Int) := ⟨(mxL xs).toNat, by omega⟩
    have HS := Lib.hid hs
    have hs1000 : s ≤ 540 := by omega
    have hms : m ≤ s := by omega
    have hF := fun (t : Nat) W (h : Rd W A n xs) (ht : t ≤ 1000) => fits_any A n c xs t W h hr ht
    simp only [hs] at hF
    have hM := fun W (h : Rd W A n xs) => rmax_any A n c xs W h hr
    simp only [hm] at hM
    rw [hR] at hV ⊢
    clear hR hr hsp hs hmx hm
    go_enter Try.func35, Try.ntmps35
    go_wp2_with fail
    refine hV.mono ?_
    rintro e w1 ⟨rfl, b1⟩
    go_wp2_with fail
    refine (hM _ (h.same b1)).mono ?_
    rintro e w2 ⟨rfl, b2⟩
    have b3 := below_then b1 b2
    clear b1 b2 hM hV
    go_wp2_with fail
    go_loopw [5] (fun i wr => ∃ k : Nat, m ≤ k ∧ k ≤ s ∧ i = .int .i64 k ∧ Below w.heap.size w wr) (fun i _ => s - (intOf i).toNat)
    case atStart => exact ⟨m, Nat.le_refl _, hms, rfl, b3⟩
    case round =>
      clear b3
      obtain ⟨k, hk1, hk, rfl, hb⟩ := hrel
      have hFk := hF k wr (h.same hb) (by omega)
      by_cases hlt : k < s
      · rw [decide_eq_false (by omega)] at hFk
        clear hF h
        go_wp2_with fail
        refine hFk.mono ?_
        rintro e w2 ⟨rfl, b2⟩
        have b3 := below_then hb b2
        go_wp2_with fail
        go_roundw
        case rel => first | exact ⟨k + 1, by omega, by omega, by go_num, b3⟩ | ((repeat apply Exists.intro); exact ⟨⟨k + 1, by omega, by omega, by go_num, b3⟩, rfl⟩)
        case measure => simp [intOf]; omega
      · obtain rfl : k = s := by omega
        rw [decide_eq_true (Int.le_refl _)] at hFk
        clear hF h
        go_wp2_with fail
        refine hFk.mono ?_
        rintro e w2 ⟨rfl, b2⟩
        have b3 := below_then hb b2
        go_wp2_with fail
        go_ret2
        exact ⟨ret_ibq (by rw [spnM_yes HR.out, HS.out]) rfl, b3⟩
  · rw [Bool.not_eq_true] at hR
    have HR := Lib.hid hR
    rw [hR] at hV ⊢
    clear hR
    go_enter Try.func35, Try.ntmps35
    go_wp2_with fail
    refine hV.mono ?_
    rintro e w1 ⟨rfl, b1⟩
    go_wp2_with fail
    go_ret2
    exact ⟨ret_ibq (spnM_no HR.out).symm rfl, b1⟩
end Go.Proofs.Ytogmoljaiapolaa
