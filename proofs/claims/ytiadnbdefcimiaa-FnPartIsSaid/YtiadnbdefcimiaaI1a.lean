/- Contracts of the program's functions of chapter 1: bundles, sums. -/
import Derived.Test.YtiadnbdefcimiaaPure1
import Derived.Test.YtiadnbdefcimiaaKit
namespace Go.Proofs.Ytiadnbdefcimiaa
open Go.RowKit

theorem isNaN_any (n : Int) (w : World) : Calls Try.prog 100 #[.int .i64 n] w fun e w' => e = .returned (.bool false) ∧ w = w' := by
  have hm : (n != n) = false := by simp
  go_enter Try.func100, Try.ntmps100
  go_wp2
  go_ret
  exact ⟨rfl, rfl⟩

theorem less_any (n m : Int) (w : World) : Calls Try.prog 93 #[.int .i64 n, .int .i64 m] w fun e w' => e = .returned (.bool (decide (n < m))) ∧ w = w' := by
  go_enter Try.func93, Try.ntmps93
  go_wp2_with (go_at_call 100; refine (isNaN_any _ _).mono ?_; rintro e w' ⟨rfl, rfl⟩)
  go_ret
  exact ⟨rfl, rfl⟩
theorem less_is {n m : Int} {b : Bool} (h : decide (n < m) = b) (w : World) : Calls Try.prog 93 #[.int .i64 n, .int .i64 m] w fun e w' => e = .returned (.bool b) ∧ w = w' := h ▸ less_any n m w

set_option maxHeartbeats 400000 in
theorem isSortedB_any (A : Option Addr) (n c : Nat) (xs : List Int) (w : World) (h : Rd w A n xs) (hn : n ≤ 1048576) :
    Calls Try.prog 81 #[.slice A n c] w fun e w' => e = .returned (.bool (ascB xs)) ∧ Below w.heap.size w w' := by
  go_enter Try.func81, Try.ntmps81
  go_wp2
  go_loopw [3] (fun i wr => ∃ k : Int, k < n ∧ -1 ≤ k ∧ i = .int .i64 k ∧ (∀ j : Nat, k ≤ j → j + 1 < n → xs.getD j 0 ≤ xs.getD (j + 1) 0) ∧ Below w.heap.size w wr) (fun i _ => (intOf i).toNat)
  case atStart => exact ⟨_, by omega, by omega, rfl, fun j hj hj' => absurd hj' (by omega), Below.refl _ _⟩
  case round =>
    obtain ⟨k, hk, hk0, rfl, hs, hb⟩ := hrel
    have HS := Lib.hid hs
    have HL := Lib.hid h.1
    clear hs
    by_cases hpos : 0 < k
    · obtain ⟨m, rfl⟩ : ∃ m : Nat, k = (m : Int) + 1 := ⟨(k - 1).toNat, by omega⟩
      obtain ⟨b, off, rfl, hbl, hc⟩ := h.2 (by omega)
      have hcx : wr.cell? ⟨b, off + (m + 1), none⟩ = some (.int .i64 (xs.getD (m + 1) 0)) := (hb.cell (p := ⟨b, off + (m + 1), none⟩) hbl).trans (hc (m + 1) (by omega))
      have hcy : wr.cell? ⟨b, off + m, none⟩ = some (.int .i64 (xs.getD m 0)) := (hb.cell (p := ⟨b, off + m, none⟩) hbl).trans (hc m (by omega))
      obtain ⟨x, ex⟩ : ∃ x, x = xs.getD (m + 1) 0 := ⟨_, rfl⟩
      obtain ⟨y, ey⟩ : ∃ y, y = xs.getD m 0 := ⟨_, rfl⟩
      rw [← ex] at hcx
      rw [← ey] at hcy
      have EX := Lib.hid ex
      have EY := Lib.hid ey
      clear ex ey hc h
      by_cases hxy : x < y
      · have HD := Lib.hid (show decide (x < y) = true by simpa using hxy)
        go_wp2
        go_quiet ((go_at_call 93; first | exact quiet_left (less_is HD.out _) | exact quiet_add_left (less_is HD.out _)))
        go_wp2
        go_ret
        exact ⟨ret_b (ascB_not (k := m) (by rw [HL.out]; omega) (by rw [← EX.out, ← EY.out]; exact hxy)).symm, below_drewN hb _⟩
      · have HD := Lib.hid (show decide (x < y) = false by simpa using hxy)
        go_wp2
        go_quiet ((go_at_call 93; first | exact quiet_left (less_is HD.out _) | exact quiet_add_left (less_is HD.out _)))
        go_wp2
        go_roundw
        case rel =>
          refine ⟨m, by omega, by omega, by go_num, fun j hj hj' => ?_, below_drewN hb _⟩
          by_cases hjm : j = m
          · subst hjm; rw [← EX.out, ← EY.out]; omega
          · exact HS.out j (by omega) hj'
        case measure => simp [intOf]
    · go_wp2
      go_ret
      exact ⟨ret_b (ascB_mk (fun j hj => HS.out j (by omega) (by rw [← HL.out]; exact hj))).symm, hb⟩

set_option maxHeartbeats 400000 in
theorem valid_any (A : Option Addr) (n c : Nat) (xs : List Int) (w : World) (h : Rd w A n xs) (hn : n ≤ 1048576) :
    Calls Try.prog 49 #[.slice A n c] w fun e w' => e = .returned (.bool (bundleB xs)) ∧ Below w.heap.size w w' := by
  have HL := Lib.hid h.1
  by_cases h1 : 1 ≤ n
  · by_cases h9 : n ≤ 9
    · go_enter Try.func49, Try.ntmps49
      go_wp2
      go_loopw [15] (fun i wr => ∃ k : Nat, k ≤ n ∧ i = .int .i64 k ∧ (∀ j, j < k → inB (xs.getD j 0) 1 60 = true) ∧ Below w.heap.size w wr) (fun i _ => n - (intOf i).toNat)
      case atStart => exact ⟨0, Nat.zero_le _, rfl, fun j hj => absurd hj (by omega), Below.refl _ _⟩
      case round =>
        obtain ⟨k, hk, rfl, hs, hb⟩ := hrel
        have HS := Lib.hid hs
        clear hs
        by_cases hlt : k < n
        · obtain ⟨b, off, rfl, hbl, hc⟩ := h.2 (by omega)
          have hcx : wr.cell? ⟨b, off + k, none⟩ = some (.int .i64 (xs.getD k 0)) := (hb.cell (p := ⟨b, off + k, none⟩) hbl).trans (hc k hlt)
          obtain ⟨x, ex⟩ : ∃ x, x = xs.getD k 0 := ⟨_, rfl⟩
          rw [← ex] at hcx
          have EX := Lib.hid ex
          clear ex hc h
          by_cases hin : inB x 1 60 = true
          · go_wp2_with (go_at_call 60; refine (isLength_any _ _).mono ?_; rintro e w' ⟨rfl, rfl⟩)
            go_roundw
            case rel =>
              refine ⟨k + 1, by omega, by go_num, fun j hj => ?_, hb⟩
              by_cases hjk : j = k
              · subst hjk; rw [← EX.out]; exact hin
              · exact HS.out j (by omega)
            case measure => simp [intOf]; omega
          · rw [Bool.not_eq_true] at hin
            go_wp2_with (go_at_call 60; refine (isLength_any _ _).mono ?_; rintro e w' ⟨rfl, rfl⟩)
            go_ret
            exact ⟨ret_b (not_bundle_at (k := k) (by rw [HL.out]; exact hlt) (by rw [← EX.out]; exact hin)).symm, hb⟩
        · obtain rfl : k = n := by omega
          have HE := Lib.hid (bundle_asc (xs := xs) (by rw [HL.out]; exact h1) (by rw [HL.out]; exact h9) (by rw [HL.out]; exact HS.out))
          have hr := h.below (Nat.le_refl _) hb
          go_wp2_with (go_at_call 81; refine (isSortedB_any _ _ _ xs _ hr hn).mono ?_; rintro e w' ⟨rfl, hb2⟩)
          go_ret
          exact ⟨ret_b (by rw [HE.out]), hb.trans (hb2.mono hb.size)⟩
    · go_enter Try.func49, Try.ntmps49
      go_wp2
      go_ret
      exact ⟨ret_b (not_bundle_len (by rw [HL.out]; omega)).symm, Below.refl _ _⟩
  · obtain rfl : n = 0 := by omega
    go_enter Try.func49, Try.ntmps49
    go_wp2
    go_ret
    exact ⟨ret_b (not_bundle_len (by rw [HL.out]; omega)).symm, Below.refl _ _⟩

theorem implStickIn_any (A : Option Addr) (n c : Nat) (xs : List Int) (w : World) (h : Rd w A n xs) (hn : n ≤ 1048576) :
    Calls Try.prog 75 #[.slice A n c] w fun e w' => e = .returned (.bool (bundleB xs)) ∧ Below w.heap.size w w' := by
  go_enter Try.func75, Try.ntmps75
  go_wp2_with (go_at_call 49; refine (valid_any _ _ _ xs _ h hn).mono ?_; rintro e w' ⟨rfl, hb⟩)
  go_ret
  exact ⟨rfl, hb⟩

set_option maxHeartbeats 400000 in
theorem implSum_any (A : Option Addr) (n c : Nat) (xs : List Int) (w : World) (h : Rd w A n xs) (hn : n ≤ 1048576) (hM : Small 1000000 xs) :
    Calls Try.prog 54 #[.slice A n c] w fun e w' => e = .returned (.int .i64 (sumL xs)) ∧ Below w.heap.size w w' := by
  go_enter Try.func54, Try.ntmps54
  go_wp2
  go_loopw [3, 8] (fun s i wr => ∃ k : Nat, k ≤ n ∧ i = .int .i64 k ∧ s = .int .i64 (sumTo xs k) ∧ Below w.heap.size w wr) (fun _ i _ => n - (intOf i).toNat)
  case atStart => exact ⟨0, Nat.zero_le _, rfl, rfl, Below.refl _ _⟩
  case round =>
    obtain ⟨k, hk, rfl, rfl, hb⟩ := hrel
    have HL := Lib.hid h.1
    have hbd := sumTo_bd hM k (by rw [HL.out]; exact hk)
    by_cases hlt : k < n
    · obtain ⟨b, off, rfl, hbl, hc⟩ := h.2 (by omega)
      have hcx : wr.cell? ⟨b, off + k, none⟩ = some (.int .i64 (xs.getD k 0)) := (hb.cell (p := ⟨b, off + k, none⟩) hbl).trans (hc k hlt)
      have hx := hM k (by rw [HL.out]; exact hlt)
      obtain ⟨x, ex⟩ : ∃ x, x = xs.getD k 0 := ⟨_, rfl⟩
      obtain ⟨s, es⟩ : ∃ s, s = sumTo xs k := ⟨_, rfl⟩
      rw [← ex] at hcx hx
      rw [← es] at hbd ⊢
      have EX := Lib.hid ex
      have ES := Lib.hid es
      clear ex es hc h hM
      go_wp2
      go_roundw
      case rel => exact ⟨k + 1, by omega, by go_num, congrArg (Value.int .i64) (show s + x = sumTo xs (k + 1) by rw [ES.out, EX.out]; rfl), hb⟩
      case measure => simp [intOf]; omega
    · obtain rfl : k = n := by omega
      go_wp2
      go_ret
      exact ⟨ret_i (by unfold sumL; rw [HL.out]), hb⟩

noncomputable def sumM (xs : List Int) : Int := if bundleB xs then sumL xs else 0
theorem bundle_small {xs : List Int} (h : Bundle xs) : Small 1000000 xs := fun j hj => by have := h.2.2.1 j hj; omega
end Go.Proofs.Ytiadnbdefcimiaa
