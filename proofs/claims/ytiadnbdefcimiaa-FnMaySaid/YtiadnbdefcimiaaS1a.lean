/- Contracts of the model's functions of chapter 1: bundles. -/
import Derived.Test.YtiadnbdefcimiaaPure1
import Derived.Test.YtiadnbdefcimiaaI1a
namespace Go.Proofs.Ytiadnbdefcimiaa
open Go.RowKit

set_option maxHeartbeats 800000 in
theorem l1Bundle_any (A : Option Addr) (n c : Nat) (xs : List Int) (w : World) (h : Rd w A n xs) (hn : n ≤ 1048576) :
    Calls Try.prog 47 #[.slice A n c] w fun e w' => e = .returned (.bool (bundleB xs)) ∧ Below w.heap.size w w' := by
  go_enter Try.func47, Try.ntmps47
  go_wp2
  go_loopw [3] (fun i wr => ∃ k : Nat, k ≤ n ∧ i = .int .i64 k ∧ UpTo xs k ∧ Below w.heap.size w wr) (fun i _ => n - (intOf i).toNat)
  case atStart => exact ⟨0, Nat.zero_le _, rfl, UpTo.zero _, Below.refl _ _⟩
  case round =>
    obtain ⟨k, hk, rfl, hup, hb⟩ := hrel
    have HU := Lib.hid hup
    clear hup
    by_cases hlt : k < n
    · obtain ⟨b, off, rfl, hbl, hc⟩ := h.2 (by omega)
      have hcx : wr.cell? ⟨b, off + k, none⟩ = some (.int .i64 (xs.getD k 0)) := (hb.cell (p := ⟨b, off + k, none⟩) hbl).trans (hc k hlt)
      obtain ⟨x, ex⟩ : ∃ x, x = xs.getD k 0 := ⟨_, rfl⟩
      rw [← ex] at hcx
      have EX := Lib.hid ex
      have HL := Lib.hid h.1
      clear ex
      by_cases hin : inB x 1 60 = true
      · have hbd := inB_true hin
        have HI := Lib.hid hin
        clear hin
        by_cases hk0 : k = 0
        · subst hk0
          clear hc h
          simp only [Nat.add_zero] at hcx
          go_wp2
          go_quiet ((go_at_call 71; first | exact quiet_left (l6In_is HI.out _) | exact quiet_add_left (l6In_is HI.out _)))
          go_wp2
          go_roundw
          case rel => exact ⟨1, by omega, by go_num, HU.out.first (EX.out ▸ hbd.1) (EX.out ▸ hbd.2), below_drewN hb _⟩
          case measure => simp [intOf]; omega
        · obtain ⟨m, rfl⟩ : ∃ m, k = m + 1 := ⟨k - 1, by omega⟩
          have hcy : wr.cell? ⟨b, off + m, none⟩ = some (.int .i64 (xs.getD m 0)) := (hb.cell (p := ⟨b, off + m, none⟩) hbl).trans (hc m (by omega))
          obtain ⟨y, ey⟩ : ∃ y, y = xs.getD m 0 := ⟨_, rfl⟩
          rw [← ey] at hcy
          have EY := Lib.hid ey
          clear ey hc h
          by_cases hxy : x < y
          · go_wp2
            go_quiet ((go_at_call 71; first | exact quiet_left (l6In_is HI.out _) | exact quiet_add_left (l6In_is HI.out _)))
            go_wp2
            go_ret
            exact ⟨ret_b (not_bundle_fall (k := m) (by rw [HL.out]; exact hlt) (by rw [← EX.out, ← EY.out]; exact hxy)).symm, below_drewN hb _⟩
          · go_wp2
            go_quiet ((go_at_call 71; first | exact quiet_left (l6In_is HI.out _) | exact quiet_add_left (l6In_is HI.out _)))
            go_wp2
            go_roundw
            case rel => exact ⟨m + 2, by omega, by go_num, HU.out.step (EX.out ▸ hbd.1) (EX.out ▸ hbd.2) (by rw [← EX.out, ← EY.out]; omega), below_drewN hb _⟩
            case measure => simp [intOf]; omega
      · rw [Bool.not_eq_true] at hin
        have HI := Lib.hid hin
        clear hin hc h
        go_wp2
        go_quiet ((go_at_call 71; first | exact quiet_left (l6In_is HI.out _) | exact quiet_add_left (l6In_is HI.out _)))
        go_wp2
        go_ret
        exact ⟨ret_b (not_bundle_at (k := k) (by rw [HL.out]; exact hlt) (by rw [← EX.out]; exact HI.out)).symm, below_drewN hb _⟩
    · obtain rfl : k = n := by omega
      have HE := Lib.hid (bundle_iff_upTo (by rw [h.1]; exact HU.out))
      have HL := Lib.hid h.1
      clear h
      go_wp2_with (go_at_call 71; refine (l6In_any _ _ _ _).mono ?_; rintro e w' ⟨rfl, rfl⟩)
      go_ret
      exact ⟨ret_b (by rw [HE.out, HL.out]), hb⟩

set_option maxHeartbeats 400000 in
theorem specSum_any (A : Option Addr) (n c : Nat) (xs : List Int) (w : World) (h : Rd w A n xs) (hn : n ≤ 1048576) (hM : Small 1000000 xs) :
    Calls Try.prog 80 #[.slice A n c] w fun e w' => e = .returned (.int .i64 (sumL xs)) ∧ Below w.heap.size w w' := by
  go_enter Try.func80, Try.ntmps80
  go_wp2
  go_loopw [3, 4] (fun s i wr => ∃ k : Nat, k ≤ n ∧ i = .int .i64 k ∧ s = .int .i64 (sumTo xs k) ∧ Below w.heap.size w wr) (fun _ i _ => n - (intOf i).toNat)
  case atStart => exact ⟨0, Nat.zero_le _, rfl, rfl, Below.refl _ _⟩
  case round =>
    obtain ⟨k, hk, rfl, rfl, hb⟩ := hrel
    have HL := Lib.hid h.1
    have hbd := sumTo_bd hM k (by rw [HL.out]; exact hk)
    by_cases hlt : k < n
    · obtain ⟨b, off, rfl, hbl, hc⟩ := h.2 (by omega)
      have hcx : wr.cell? ⟨b, off + k, none⟩ = some (.int .i64 (xs.getD k 0)) := (hb.cell (p := ⟨b, off + k, none⟩) hbl).trans (hc k hlt)
      have hx := hM k (by rw [HL.out]; exact hlt)
      obtain ⟨x, ex⟩ : ∃ x, x = xs.getD k 0 := ⟨_, rfl⟩
      obtain ⟨s, es⟩ : ∃ s, s = sumTo xs k := ⟨_, rfl⟩
      rw [← ex] at hcx hx
      rw [← es] at hbd ⊢
      have EX := Lib.hid ex
      have ES := Lib.hid es
      clear ex es hc h hM
      go_wp2
      go_roundw
      case rel => exact ⟨k + 1, by omega, by go_num, congrArg (Value.int .i64) (show s + x = sumTo xs (k + 1) by rw [ES.out, EX.out]; rfl), hb⟩
      case measure => simp [intOf]; omega
    · obtain rfl : k = n := by omega
      go_wp2
      go_ret
      exact ⟨ret_i (by unfold sumL; rw [HL.out]), hb⟩

set_option maxHeartbeats 400000 in
theorem total_any (A : Option Addr) (n c : Nat) (xs : List Int) (w : World) (h : Rd w A n xs) (hn : n ≤ 1048576) (hM : Small 1000000 xs) :
    Calls Try.prog 21 #[.slice A n c] w fun e w' => e = .returned (.int .i64 (sumL xs)) ∧ Below w.heap.size w w' := by
  go_enter Try.func21, Try.ntmps21
  go_wp2
  go_loopw [3, 4] (fun s i wr => ∃ k : Nat, k ≤ n ∧ i = .int .i64 k ∧ s = .int .i64 (sumTo xs k) ∧ Below w.heap.size w wr) (fun _ i _ => n - (intOf i).toNat)
  case atStart => exact ⟨0, Nat.zero_le _, rfl, rfl, Below.refl _ _⟩
  case round =>
    obtain ⟨k, hk, rfl, rfl, hb⟩ := hrel
    have HL := Lib.hid h.1
    have hbd := sumTo_bd hM k (by rw [HL.out]; exact hk)
    by_cases hlt : k < n
    · obtain ⟨b, off, rfl, hbl, hc⟩ := h.2 (by omega)
      have hcx : wr.cell? ⟨b, off + k, none⟩ = some (.int .i64 (xs.getD k 0)) := (hb.cell (p := ⟨b, off + k, none⟩) hbl).trans (hc k hlt)
      have hx := hM k (by rw [HL.out]; exact hlt)
      obtain ⟨x, ex⟩ : ∃ x, x = xs.getD k 0 := ⟨_, rfl⟩
      obtain ⟨s, es⟩ : ∃ s, s = sumTo xs k := ⟨_, rfl⟩
      rw [← ex] at hcx hx
      rw [← es] at hbd ⊢
      have EX := Lib.hid ex
      have ES := Lib.hid es
      clear ex es hc h hM
      go_wp2
      go_roundw
      case rel => exact ⟨k + 1, by omega, by go_num, congrArg (Value.int .i64) (show s + x = sumTo xs (k + 1) by rw [ES.out, EX.out]; rfl), hb⟩
      case measure => simp [intOf]; omega
    · obtain rfl : k = n := by omega
      go_wp2
      go_ret
      exact ⟨ret_i (by unfold sumL; rw [HL.out]), hb⟩

end Go.Proofs.Ytiadnbdefcimiaa
