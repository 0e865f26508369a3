/- Contracts of the model's functions of chapter 1: bundles. -/
import Derived.Test.YtdnegamminhbfaaPure1
import Derived.Test.YtdnegamminhbfaaI1a
namespace Go.Proofs.Ytdnegamminhbfaa
open Go.RowKit

set_option maxHeartbeats 400000 in
theorem total_any (A : Option Addr) (n c : Nat) (xs : List Int) (w : World) (h : Rd w A n xs) (hn : n ≤ 1048576) (hM : Small 1000000 xs) :
    Calls Try.prog 59 #[.slice A n c] w fun e w' => e = .returned (.int .i64 (sumL xs)) ∧ Below w.heap.size w w' := by
  go_enter Try.func59, Try.ntmps59
  go_wp2
  go_loopw [3, 4] (fun s i wr => ∃ k : Nat, k ≤ n ∧ i = .int .i64 k ∧ s = .int .i64 (sumTo xs k) ∧ Below w.heap.size w wr) (fun _ i _ => n - (intOf i).toNat)
  case atStart => exact ⟨0, Nat.zero_le _, rfl, rfl, Below.refl _ _⟩
  case round =>
    obtain ⟨k, hk, rfl, rfl, hb⟩ := hrel
    have HL := Lib.hid h.1
    have hbd := sumTo_bd hM k (by rw [HL.out]; exact hk)
    by_cases hlt : k < n
    · obtain ⟨b, off, rfl, hbl, hc⟩ := h.2 (by omega)
      have hcx : wr.cell? ⟨b, off + k, none⟩ = some (.int .i64 (xs.getD k 0)) := (hb.cell (p := ⟨b, off + k, none⟩) hbl).trans (hc k hlt)
      have hx := hM k (by rw [HL.out]; exact hlt)
      obtain ⟨x, ex⟩ : ∃ x, x = xs.getD k 0 := ⟨_, rfl⟩
      obtain ⟨s, es⟩ : ∃ s, s = sumTo xs k := ⟨_, rfl⟩
      rw [← ex] at hcx hx
      rw [← es] at hbd ⊢
      have EX := Lib.hid ex
      have ES := Lib.hid es
      clear ex es hc h hM
      go_wp2
      go_roundw
      case rel => exact ⟨k + 1, by omega, by go_num, congrArg (Value.int .i64) (show s + x = sumTo xs (k + 1) by rw [ES.out, EX.out]; rfl), hb⟩
      case measure => simp [intOf]; omega
    · obtain rfl : k = n := by omega
      go_wp2
      go_ret
      exact ⟨ret_i (by unfold sumL; rw [HL.out]), hb⟩

end Go.Proofs.Ytdnegamminhbfaa
