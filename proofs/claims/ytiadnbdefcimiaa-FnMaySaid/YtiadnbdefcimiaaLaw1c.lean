/- For the laws FnBundle and FnSort: lists that read alike, a list in order sorted, the draw of FnBundle. -/
import Derived.Test.YtiadnbdefcimiaaLaw1b
import Derived.Test.YtiadnbdefcimiaaPut
import Derived.Test.YtiadnbdefcimiaaWidP
namespace Go.Proofs.Ytiadnbdefcimiaa
open Go.RowKit

set_option maxHeartbeats 400000 in
theorem sameInts_any (A A2 : Option Addr) (n n2 c c2 : Nat) (xs : List Int) (w : World) (h : Rd w A n xs) (h2 : Rd w A2 n2 xs) (hn : n ≤ 1048576) :
    Calls Try.prog 32 #[.slice A n c, .slice A2 n2 c2] w fun e w' => e = .returned (.bool true) ∧ Below w.heap.size w w' := by
  obtain rfl : n2 = n := h2.1.symm.trans h.1
  go_enter Try.func32, Try.ntmps32
  go_wp2
  go_loopw [5] (fun i wr => ∃ k : Nat, k ≤ n2 ∧ i = .int .i64 k ∧ Below w.heap.size w wr) (fun i _ => n2 - (intOf i).toNat)
  case atStart => exact ⟨0, Nat.zero_le _, rfl, Below.refl _ _⟩
  case round =>
    obtain ⟨k, hk, rfl, hb⟩ := hrel
    by_cases hlt : k < n2
    · obtain ⟨b, off, rfl, hbl, hc⟩ := h.2 (by omega)
      obtain ⟨b2, off2, rfl, hbl2, hc2⟩ := h2.2 (by omega)
      have hcx : wr.cell? ⟨b, off + k, none⟩ = some (.int .i64 (xs.getD k 0)) := (hb.cell (p := ⟨b, off + k, none⟩) hbl).trans (hc k hlt)
      have hcy : wr.cell? ⟨b2, off2 + k, none⟩ = some (.int .i64 (xs.getD k 0)) := (hb.cell (p := ⟨b2, off2 + k, none⟩) hbl2).trans (hc2 k hlt)
      obtain ⟨x, ex⟩ : ∃ x, x = xs.getD k 0 := ⟨_, rfl⟩
      rw [← ex] at hcx hcy
      clear ex hc hc2 h h2
      go_wp2
      go_quiet (fail)
      go_wp2
      go_roundw
      case rel => exact ⟨k + 1, by omega, by go_num, below_drewN hb _⟩
      case measure => simp [intOf]; omega
    · obtain rfl : k = n2 := by omega
      go_wp2
      go_ret
      exact ⟨rfl, hb⟩

theorem bundle_tail {xs : List Int} (h : Bundle xs) (h1 : xs.length ≠ 1) : bundleB (xs.drop 1) = true := by
  obtain ⟨a, b, c, d⟩ := h
  have e : ∀ j, (xs.drop 1).getD j 0 = xs.getD (j + 1) 0 := fun j => by
    simp [List.getD_eq_getElem?_getD]
  refine bundleB_mk ⟨by rw [List.length_drop]; omega, by rw [List.length_drop]; omega, fun j hj => ?_, fun j hj => ?_⟩
  · rw [List.length_drop] at hj; rw [e]; exact c _ (by omega)
  · rw [List.length_drop] at hj; rw [e, e]; exact d _ (by omega)

end Go.Proofs.Ytiadnbdefcimiaa
