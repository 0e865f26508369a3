/- Counting bundles of a sum: shares, PolyShares, PolyRest of the program and of the model. -/
import Derived.Test.YtaffdppmpfgghaaPoly2
namespace Go.Proofs.Ytaffdppmpfgghaa
open Go.RowKit

def shB (n p : Int) : Bool := inB n 1 6 && inB p 0 30
def shM (n p : Int) : Int := if shB n p then (shr n.toNat p.toNat : Nat) else 0
theorem shB_true {n p : Int} (h : shB n p = true) : ∃ N P : Nat, n = N ∧ p = P ∧ 1 ≤ N ∧ N ≤ 6 ∧ P ≤ 30 ∧ shM n p = (shr N P : Nat) := by
  have h0 := h
  unfold shB at h
  rw [Bool.and_eq_true] at h
  have h1 := inB_true h.1
  have h2 := inB_true h.2
  exact ⟨n.toNat, p.toNat, by omega, by omega, by omega, by omega, by omega, by unfold shM; rw [if_pos h0]⟩
theorem shM_no {n p : Int} (h : shB n p = false) : shM n p = 0 := by unfold shM; rw [h]; rfl

/-! Bundles with a great length off -/
theorem rest_rel {P x k : Nat} (hx : x = (P + 1) / 2 + k) (h : x ≤ P) : k < P + 1 - (P + 1) / 2 := by omega

end Go.Proofs.Ytaffdppmpfgghaa
