/- An argument that is a slice of rows of ints, opened. -/
import Derived.Test.YtkjhkcnmhakfcaaRowH
import Derived.Deep.Matrix
namespace Go.Proofs.Ytkjhkcnmhakfcaa
open Go.RowKit Go.Sort Go.Lib Go.ChangeShapes Go.WideShapes

theorem row_open {w : World} {A : Option Addr} {n c : Nat} {zs : List Int} (h1 : n ≤ c) (h2 : zs.length = c) (h3 : A = none → c = 0) (h4 : ∀ a', A = some a' → ∀ i, i < c → w.cell? (a'.add i) = some (.int .i64 (zs.getD i 0))) : Rd w A n (zs.take n) := by
  cases A with
  | none =>
    have := h3 rfl
    obtain rfl : n = 0 := by omega
    rw [List.take_zero]
    exact Rd.nil_ _ _
  | some a => exact Rd.of_row (by omega) (fun i hi => h4 a rfl i (by omega))
theorem add_at (a : Addr) (hs : a.spot = none) (r : Nat) : a.add r = ⟨a.block, a.off + r, none⟩ := by
  obtain ⟨b, off, spot⟩ := a
  subst hs
  unfold Addr.add
  by_cases h : r = 0
  · subst h; simp
  · simp [h]
theorem rows_open {w : World} {a : Addr} {len cap : Nat} (hl : len ≤ cap) {A : Nat → Option Addr} {L C : Nat → Nat} {Z : Nat → List Int} {base : Nat}
    (h : ∀ r, r < cap → w.cell? (a.add r) = some (.slice (A r) (L r) (C r)) ∧ L r ≤ C r ∧ C r ≤ maxLen ∧ (Z r).length = C r ∧ (∀ n ∈ Z r, (Lit.int .i64 n).wf = true) ∧ (A r = none → C r = 0) ∧
        ∀ a', A r = some a' → base ≤ a'.block ∧ ∀ c, c < C r → w.cell? (a'.add c) = some (.int .i64 ((Z r).getD c 0))) :
    ∃ zs, RdM w (some a) len zs ∧ ∀ i, i < len → (rowL zs i).length ≤ 9223372036854775807 := by
  have hrow : ∀ r, r < len → rowL ((List.range len).map fun r => (Z r).take (L r)) r = (Z r).take (L r) := fun r hr => by simp [rowL, List.getD_eq_getElem?_getD, hr]
  have hlen : ∀ r, r < len → ((Z r).take (L r)).length = L r := fun r hr => by
    obtain ⟨_, h1, _, h2, _⟩ := h r (by omega)
    rw [List.length_take]; omega
  refine ⟨(List.range len).map fun r => (Z r).take (L r), ⟨by simp, fun hn => ?_⟩, fun i hi => ?_⟩
  · have h0 := (h 0 (by omega)).1
    have hs : a.spot = none := by
      obtain ⟨b, off, spot⟩ := a
      simpa [Addr.add] using World.cell?_spot h0
    refine ⟨a.block, a.off, ?_, ?_, fun j hj => ?_⟩
    · obtain ⟨b, off, spot⟩ := a; simp at hs; rw [hs]
    · have := World.block_lt_of_cell? _ _ h0
      rwa [add_at a hs] at this
    · obtain ⟨h1, h2, h3, h4, _, h5, h6⟩ := h j (by omega)
      rw [hrow j hj, hlen j hj]
      rw [add_at a hs] at h1
      exact ⟨A j, C j, h1, row_open h2 h4 h5 (fun a' e => (h6 a' e).2)⟩
  · rw [hrow i hi, hlen i hi]
    obtain ⟨_, h1, h2, _⟩ := h i (by omega)
    unfold maxLen at h2
    omega
end Go.Proofs.Ytkjhkcnmhakfcaa
