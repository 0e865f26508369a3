/- Plain lists: bundles, sorting, threes. Nothing of the program. -/
import Derived.Test.YtiadnbdefcimiaaKit
namespace Go.Proofs.Ytiadnbdefcimiaa
open Classical

/-- A bundle of sticks. -/
def Bundle (xs : List Int) : Prop :=
  1 ≤ xs.length ∧ xs.length ≤ 9 ∧ (∀ j, j < xs.length → 1 ≤ xs.getD j 0 ∧ xs.getD j 0 ≤ 60) ∧ ∀ j, j + 1 < xs.length → xs.getD j 0 ≤ xs.getD (j + 1) 0
noncomputable def bundleB (xs : List Int) : Bool := decide (Bundle xs)
theorem bundleB_true {xs : List Int} (h : bundleB xs = true) : Bundle xs := by simpa [bundleB] using h
theorem bundleB_mk {xs : List Int} (h : Bundle xs) : bundleB xs = true := by simpa [bundleB] using h
theorem bundleB_not {xs : List Int} (h : ¬ Bundle xs) : bundleB xs = false := by simpa [bundleB] using h

/-- The first k places of a list are as a bundle's. -/
def UpTo (xs : List Int) (k : Nat) : Prop := (∀ j, j < k → 1 ≤ xs.getD j 0 ∧ xs.getD j 0 ≤ 60) ∧ ∀ j, j + 1 < k → xs.getD j 0 ≤ xs.getD (j + 1) 0
theorem UpTo.zero (xs : List Int) : UpTo xs 0 := ⟨fun j hj => absurd hj (by omega), fun j hj => absurd hj (by omega)⟩
theorem UpTo.first {xs : List Int} (_h : UpTo xs 0) (h1 : 1 ≤ xs.getD 0 0) (h2 : xs.getD 0 0 ≤ 60) : UpTo xs 1 :=
  ⟨fun j hj => by obtain rfl : j = 0 := by omega
                  exact ⟨h1, h2⟩, fun j hj => absurd hj (by omega)⟩
theorem UpTo.step {xs : List Int} {k : Nat} (h : UpTo xs (k + 1)) (h1 : 1 ≤ xs.getD (k + 1) 0) (h2 : xs.getD (k + 1) 0 ≤ 60) (h3 : xs.getD k 0 ≤ xs.getD (k + 1) 0) : UpTo xs (k + 2) :=
  ⟨fun j hj => by
    by_cases e : j = k + 1
    · subst e; exact ⟨h1, h2⟩
    · exact h.1 j (by omega), fun j hj => by
    by_cases e : j = k
    · subst e; exact h3
    · exact h.2 j (by omega)⟩
theorem bundle_iff_upTo {xs : List Int} (h : UpTo xs xs.length) : bundleB xs = inB (xs.length : Int) 1 9 := by
  by_cases hb : Bundle xs
  · rw [bundleB_mk hb, inB_mk]
    · have := hb.1; omega
    · have := hb.2.1; omega
  · rw [bundleB_not hb]
    unfold Bundle at hb
    unfold inB
    by_cases h1 : 1 ≤ xs.length
    · by_cases h2 : xs.length ≤ 9
      · exact absurd ⟨h1, h2, h.1, h.2⟩ hb
      · simp; omega
    · simp; omega
theorem not_bundle_at {xs : List Int} {k : Nat} (hk : k < xs.length) (h : inB (xs.getD k 0) 1 60 = false) : bundleB xs = false :=
  bundleB_not fun hb => by
    have := hb.2.2.1 k hk
    rw [inB_mk this.1 this.2] at h
    cases h
theorem not_bundle_fall {xs : List Int} {k : Nat} (hk : k + 1 < xs.length) (h : xs.getD (k + 1) 0 < xs.getD k 0) : bundleB xs = false :=
  bundleB_not fun hb => by
    have := hb.2.2.2 k hk
    omega

def Asc (xs : List Int) : Prop := ∀ j, j + 1 < xs.length → xs.getD j 0 ≤ xs.getD (j + 1) 0
noncomputable def ascB (xs : List Int) : Bool := decide (Asc xs)
theorem ascB_mk {xs : List Int} (h : Asc xs) : ascB xs = true := by simpa [ascB] using h
theorem ascB_not {xs : List Int} {k : Nat} (hk : k + 1 < xs.length) (h : xs.getD (k + 1) 0 < xs.getD k 0) : ascB xs = false := by
  have : ¬ Asc xs := fun hA => by have := hA k hk; omega
  simpa [ascB] using this
theorem bundle_asc {xs : List Int} (h1 : 1 ≤ xs.length) (h2 : xs.length ≤ 9) (h3 : ∀ j, j < xs.length → inB (xs.getD j 0) 1 60 = true) : bundleB xs = ascB xs := by
  by_cases h : Asc xs
  · rw [ascB_mk h, bundleB_mk ⟨h1, h2, fun j hj => inB_true (h3 j hj), h⟩]
  · rw [bundleB_not (fun hb => h hb.2.2.2)]
    simpa [ascB] using h
theorem not_bundle_len {xs : List Int} (h : ¬ (1 ≤ xs.length ∧ xs.length ≤ 9)) : bundleB xs = false := bundleB_not fun hb => h ⟨hb.1, hb.2.1⟩

/-- The sum of the first k numbers. -/
def sumTo (xs : List Int) : Nat → Int
  | 0 => 0
  | k + 1 => sumTo xs k + xs.getD k 0
def sumL (xs : List Int) : Int := sumTo xs xs.length
def Small (M : Int) (xs : List Int) : Prop := ∀ j, j < xs.length → -M ≤ xs.getD j 0 ∧ xs.getD j 0 ≤ M
theorem sumTo_bd {M : Int} {xs : List Int} (h : Small M xs) : ∀ k, k ≤ xs.length → -(M * k) ≤ sumTo xs k ∧ sumTo xs k ≤ M * k := by
  intro k
  induction k with
  | zero => intro _; simp [sumTo]
  | succ k ih =>
    intro hk
    have h1 := ih (by omega)
    have h2 := h k (by omega)
    simp only [sumTo]
    have e : M * ((k + 1 : Nat) : Int) = M * k + M := by rw [Int.natCast_add, Int.mul_add]; simp
    rw [e]
    omega

theorem triB_rev (a b c : Int) : triB c b a = triB a b c := by
  unfold triB
  rw [Bool.eq_iff_iff]
  simp only [Bool.and_eq_true, decide_eq_true_eq]
  omega
/-- The widest triangle of three places beside each other among the first k. -/
def wid (xs : List Int) : Nat → Int × Bool
  | 0 => (0, false)
  | 1 => (0, false)
  | 2 => (0, false)
  | k + 3 => if triB (xs.getD k 0) (xs.getD (k + 1) 0) (xs.getD (k + 2) 0) then (xs.getD k 0 + xs.getD (k + 1) 0 + xs.getD (k + 2) 0, true) else wid xs (k + 2)
theorem wid_yes {xs : List Int} {k : Nat} (h : triB (xs.getD k 0) (xs.getD (k + 1) 0) (xs.getD (k + 2) 0) = true) : wid xs (k + 3) = (xs.getD k 0 + xs.getD (k + 1) 0 + xs.getD (k + 2) 0, true) := by rw [wid, if_pos h]
theorem wid_no {xs : List Int} {k : Nat} (h : triB (xs.getD k 0) (xs.getD (k + 1) 0) (xs.getD (k + 2) 0) = false) : wid xs (k + 3) = wid xs (k + 2) := by rw [wid, h]; simp
theorem wid_end {xs : List Int} {k : Nat} (h : k ≤ 2) : wid xs k = (0, false) := by
  match k, h with
  | 0, _ => rfl
  | 1, _ => rfl
  | 2, _ => rfl
noncomputable def widM (xs : List Int) : Int × Bool := if bundleB xs then wid xs xs.length else (0, false)
theorem widM_yes {xs : List Int} (h : bundleB xs = true) : widM xs = wid xs xs.length := by unfold widM; rw [if_pos h]
theorem widM_no {xs : List Int} (h : bundleB xs = false) : widM xs = (0, false) := by unfold widM; rw [h]; rfl
end Go.Proofs.Ytiadnbdefcimiaa
