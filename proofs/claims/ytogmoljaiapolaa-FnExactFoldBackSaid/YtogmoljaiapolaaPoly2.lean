/- Which numbers are counted; PolyCloses, PolyGap, PolyMost, PolyFix of the program and of the model. -/
import Derived.Test.YtogmoljaiapolaaPoly
import Derived.Test.YtogmoljaiapolaaApp
namespace Go.Proofs.Ytogmoljaiapolaa
open Go.RowKit

def mayB (n p : Int) : Bool := inB n 3 6 && inB p 1 30
theorem mayB_true {n p : Int} (h : mayB n p = true) : ∃ N P : Nat, n = N ∧ p = P ∧ 3 ≤ N ∧ N ≤ 6 ∧ 1 ≤ P ∧ P ≤ 30 := by
  unfold mayB at h
  rw [Bool.and_eq_true] at h
  have h1 := inB_true h.1
  have h2 := inB_true h.2
  exact ⟨n.toNat, p.toNat, by omega, by omega, by omega, by omega, by omega, by omega⟩

/-- A bundle that closes. -/
noncomputable def pcB (xs : List Int) : Bool := bundleB xs && closB xs
theorem pcB_yes {xs : List Int} (h : bundleB xs = true) : pcB xs = closB xs := by unfold pcB; rw [h]; rfl
theorem pcB_no {xs : List Int} (h : bundleB xs = false) : pcB xs = false := by unfold pcB; rw [h]; rfl

noncomputable def gpM (xs : List Int) : Int := if bundleB xs then gapL xs else 0
theorem gpM_yes {xs : List Int} (h : bundleB xs = true) : gpM xs = gapL xs := by unfold gpM; rw [if_pos h]
theorem gpM_no {xs : List Int} (h : bundleB xs = false) : gpM xs = 0 := by unfold gpM; rw [h]; rfl
theorem ret_ibs {a b : Int} {c d : Bool} (h : a = b) (k : c = d) : Ending.returned (.tuple #[.int .i64 a, .bool c]) = .returned (.tuple #[.int .i64 b, .bool d]) := by subst h k; rfl

theorem small_take {M : Int} {xs : List Int} (h : Small M xs) (k : Nat) : Small M (xs.take k) := fun j hj => by
  rw [List.length_take] at hj
  rw [getD_take (by omega)]
  exact h j (by omega)

noncomputable def mstM (xs : List Int) : Int := if bundleB xs then (mostL xs : Nat) else 0
theorem mstM_yes {xs : List Int} (h : bundleB xs = true) : mstM xs = (mostL xs : Nat) := by unfold mstM; rw [if_pos h]
theorem mstM_no {xs : List Int} (h : bundleB xs = false) : mstM xs = 0 := by unfold mstM; rw [h]; rfl

/-! The stick that lets a bundle close -/
noncomputable def fixB (xs : List Int) : Bool := bundleB xs && (decide (2 ≤ xs.length) && decide (xs.length ≤ 8))
noncomputable def fixM (xs : List Int) : Int := if fixB xs then fixL xs else 0
theorem fixM_yes {xs : List Int} (h : fixB xs = true) : fixM xs = fixL xs := by unfold fixM; rw [if_pos h]
theorem fixM_no {xs : List Int} (h : fixB xs = false) : fixM xs = 0 := by unfold fixM; rw [h]; rfl
theorem fixB_bundle {xs : List Int} (h : bundleB xs = false) : fixB xs = false := by unfold fixB; rw [h]; rfl
theorem fixB_one {xs : List Int} (h : ¬ 2 ≤ xs.length) : fixB xs = false := by unfold fixB; rw [decide_eq_false h]; simp
theorem fixB_nine {xs : List Int} (h : ¬ xs.length ≤ 8) : fixB xs = false := by unfold fixB; rw [decide_eq_false h]; simp
theorem fixB_yes {xs : List Int} (h : bundleB xs = true) (h2 : 2 ≤ xs.length) (h8 : xs.length ≤ 8) : fixB xs = true := by unfold fixB; rw [h, decide_eq_true h2, decide_eq_true h8]; rfl
theorem fixL_is (xs : List Int) : (1 < 1 - gapL xs ∧ fixL xs = 1 - gapL xs) ∨ (1 - gapL xs ≤ 1 ∧ fixL xs = 1) := by unfold fixL; omega

/-! Bundles that close, counted -/
def rstM (n p : Int) : Int := if mayB n p then (polN n.toNat p.toNat : Nat) else 0
theorem rstM_yes {N P : Nat} (h : mayB N P = true) : rstM N P = (polN N P : Nat) := by unfold rstM; rw [if_pos h]; simp
theorem rstM_no {n p : Int} (h : mayB n p = false) : rstM n p = 0 := by unfold rstM; rw [h]; rfl
end Go.Proofs.Ytogmoljaiapolaa
