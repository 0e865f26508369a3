/- Contracts for StickTryFree: the searches of the program and of the model. -/
import Derived.Test.YtliplbifgldjeaaSMany
import Derived.Test.YtliplbifgldjeaaLon
import Derived.Test.YtliplbifgldjeaaWidP
import Derived.Test.YtliplbifgldjeaaSpecSort
namespace Go.Proofs.Ytliplbifgldjeaa
open Go.RowKit

/-- Lengths up to 8 that go on to x. -/
def Upto (xs : List Int) (x : Int) : Prop := Asc xs ∧ (∀ y ∈ xs, 1 ≤ y ∧ y ≤ x) ∧ 1 ≤ x
theorem Upto.snoc {xs : List Int} {x y : Int} (h : Upto xs x) (hy : x ≤ y) : Upto (xs ++ [y]) y :=
  ⟨asc_snoc h.1 (fun z hz => by have := h.2.1 z hz; omega), fun z hz => by
    rcases List.mem_append.1 hz with hz | hz
    · have := h.2.1 z hz; omega
    · simp at hz; subst hz; have := h.2.2; omega, by have := h.2.2; omega⟩
theorem Upto.sort {xs : List Int} {x y : Int} (h : Upto xs x) (hy : x ≤ y) : isort (xs ++ [y]) = xs ++ [y] := isort_asc (h.snoc hy).1
theorem Upto.bd {xs : List Int} {x : Int} (h : Upto xs x) (h8 : x ≤ 60) : ∀ j, j < xs.length → 1 ≤ xs.getD j 0 ∧ xs.getD j 0 ≤ 60 := fun j hj => by
  have := h.2.1 _ (getD_mem hj); omega

/-- From which length on the model goes. -/
def fromOf (xs : List Int) : Int := if xs.length = 0 then 1 else xs.getD (xs.length - 1) 0
theorem fromOf_snoc (xs : List Int) (x : Int) : fromOf (xs ++ [x]) = x := by
  unfold fromOf
  rw [if_neg (by simp), List.length_append, List.length_singleton, Nat.add_sub_cancel, List.getD_eq_getElem?_getD, List.getElem?_append_right (Nat.le_refl _)]
  simp
/-- StickTryFree's answer. -/
def tryM (n : Int) : Int := if inB n 1 8 then lon 9 [] 1 n else 0
theorem tryM_yes {n : Int} (h : inB n 1 8 = true) : tryM n = lon 9 [] 1 n := by unfold tryM; rw [if_pos h]
theorem tryM_no {n : Int} (h : inB n 1 8 = false) : tryM n = 0 := by unfold tryM; rw [h]; rfl
theorem upto_nil : Upto [] 1 := ⟨fun j hj => absurd hj (by simp), fun y hy => by simp at hy, by omega⟩
end Go.Proofs.Ytliplbifgldjeaa
