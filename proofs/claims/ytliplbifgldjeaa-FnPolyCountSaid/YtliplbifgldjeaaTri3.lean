/- Contracts of chapter 2: TriKind, TriGrow, TriHalf, TriRound. -/
import Derived.Test.YtliplbifgldjeaaTri2
import Derived.Test.YtliplbifgldjeaaPut
namespace Go.Proofs.Ytliplbifgldjeaa
open Go.RowKit Go.Sort

def kindM (a b c : Int) : ByteArray := if c * c < a * a + b * b then ⟨#[97]⟩ else if c * c = a * a + b * b then ⟨#[114]⟩ else ⟨#[111]⟩
noncomputable def kndM (xs : List Int) : ByteArray := if triLB xs then kindM (xs.getD 0 0) (xs.getD 1 0) (xs.getD 2 0) else ⟨#[]⟩
theorem kndM_yes {xs : List Int} (h : triLB xs = true) : kndM xs = kindM (xs.getD 0 0) (xs.getD 1 0) (xs.getD 2 0) := by unfold kndM; rw [if_pos h]
theorem kndM_no {xs : List Int} (h : triLB xs = false) : kndM xs = ⟨#[]⟩ := by unfold kndM; rw [h]; rfl
theorem kind_a {a b c : Int} (h : c * c < a * a + b * b) : kindM a b c = ⟨#[97]⟩ := by unfold kindM; rw [if_pos h]
theorem kind_r {a b c : Int} (h : c * c = a * a + b * b) : kindM a b c = ⟨#[114]⟩ := by unfold kindM; rw [if_neg (by omega), if_pos h]
theorem kind_o {a b c : Int} (h : a * a + b * b < c * c) : kindM a b c = ⟨#[111]⟩ := by unfold kindM; rw [if_neg (by omega), if_neg (by omega)]
theorem sq_bd {a : Int} (h1 : 1 ≤ a) (h2 : a ≤ 60) : 0 ≤ a * a ∧ a * a ≤ 3600 := mul_bd (by omega) h2 (by omega) h2
/-- TriRound's answer. -/
def rndM (p : Int) : Int := if inB p 1 60 then (if p % 2 = 1 then ((p + 3) * (p + 3) + 24) / 48 else (p * p + 24) / 48) else 0
theorem rndM_odd {p : Int} (h : inB p 1 60 = true) (h2 : p % 2 = 1) : rndM p = ((p + 3) * (p + 3) + 24) / 48 := by unfold rndM; rw [if_pos h, if_pos h2]
theorem rndM_even {p : Int} (h : inB p 1 60 = true) (h2 : p % 2 = 0) : rndM p = (p * p + 24) / 48 := by unfold rndM; rw [if_pos h, if_neg (by omega)]
theorem rndM_no {p : Int} (h : inB p 1 60 = false) : rndM p = 0 := by unfold rndM; rw [h]; rfl
theorem sq63 {p : Int} (h1 : 1 ≤ p) (h2 : p ≤ 63) : 0 ≤ p * p ∧ p * p ≤ 3969 := mul_bd (by omega) h2 (by omega) h2
end Go.Proofs.Ytliplbifgldjeaa
