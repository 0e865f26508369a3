/- Contracts of chapter 2: areas, kinds. -/
import Derived.Test.YtliplbifgldjeaaTri
namespace Go.Proofs.Ytliplbifgldjeaa
open Go.RowKit Go.Sort

def areaM (a b c : Int) : Int := (a + b + c) * (a + b - c) * (a + c - b) * (b + c - a)
theorem area_bd {a b c : Int} (h : TriP a b c) : (0 ≤ (a + b + c) * (a + b - c) ∧ (a + b + c) * (a + b - c) ≤ 10800) ∧ (0 ≤ (a + b + c) * (a + b - c) * (a + c - b) ∧ (a + b + c) * (a + b - c) * (a + c - b) ≤ 1296000) ∧ (0 ≤ areaM a b c ∧ areaM a b c ≤ 155520000) := by
  obtain ⟨h1, h2, h3, h4, h5⟩ := h
  have p1 := mul_bd (a := a + b + c) (b := a + b - c) (A := 180) (B := 60) (by omega) (by omega) (by omega) (by omega)
  have p2 := mul_bd (a := (a + b + c) * (a + b - c)) (b := a + c - b) (A := 10800) (B := 120) p1.1 p1.2 (by omega) (by omega)
  have p3 := mul_bd (a := (a + b + c) * (a + b - c) * (a + c - b)) (b := b + c - a) (A := 1296000) (B := 120) p2.1 p2.2 (by omega) (by omega)
  exact ⟨p1, p2, p3⟩
/-- TriArea's answer. -/
noncomputable def arM (xs : List Int) : Int := if triLB xs then areaM (xs.getD 0 0) (xs.getD 1 0) (xs.getD 2 0) else 0
theorem arM_yes {xs : List Int} (h : triLB xs = true) : arM xs = areaM (xs.getD 0 0) (xs.getD 1 0) (xs.getD 2 0) := by unfold arM; rw [if_pos h]
theorem arM_no {xs : List Int} (h : triLB xs = false) : arM xs = 0 := by unfold arM; rw [h]; rfl
end Go.Proofs.Ytliplbifgldjeaa
