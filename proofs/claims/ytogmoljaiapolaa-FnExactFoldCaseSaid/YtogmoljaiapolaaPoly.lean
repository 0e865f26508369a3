/- Gaps and closing, of the program and of the model. -/
import Derived.Test.YtogmoljaiapolaaPolyQ
import Derived.Test.YtogmoljaiapolaaS1a
import Derived.Lib.QuietBelow
namespace Go.Proofs.Ytogmoljaiapolaa
open Go.RowKit Go.Sort

theorem last_cell {w : World} {A : Option Addr} {n : Nat} {xs : List Int} (h : Rd w A n xs) (h1 : 1 ≤ n) : ∃ b off m, n = m + 1 ∧ A = some ⟨b, off, none⟩ ∧ b < w.heap.size ∧ w.cell? ⟨b, off + m, none⟩ = some (.int .i64 (xs.getD (xs.length - 1) 0)) := by
  obtain ⟨m, rfl⟩ : ∃ m, n = m + 1 := ⟨n - 1, by omega⟩
  obtain ⟨b, off, rfl, hb, hc⟩ := h.2 (by omega)
  refine ⟨b, off, m, rfl, rfl, hb, ?_⟩
  rw [h.1, Nat.add_sub_cancel]
  exact hc m (by omega)

theorem clos_few {xs : List Int} (h : ¬ 3 ≤ xs.length) : closB xs = false := by unfold closB; rw [decide_eq_false h]; rfl
theorem clos_is {xs : List Int} (h : 3 ≤ xs.length) : closB xs = decide (gapL xs > 0) := by unfold closB; rw [decide_eq_true h]; rfl

end Go.Proofs.Ytogmoljaiapolaa
