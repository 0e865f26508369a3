/- The law FnSum's walk. -/
import Derived.Test.YtiadnbdefcimiaaDraw
import Derived.Test.YtiadnbdefcimiaaLaw1a
import Derived.Test.YtiadnbdefcimiaaS1a
namespace Go.Proofs.Ytiadnbdefcimiaa
open Go.RowKit

theorem sum_ge {xs : List Int} (hb : Bundle xs) : (xs.length : Int) ≤ sumL xs := by
  have key : ∀ k, k ≤ xs.length → (k : Int) ≤ sumTo xs k := by
    intro k
    induction k with
    | zero => intro _; simp [sumTo]
    | succ k ih =>
      intro hk
      have h1 := ih (by omega)
      have h2 := hb.2.2.1 k (by omega)
      simp only [sumTo]
      omega
  exact key _ (Nat.le_refl _)
theorem small_of_bundle {xs : List Int} (hb : Bundle xs) : Small 1000000 xs := fun j hj => by
  have := hb.2.2.1 j hj; omega

end Go.Proofs.Ytiadnbdefcimiaa
