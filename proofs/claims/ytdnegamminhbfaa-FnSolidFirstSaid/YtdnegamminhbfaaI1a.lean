/- Contracts of the program's functions of chapter 1: bundles, sums. -/
import Derived.Test.YtdnegamminhbfaaPure1
import Derived.Test.YtdnegamminhbfaaKit
namespace Go.Proofs.Ytdnegamminhbfaa
open Go.RowKit

theorem isNaN_any (n : Int) (w : World) : Calls Try.prog 156 #[.int .i64 n] w fun e w' => e = .returned (.bool false) ∧ w = w' := by
  have hm : (n != n) = false := by simp
  go_enter Try.func156, Try.ntmps156
  go_wp2
  go_ret
  exact ⟨rfl, rfl⟩

noncomputable def sumM (xs : List Int) : Int := if bundleB xs then sumL xs else 0
theorem bundle_small {xs : List Int} (h : Bundle xs) : Small 1000000 xs := fun j hj => by have := h.2.2.1 j hj; omega
end Go.Proofs.Ytdnegamminhbfaa
