/- The walks of the exact laws PolyShares, PolyRest. -/
import Derived.Test.YtliplbifgldjeaaShares
namespace Go.Proofs.Ytliplbifgldjeaa
open Go.RowKit

set_option maxHeartbeats 1000000 in
theorem fnExactPolyShares_walk (a0 : Int) (a1 : Int) (w : World) (_ : (Lit.int .i64 a0).wf = true) (_ : (Lit.int .i64 a1).wf = true) :
    Calls Try.prog 16 #[.int .i64 a0, .int .i64 a1] w fun e w' => e = .returned (.bool true) ∧ Below w.heap.size w w' := by
  have B := Below.refl w.heap.size w
  go_enter Try.func16, Try.ntmps16
  go_wp2_with fail
  refine (specPolyShares_any _ _ _ ).mono ?_
  rintro e w1 ⟨rfl, b⟩
  replace b : Below w.heap.size w w1 := b ▸ Below.refl _ _
  replace B := B.trans (b.mono B.size)
  have s1 := b.size
  clear b
  go_wp2_with fail
  refine (implPolyShares_any _ _ _ ).mono ?_
  rintro e w2 ⟨rfl, b⟩
  replace b : Below w1.heap.size w1 w2 := b ▸ Below.refl _ _
  replace B := B.trans (b.mono B.size)
  have s2 := b.size
  clear b
  go_wp2_with fail
  go_ret
  exact ⟨rfl, B⟩

set_option maxHeartbeats 1000000 in
theorem fnExactPolyRest_walk (a0 : Int) (a1 : Int) (w : World) (_ : (Lit.int .i64 a0).wf = true) (_ : (Lit.int .i64 a1).wf = true) :
    Calls Try.prog 15 #[.int .i64 a0, .int .i64 a1] w fun e w' => e = .returned (.bool true) ∧ Below w.heap.size w w' := by
  have B := Below.refl w.heap.size w
  go_enter Try.func15, Try.ntmps15
  go_wp2_with fail
  refine (specPolyRest_any _ _ _ ).mono ?_
  rintro e w1 ⟨rfl, b⟩
  replace b : Below w.heap.size w w1 := b ▸ Below.refl _ _
  replace B := B.trans (b.mono B.size)
  have s1 := b.size
  clear b
  go_wp2_with fail
  refine (implPolyRest_any _ _ _ ).mono ?_
  rintro e w2 ⟨rfl, b⟩
  replace b : Below w1.heap.size w1 w2 := b ▸ Below.refl _ _
  replace B := B.trans (b.mono B.size)
  have s2 := b.size
  clear b
  go_wp2_with fail
  go_ret
  exact ⟨rfl, B⟩
end Go.Proofs.Ytliplbifgldjeaa
