/- The walk of the exact law PolyCount. -/
import Derived.Test.YtliplbifgldjeaaTryC
import Derived.Test.YtliplbifgldjeaaLst3
namespace Go.Proofs.Ytliplbifgldjeaa
open Go.RowKit

set_option maxHeartbeats 1000000 in
theorem fnExactPolyCount_walk (a0 : Int) (a1 : Int) (w : World) (_ : (Lit.int .i64 a0).wf = true) (_ : (Lit.int .i64 a1).wf = true) :
    Calls Try.prog 14 #[.int .i64 a0, .int .i64 a1] w fun e w' => e = .returned (.bool true) ∧ Below w.heap.size w w' := by
  have B := Below.refl w.heap.size w
  go_enter Try.func14, Try.ntmps14
  go_wp2_with fail
  refine (specPolyCount_any _ _ _ ).mono ?_
  rintro e w1 ⟨rfl, b⟩
  replace B := B.trans (b.mono B.size)
  have s1 := b.size
  clear b
  go_wp2_with fail
  refine (implPolyCount_any _ _ _ ).mono ?_
  rintro e w2 ⟨rfl, b⟩
  replace B := B.trans (b.mono B.size)
  have s2 := b.size
  clear b
  go_wp2_with fail
  go_ret
  exact ⟨rfl, B⟩
end Go.Proofs.Ytliplbifgldjeaa
