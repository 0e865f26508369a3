/- The walks of the exact laws TriCount, TriInside. -/
import Derived.Test.YtcfmnjkgebopcaaInside
namespace Go.Proofs.Ytcfmnjkgebopcaa
open Go.RowKit

set_option maxHeartbeats 1000000 in
theorem fnExactTriCount_walk (a0 : Int) (w : World) (_ : (Lit.int .i64 a0).wf = true) :
    Calls Try.prog 27 #[.int .i64 a0] w fun e w' => e = .returned (.bool true) ∧ Below w.heap.size w w' := by
  have B := Below.refl w.heap.size w
  go_enter Try.func27, Try.ntmps27
  go_wp2_with fail
  refine (specTriCount_any _ _ ).mono ?_
  rintro e w1 ⟨rfl, b⟩
  replace B := B.trans (b.mono B.size)
  have s1 := b.size
  clear b
  go_wp2_with fail
  refine (implTriCount_any _ _ ).mono ?_
  rintro e w2 ⟨rfl, b⟩
  replace B := B.trans (b.mono B.size)
  have s2 := b.size
  clear b
  go_wp2_with fail
  go_ret
  exact ⟨rfl, B⟩


set_option maxHeartbeats 1000000 in
theorem fnExactTriInside_walk (a0 : Int) (w : World) (_ : (Lit.int .i64 a0).wf = true) :
    Calls Try.prog 33 #[.int .i64 a0] w fun e w' => e = .returned (.bool true) ∧ Below w.heap.size w w' := by
  have B := Below.refl w.heap.size w
  go_enter Try.func33, Try.ntmps33
  go_wp2_with fail
  refine (specTriInside_any _ _ ).mono ?_
  rintro e w1 ⟨rfl, b⟩
  replace B := B.trans (b.mono B.size)
  have s1 := b.size
  clear b
  go_wp2_with fail
  refine (implTriInside_any _ _ ).mono ?_
  rintro e w2 ⟨rfl, b⟩
  replace B := B.trans (b.mono B.size)
  have s2 := b.size
  clear b
  go_wp2_with fail
  go_ret
  exact ⟨rfl, B⟩


end Go.Proofs.Ytcfmnjkgebopcaa
