/- The walk of the exact law of PartMost. -/
import Derived.Test.YtaffdppmpfgghaaParB
import Derived.Test.YtaffdppmpfgghaaKit
namespace Go.Proofs.Ytaffdppmpfgghaa
open Go.RowKit

set_option maxHeartbeats 1000000 in
theorem fnExactPartMost_walk (A0 : Option Addr) (n0 c0 : Nat) (z0 : List Int) (w : World) (h0 : Rd w A0 n0 z0) (_ : WfL .i64 z0) :
    Calls Try.prog 24 #[.slice A0 n0 c0] w fun e w' => e = .returned (.bool true) ∧ Below w.heap.size w w' := by
  by_cases big0 : n0 ≤ 1048576
  rotate_left
  · go_enter Try.func24, Try.ntmps24
    go_wp2_with fail
    go_ret
    exact ⟨rfl, Below.refl _ _⟩
  have B := Below.refl w.heap.size w
  go_enter Try.func24, Try.ntmps24
  go_wp2_with fail
  refine (toIntS_any _ _ _ z0 _ (h0.same B) big0).mono ?_
  rintro e w1 ⟨g_s0, rfl, o_s0, b⟩
  replace B := B.trans (b.mono B.size)
  have s1 := b.size
  clear b
  have row_s0 := o_s0.row
  go_wp2_with fail
  refine (specPartMost_any _ _ _ z0 _ o_s0.rd big0).mono ?_
  rintro e w2 ⟨rfl, b⟩
  replace B := B.trans (b.mono B.size)
  replace o_s0 := o_s0.same b
  have s2 := b.size
  clear b
  clear o_s0 row_s0
  go_wp2_with fail
  refine (toIntS_any _ _ _ z0 _ (h0.same B) big0).mono ?_
  rintro e w3 ⟨g_x0, rfl, o_x0, b⟩
  replace B := B.trans (b.mono B.size)
  have s3 := b.size
  clear b
  have row_x0 := o_x0.row
  go_wp2_with fail
  refine (implPartMost_any _ _ _ z0 _ o_x0.rd big0).mono ?_
  rintro e w4 ⟨rfl, b⟩
  replace B := B.trans (b.mono B.size)
  replace o_x0 := o_x0.same b
  have s4 := b.size
  clear b
  go_wp2_with fail
  refine (toIntS_any _ _ _ z0 _ (h0.same B) big0).mono ?_
  rintro e w5 ⟨g_y0, rfl, o_y0, b⟩
  replace B := B.trans (b.mono B.size)
  replace o_x0 := o_x0.same b
  have s5 := b.size
  clear b
  have row_y0 := o_y0.row
  go_wp2_with fail
  refine (eqIntS_same _ _ _ _ _ _ _ _ (o_x0.rd) (o_y0.rd) big0 big0).mono ?_
  rintro e w6 ⟨rfl, b⟩
  replace B := B.trans (b.mono B.size)
  replace o_x0 := o_x0.same b
  replace o_y0 := o_y0.same b
  have s6 := b.size
  clear b
  clear o_y0 row_y0
  go_wp2_with fail
  go_ret
  exact ⟨rfl, B⟩
end Go.Proofs.Ytaffdppmpfgghaa
