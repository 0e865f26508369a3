/- The walks of the exact laws of chapter 4. -/
import Derived.Test.YtjciligkaamepaaChain3
namespace Go.Proofs.Ytjciligkaamepaa
open Go.RowKit

set_option maxHeartbeats 1000000 in
theorem fnExactChainReach_walk (A0 : Option Addr) (n0 c0 : Nat) (z0 : List Int) (w : World) (h0 : Rd w A0 n0 z0) (_ : WfL .i64 z0) :
    Calls Try.prog 11 #[.slice A0 n0 c0] w fun e w' => e = .returned (.bool true) ∧ Below w.heap.size w w' := by
  by_cases big0 : n0 ≤ 1048576
  rotate_left
  · go_enter Try.func11, Try.ntmps11
    go_wp2_with fail
    go_ret
    exact ⟨rfl, Below.refl _ _⟩
  have B := Below.refl w.heap.size w
  go_enter Try.func11, Try.ntmps11
  go_wp2_with fail
  refine (toIntS_any _ _ _ z0 _ (h0.same B) big0).mono ?_
  rintro e w1 ⟨g_s0, rfl, o_s0, b⟩
  replace B := B.trans (b.mono B.size)
  have s1 := b.size
  clear b
  have row_s0 := o_s0.row
  go_wp2_with fail
  refine (specChainReach_any _ _ _ z0 _ o_s0.rd big0).mono ?_
  rintro e w2 ⟨rfl, b⟩
  replace B := B.trans (b.mono B.size)
  replace o_s0 := o_s0.same b
  have s2 := b.size
  clear b
  clear o_s0 row_s0
  go_wp2_with fail
  refine (toIntS_any _ _ _ z0 _ (h0.same B) big0).mono ?_
  rintro e w3 ⟨g_x0, rfl, o_x0, b⟩
  replace B := B.trans (b.mono B.size)
  have s3 := b.size
  clear b
  have row_x0 := o_x0.row
  go_wp2_with fail
  refine (implChainReach_any _ _ _ z0 _ o_x0.rd big0).mono ?_
  rintro e w4 ⟨rfl, b⟩
  replace B := B.trans (b.mono B.size)
  replace o_x0 := o_x0.same b
  have s4 := b.size
  clear b
  go_wp2_with fail
  refine (toIntS_any _ _ _ z0 _ (h0.same B) big0).mono ?_
  rintro e w5 ⟨g_y0, rfl, o_y0, b⟩
  replace B := B.trans (b.mono B.size)
  replace o_x0 := o_x0.same b
  have s5 := b.size
  clear b
  have row_y0 := o_y0.row
  go_wp2_with fail
  refine (eqIntS_same _ _ _ _ _ _ _ _ (o_x0.rd) (o_y0.rd) big0 big0).mono ?_
  rintro e w6 ⟨rfl, b⟩
  replace B := B.trans (b.mono B.size)
  replace o_x0 := o_x0.same b
  replace o_y0 := o_y0.same b
  have s6 := b.size
  clear b
  clear o_y0 row_y0
  go_wp2_with fail
  go_ret
  exact ⟨rfl, B⟩

set_option maxHeartbeats 1000000 in
theorem fnExactChainStep_walk (A0 : Option Addr) (n0 c0 : Nat) (z0 : List Int) (w : World) (h0 : Rd w A0 n0 z0) (_ : WfL .i64 z0) :
    Calls Try.prog 12 #[.slice A0 n0 c0] w fun e w' => e = .returned (.bool true) ∧ Below w.heap.size w w' := by
  by_cases big0 : n0 ≤ 1048576
  rotate_left
  · go_enter Try.func12, Try.ntmps12
    go_wp2_with fail
    go_ret
    exact ⟨rfl, Below.refl _ _⟩
  have B := Below.refl w.heap.size w
  go_enter Try.func12, Try.ntmps12
  go_wp2_with fail
  refine (toIntS_any _ _ _ z0 _ (h0.same B) big0).mono ?_
  rintro e w1 ⟨g_s0, rfl, o_s0, b⟩
  replace B := B.trans (b.mono B.size)
  have s1 := b.size
  clear b
  have row_s0 := o_s0.row
  go_wp2_with fail
  refine (specChainStep_any _ _ _ z0 _ o_s0.rd big0).mono ?_
  rintro e w2 ⟨rfl, b⟩
  replace B := B.trans (b.mono B.size)
  replace o_s0 := o_s0.same b
  have s2 := b.size
  clear b
  clear o_s0 row_s0
  go_wp2_with fail
  refine (toIntS_any _ _ _ z0 _ (h0.same B) big0).mono ?_
  rintro e w3 ⟨g_x0, rfl, o_x0, b⟩
  replace B := B.trans (b.mono B.size)
  have s3 := b.size
  clear b
  have row_x0 := o_x0.row
  go_wp2_with fail
  refine (implChainStep_any _ _ _ z0 _ o_x0.rd big0).mono ?_
  rintro e w4 ⟨rfl, b⟩
  replace B := B.trans (b.mono B.size)
  replace o_x0 := o_x0.same b
  have s4 := b.size
  clear b
  go_wp2_with fail
  refine (toIntS_any _ _ _ z0 _ (h0.same B) big0).mono ?_
  rintro e w5 ⟨g_y0, rfl, o_y0, b⟩
  replace B := B.trans (b.mono B.size)
  replace o_x0 := o_x0.same b
  have s5 := b.size
  clear b
  have row_y0 := o_y0.row
  go_wp2_with fail
  refine (eqIntS_same _ _ _ _ _ _ _ _ (o_x0.rd) (o_y0.rd) big0 big0).mono ?_
  rintro e w6 ⟨rfl, b⟩
  replace B := B.trans (b.mono B.size)
  replace o_x0 := o_x0.same b
  replace o_y0 := o_y0.same b
  have s6 := b.size
  clear b
  clear o_y0 row_y0
  go_wp2_with fail
  go_ret
  exact ⟨rfl, B⟩

set_option maxHeartbeats 1000000 in
theorem fnExactChainTo_walk (A0 : Option Addr) (n0 c0 : Nat) (z0 : List Int) (a1 : Int) (w : World) (h0 : Rd w A0 n0 z0) (_ : WfL .i64 z0) (_ : (Lit.int .i64 a1).wf = true) :
    Calls Try.prog 13 #[.slice A0 n0 c0, .int .i64 a1] w fun e w' => e = .returned (.bool true) ∧ Below w.heap.size w w' := by
  by_cases big0 : n0 ≤ 1048576
  rotate_left
  · go_enter Try.func13, Try.ntmps13
    go_wp2_with fail
    go_ret
    exact ⟨rfl, Below.refl _ _⟩
  have B := Below.refl w.heap.size w
  go_enter Try.func13, Try.ntmps13
  go_wp2_with fail
  refine (toIntS_any _ _ _ z0 _ (h0.same B) big0).mono ?_
  rintro e w1 ⟨g_s0, rfl, o_s0, b⟩
  replace B := B.trans (b.mono B.size)
  have s1 := b.size
  clear b
  have row_s0 := o_s0.row
  go_wp2_with fail
  refine (specChainTo_any _ _ _ z0 _ _ o_s0.rd big0).mono ?_
  rintro e w2 ⟨rfl, b⟩
  replace B := B.trans (b.mono B.size)
  replace o_s0 := o_s0.same b
  have s2 := b.size
  clear b
  clear o_s0 row_s0
  go_wp2_with fail
  refine (toIntS_any _ _ _ z0 _ (h0.same B) big0).mono ?_
  rintro e w3 ⟨g_x0, rfl, o_x0, b⟩
  replace B := B.trans (b.mono B.size)
  have s3 := b.size
  clear b
  have row_x0 := o_x0.row
  go_wp2_with fail
  refine (implChainTo_any _ _ _ z0 _ _ o_x0.rd big0).mono ?_
  rintro e w4 ⟨rfl, b⟩
  replace B := B.trans (b.mono B.size)
  replace o_x0 := o_x0.same b
  have s4 := b.size
  clear b
  go_wp2_with fail
  refine (toIntS_any _ _ _ z0 _ (h0.same B) big0).mono ?_
  rintro e w5 ⟨g_y0, rfl, o_y0, b⟩
  replace B := B.trans (b.mono B.size)
  replace o_x0 := o_x0.same b
  have s5 := b.size
  clear b
  have row_y0 := o_y0.row
  go_wp2_with fail
  refine (eqIntS_same _ _ _ _ _ _ _ _ (o_x0.rd) (o_y0.rd) big0 big0).mono ?_
  rintro e w6 ⟨rfl, b⟩
  replace B := B.trans (b.mono B.size)
  replace o_x0 := o_x0.same b
  replace o_y0 := o_y0.same b
  have s6 := b.size
  clear b
  clear o_y0 row_y0
  go_wp2_with fail
  go_ret
  exact ⟨rfl, B⟩

set_option maxHeartbeats 1000000 in
theorem fnExactChainMeet_walk (A0 : Option Addr) (n0 c0 : Nat) (z0 : List Int) (A1 : Option Addr) (n1 c1 : Nat) (z1 : List Int) (a2 : Int) (w : World) (h0 : Rd w A0 n0 z0) (_ : WfL .i64 z0) (h1 : Rd w A1 n1 z1) (_ : WfL .i64 z1) (_ : (Lit.int .i64 a2).wf = true) :
    Calls Try.prog 14 #[.slice A0 n0 c0, .slice A1 n1 c1, .int .i64 a2] w fun e w' => e = .returned (.bool true) ∧ Below w.heap.size w w' := by
  by_cases big0 : n0 ≤ 1048576
  rotate_left
  · go_enter Try.func14, Try.ntmps14
    go_wp2_with fail
    go_ret
    exact ⟨rfl, Below.refl _ _⟩
  by_cases big1 : n1 ≤ 1048576
  rotate_left
  · go_enter Try.func14, Try.ntmps14
    go_wp2_with fail
    go_ret
    exact ⟨rfl, Below.refl _ _⟩
  have B := Below.refl w.heap.size w
  go_enter Try.func14, Try.ntmps14
  go_wp2_with fail
  refine (toIntS_any _ _ _ z0 _ (h0.same B) big0).mono ?_
  rintro e w1 ⟨g_s0, rfl, o_s0, b⟩
  replace B := B.trans (b.mono B.size)
  have s1 := b.size
  clear b
  have row_s0 := o_s0.row
  go_wp2_with fail
  refine (toIntS_any _ _ _ z1 _ (h1.same B) big1).mono ?_
  rintro e w2 ⟨g_s1, rfl, o_s1, b⟩
  replace B := B.trans (b.mono B.size)
  replace o_s0 := o_s0.same b
  have s2 := b.size
  clear b
  have row_s1 := o_s1.row
  go_wp2_with fail
  refine (specChainMeet_any _ _ _ z0 _ _ _ z1 _ _ o_s0.rd big0 o_s1.rd big1).mono ?_
  rintro e w3 ⟨rfl, b⟩
  replace B := B.trans (b.mono B.size)
  replace o_s0 := o_s0.same b
  replace o_s1 := o_s1.same b
  have s3 := b.size
  clear b
  clear o_s0 row_s0
  clear o_s1 row_s1
  go_wp2_with fail
  refine (toIntS_any _ _ _ z0 _ (h0.same B) big0).mono ?_
  rintro e w4 ⟨g_x0, rfl, o_x0, b⟩
  replace B := B.trans (b.mono B.size)
  have s4 := b.size
  clear b
  have row_x0 := o_x0.row
  go_wp2_with fail
  refine (toIntS_any _ _ _ z1 _ (h1.same B) big1).mono ?_
  rintro e w5 ⟨g_x1, rfl, o_x1, b⟩
  replace B := B.trans (b.mono B.size)
  replace o_x0 := o_x0.same b
  have s5 := b.size
  clear b
  have row_x1 := o_x1.row
  go_wp2_with fail
  refine (implChainMeet_any _ _ _ z0 _ _ _ z1 _ _ o_x0.rd big0 o_x1.rd big1).mono ?_
  rintro e w6 ⟨rfl, b⟩
  replace B := B.trans (b.mono B.size)
  replace o_x0 := o_x0.same b
  replace o_x1 := o_x1.same b
  have s6 := b.size
  clear b
  go_wp2_with fail
  refine (toIntS_any _ _ _ z0 _ (h0.same B) big0).mono ?_
  rintro e w7 ⟨g_y0, rfl, o_y0, b⟩
  replace B := B.trans (b.mono B.size)
  replace o_x0 := o_x0.same b
  replace o_x1 := o_x1.same b
  have s7 := b.size
  clear b
  have row_y0 := o_y0.row
  go_wp2_with fail
  refine (eqIntS_same _ _ _ _ _ _ _ _ (o_x0.rd) (o_y0.rd) big0 big0).mono ?_
  rintro e w8 ⟨rfl, b⟩
  replace B := B.trans (b.mono B.size)
  replace o_x0 := o_x0.same b
  replace o_x1 := o_x1.same b
  replace o_y0 := o_y0.same b
  have s8 := b.size
  clear b
  clear o_y0 row_y0
  go_wp2_with fail
  refine (toIntS_any _ _ _ z1 _ (h1.same B) big1).mono ?_
  rintro e w9 ⟨g_y1, rfl, o_y1, b⟩
  replace B := B.trans (b.mono B.size)
  replace o_x0 := o_x0.same b
  replace o_x1 := o_x1.same b
  have s9 := b.size
  clear b
  have row_y1 := o_y1.row
  go_wp2_with fail
  refine (eqIntS_same _ _ _ _ _ _ _ _ (o_x1.rd) (o_y1.rd) big1 big1).mono ?_
  rintro e w10 ⟨rfl, b⟩
  replace B := B.trans (b.mono B.size)
  replace o_x0 := o_x0.same b
  replace o_x1 := o_x1.same b
  replace o_y1 := o_y1.same b
  have s10 := b.size
  clear b
  clear o_y1 row_y1
  go_wp2_with fail
  go_ret
  exact ⟨rfl, B⟩

set_option maxHeartbeats 1000000 in
theorem fnExactChainClose_walk (A0 : Option Addr) (n0 c0 : Nat) (z0 : List Int) (w : World) (h0 : Rd w A0 n0 z0) (_ : WfL .i64 z0) :
    Calls Try.prog 15 #[.slice A0 n0 c0] w fun e w' => e = .returned (.bool true) ∧ Below w.heap.size w w' := by
  by_cases big0 : n0 ≤ 1048576
  rotate_left
  · go_enter Try.func15, Try.ntmps15
    go_wp2_with fail
    go_ret
    exact ⟨rfl, Below.refl _ _⟩
  have B := Below.refl w.heap.size w
  go_enter Try.func15, Try.ntmps15
  go_wp2_with fail
  refine (toIntS_any _ _ _ z0 _ (h0.same B) big0).mono ?_
  rintro e w1 ⟨g_s0, rfl, o_s0, b⟩
  replace B := B.trans (b.mono B.size)
  have s1 := b.size
  clear b
  have row_s0 := o_s0.row
  go_wp2_with fail
  refine (specChainClose_any _ _ _ z0 _ o_s0.rd big0).mono ?_
  rintro e w2 ⟨rfl, b⟩
  replace B := B.trans (b.mono B.size)
  replace o_s0 := o_s0.same b
  have s2 := b.size
  clear b
  clear o_s0 row_s0
  go_wp2_with fail
  refine (toIntS_any _ _ _ z0 _ (h0.same B) big0).mono ?_
  rintro e w3 ⟨g_x0, rfl, o_x0, b⟩
  replace B := B.trans (b.mono B.size)
  have s3 := b.size
  clear b
  have row_x0 := o_x0.row
  go_wp2_with fail
  refine (implChainClose_any _ _ _ z0 _ o_x0.rd big0).mono ?_
  rintro e w4 ⟨rfl, b⟩
  replace B := B.trans (b.mono B.size)
  replace o_x0 := o_x0.same b
  have s4 := b.size
  clear b
  go_wp2_with fail
  refine (toIntS_any _ _ _ z0 _ (h0.same B) big0).mono ?_
  rintro e w5 ⟨g_y0, rfl, o_y0, b⟩
  replace B := B.trans (b.mono B.size)
  replace o_x0 := o_x0.same b
  have s5 := b.size
  clear b
  have row_y0 := o_y0.row
  go_wp2_with fail
  refine (eqIntS_same _ _ _ _ _ _ _ _ (o_x0.rd) (o_y0.rd) big0 big0).mono ?_
  rintro e w6 ⟨rfl, b⟩
  replace B := B.trans (b.mono B.size)
  replace o_x0 := o_x0.same b
  replace o_y0 := o_y0.same b
  have s6 := b.size
  clear b
  clear o_y0 row_y0
  go_wp2_with fail
  go_ret
  exact ⟨rfl, B⟩

set_option maxHeartbeats 1000000 in
theorem fnExactChainHold_walk (A0 : Option Addr) (n0 c0 : Nat) (z0 : List Int) (w : World) (h0 : Rd w A0 n0 z0) (_ : WfL .i64 z0) :
    Calls Try.prog 16 #[.slice A0 n0 c0] w fun e w' => e = .returned (.bool true) ∧ Below w.heap.size w w' := by
  by_cases big0 : n0 ≤ 1048576
  rotate_left
  · go_enter Try.func16, Try.ntmps16
    go_wp2_with fail
    go_ret
    exact ⟨rfl, Below.refl _ _⟩
  have B := Below.refl w.heap.size w
  go_enter Try.func16, Try.ntmps16
  go_wp2_with fail
  refine (toIntS_any _ _ _ z0 _ (h0.same B) big0).mono ?_
  rintro e w1 ⟨g_s0, rfl, o_s0, b⟩
  replace B := B.trans (b.mono B.size)
  have s1 := b.size
  clear b
  have row_s0 := o_s0.row
  go_wp2_with fail
  refine (specChainHold_any _ _ _ z0 _ o_s0.rd big0).mono ?_
  rintro e w2 ⟨rfl, b⟩
  replace B := B.trans (b.mono B.size)
  replace o_s0 := o_s0.same b
  have s2 := b.size
  clear b
  clear o_s0 row_s0
  go_wp2_with fail
  refine (toIntS_any _ _ _ z0 _ (h0.same B) big0).mono ?_
  rintro e w3 ⟨g_x0, rfl, o_x0, b⟩
  replace B := B.trans (b.mono B.size)
  have s3 := b.size
  clear b
  have row_x0 := o_x0.row
  go_wp2_with fail
  refine (implChainHold_any _ _ _ z0 _ o_x0.rd big0).mono ?_
  rintro e w4 ⟨rfl, b⟩
  replace B := B.trans (b.mono B.size)
  replace o_x0 := o_x0.same b
  have s4 := b.size
  clear b
  go_wp2_with fail
  refine (toIntS_any _ _ _ z0 _ (h0.same B) big0).mono ?_
  rintro e w5 ⟨g_y0, rfl, o_y0, b⟩
  replace B := B.trans (b.mono B.size)
  replace o_x0 := o_x0.same b
  have s5 := b.size
  clear b
  have row_y0 := o_y0.row
  go_wp2_with fail
  refine (eqIntS_same _ _ _ _ _ _ _ _ (o_x0.rd) (o_y0.rd) big0 big0).mono ?_
  rintro e w6 ⟨rfl, b⟩
  replace B := B.trans (b.mono B.size)
  replace o_x0 := o_x0.same b
  replace o_y0 := o_y0.same b
  have s6 := b.size
  clear b
  clear o_y0 row_y0
  go_wp2_with fail
  go_ret
  exact ⟨rfl, B⟩

set_option maxHeartbeats 1000000 in
theorem fnExactChainBest_walk (A0 : Option Addr) (n0 c0 : Nat) (z0 : List Int) (a1 : Int) (w : World) (h0 : Rd w A0 n0 z0) (_ : WfL .i64 z0) (_ : (Lit.int .i64 a1).wf = true) :
    Calls Try.prog 17 #[.slice A0 n0 c0, .int .i64 a1] w fun e w' => e = .returned (.bool true) ∧ Below w.heap.size w w' := by
  by_cases big0 : n0 ≤ 1048576
  rotate_left
  · go_enter Try.func17, Try.ntmps17
    go_wp2_with fail
    go_ret
    exact ⟨rfl, Below.refl _ _⟩
  have B := Below.refl w.heap.size w
  go_enter Try.func17, Try.ntmps17
  go_wp2_with fail
  refine (toIntS_any _ _ _ z0 _ (h0.same B) big0).mono ?_
  rintro e w1 ⟨g_s0, rfl, o_s0, b⟩
  replace B := B.trans (b.mono B.size)
  have s1 := b.size
  clear b
  have row_s0 := o_s0.row
  go_wp2_with fail
  refine (specChainBest_any _ _ _ z0 _ _ o_s0.rd big0 (Nat.le_refl _)).mono ?_
  rintro e w2 ⟨rfl, b⟩
  replace B := B.trans (b.mono B.size)
  replace o_s0 := o_s0.same b
  have s2 := b.size
  clear b
  clear o_s0 row_s0
  go_wp2_with fail
  refine (toIntS_any _ _ _ z0 _ (h0.same B) big0).mono ?_
  rintro e w3 ⟨g_x0, rfl, o_x0, b⟩
  replace B := B.trans (b.mono B.size)
  have s3 := b.size
  clear b
  have row_x0 := o_x0.row
  go_wp2_with fail
  refine (implChainBest_any _ _ _ z0 _ _ o_x0.rd big0 (Nat.le_refl _)).mono ?_
  rintro e w4 ⟨rfl, b⟩
  replace B := B.trans (b.mono B.size)
  replace o_x0 := o_x0.same b
  have s4 := b.size
  clear b
  go_wp2_with fail
  refine (toIntS_any _ _ _ z0 _ (h0.same B) big0).mono ?_
  rintro e w5 ⟨g_y0, rfl, o_y0, b⟩
  replace B := B.trans (b.mono B.size)
  replace o_x0 := o_x0.same b
  have s5 := b.size
  clear b
  have row_y0 := o_y0.row
  go_wp2_with fail
  refine (eqIntS_same _ _ _ _ _ _ _ _ (o_x0.rd) (o_y0.rd) big0 big0).mono ?_
  rintro e w6 ⟨rfl, b⟩
  replace B := B.trans (b.mono B.size)
  replace o_x0 := o_x0.same b
  replace o_y0 := o_y0.same b
  have s6 := b.size
  clear b
  clear o_y0 row_y0
  go_wp2_with fail
  go_ret
  exact ⟨rfl, B⟩

end Go.Proofs.Ytjciligkaamepaa
