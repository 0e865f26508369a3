/- The walks of exact laws of chapter 9. -/
import Derived.Test.YtiadnbdefcimiaaParF
import Derived.Test.YtiadnbdefcimiaaParW
import Derived.Test.YtiadnbdefcimiaaPisP
import Derived.Test.YtiadnbdefcimiaaKit
namespace Go.Proofs.Ytiadnbdefcimiaa
open Go.RowKit

set_option maxHeartbeats 1000000 in
theorem fnExactPartWays_walk (A0 : Option Addr) (n0 c0 : Nat) (z0 : List Int) (w : World) (h0 : Rd w A0 n0 z0) (_ : WfL .i64 z0) :
    Calls Try.prog 11 #[.slice A0 n0 c0] w fun e w' => e = .returned (.bool true) ∧ Below w.heap.size w w' := by
  by_cases big0 : n0 ≤ 1048576
  rotate_left
  · go_enter Try.func11, Try.ntmps11
    go_wp2_with fail
    go_ret
    exact ⟨rfl, Below.refl _ _⟩
  have B := Below.refl w.heap.size w
  go_enter Try.func11, Try.ntmps11
  go_wp2_with fail
  refine (toIntS_any _ _ _ z0 _ (h0.same B) big0).mono ?_
  rintro e w1 ⟨g_s0, rfl, o_s0, b⟩
  replace B := B.trans (b.mono B.size)
  have s1 := b.size
  clear b
  have row_s0 := o_s0.row
  go_wp2_with fail
  refine (specPartWays_any _ _ _ z0 _ o_s0.rd big0).mono ?_
  rintro e w2 ⟨rfl, b⟩
  replace B := B.trans (b.mono B.size)
  replace o_s0 := o_s0.same b
  have s2 := b.size
  clear b
  clear o_s0 row_s0
  go_wp2_with fail
  refine (toIntS_any _ _ _ z0 _ (h0.same B) big0).mono ?_
  rintro e w3 ⟨g_x0, rfl, o_x0, b⟩
  replace B := B.trans (b.mono B.size)
  have s3 := b.size
  clear b
  have row_x0 := o_x0.row
  go_wp2_with fail
  refine (implPartWays_any _ _ _ z0 _ o_x0.rd big0).mono ?_
  rintro e w4 ⟨rfl, b⟩
  replace B := B.trans (b.mono B.size)
  replace o_x0 := o_x0.same b
  have s4 := b.size
  clear b
  go_wp2_with fail
  refine (toIntS_any _ _ _ z0 _ (h0.same B) big0).mono ?_
  rintro e w5 ⟨g_y0, rfl, o_y0, b⟩
  replace B := B.trans (b.mono B.size)
  replace o_x0 := o_x0.same b
  have s5 := b.size
  clear b
  have row_y0 := o_y0.row
  go_wp2_with fail
  refine (eqIntS_same _ _ _ _ _ _ _ _ (o_x0.rd) (o_y0.rd) big0 big0).mono ?_
  rintro e w6 ⟨rfl, b⟩
  replace B := B.trans (b.mono B.size)
  replace o_x0 := o_x0.same b
  replace o_y0 := o_y0.same b
  have s6 := b.size
  clear b
  clear o_y0 row_y0
  go_wp2_with fail
  go_ret
  exact ⟨rfl, B⟩

set_option maxHeartbeats 1000000 in
theorem fnExactPartRound_walk (A0 : Option Addr) (n0 c0 : Nat) (z0 : List Int) (w : World) (h0 : Rd w A0 n0 z0) (_ : WfL .i64 z0) :
    Calls Try.prog 14 #[.slice A0 n0 c0] w fun e w' => e = .returned (.bool true) ∧ Below w.heap.size w w' := by
  by_cases big0 : n0 ≤ 1048576
  rotate_left
  · go_enter Try.func14, Try.ntmps14
    go_wp2_with fail
    go_ret
    exact ⟨rfl, Below.refl _ _⟩
  have B := Below.refl w.heap.size w
  go_enter Try.func14, Try.ntmps14
  go_wp2_with fail
  refine (toIntS_any _ _ _ z0 _ (h0.same B) big0).mono ?_
  rintro e w1 ⟨g_s0, rfl, o_s0, b⟩
  replace B := B.trans (b.mono B.size)
  have s1 := b.size
  clear b
  have row_s0 := o_s0.row
  go_wp2_with fail
  refine (specPartRound_any _ _ _ z0 _ o_s0.rd big0).mono ?_
  rintro e w2 ⟨rfl, b⟩
  replace B := B.trans (b.mono B.size)
  replace o_s0 := o_s0.same b
  have s2 := b.size
  clear b
  clear o_s0 row_s0
  go_wp2_with fail
  refine (toIntS_any _ _ _ z0 _ (h0.same B) big0).mono ?_
  rintro e w3 ⟨g_x0, rfl, o_x0, b⟩
  replace B := B.trans (b.mono B.size)
  have s3 := b.size
  clear b
  have row_x0 := o_x0.row
  go_wp2_with fail
  refine (implPartRound_any _ _ _ z0 _ o_x0.rd big0).mono ?_
  rintro e w4 ⟨rfl, b⟩
  replace B := B.trans (b.mono B.size)
  replace o_x0 := o_x0.same b
  have s4 := b.size
  clear b
  go_wp2_with fail
  refine (toIntS_any _ _ _ z0 _ (h0.same B) big0).mono ?_
  rintro e w5 ⟨g_y0, rfl, o_y0, b⟩
  replace B := B.trans (b.mono B.size)
  replace o_x0 := o_x0.same b
  have s5 := b.size
  clear b
  have row_y0 := o_y0.row
  go_wp2_with fail
  refine (eqIntS_same _ _ _ _ _ _ _ _ (o_x0.rd) (o_y0.rd) big0 big0).mono ?_
  rintro e w6 ⟨rfl, b⟩
  replace B := B.trans (b.mono B.size)
  replace o_x0 := o_x0.same b
  replace o_y0 := o_y0.same b
  have s6 := b.size
  clear b
  clear o_y0 row_y0
  go_wp2_with fail
  go_ret
  exact ⟨rfl, B⟩

set_option maxHeartbeats 1000000 in
theorem fnExactPartEqual_walk (A0 : Option Addr) (n0 c0 : Nat) (z0 : List Int) (w : World) (h0 : Rd w A0 n0 z0) (_ : WfL .i64 z0) :
    Calls Try.prog 15 #[.slice A0 n0 c0] w fun e w' => e = .returned (.bool true) ∧ Below w.heap.size w w' := by
  by_cases big0 : n0 ≤ 1048576
  rotate_left
  · go_enter Try.func15, Try.ntmps15
    go_wp2_with fail
    go_ret
    exact ⟨rfl, Below.refl _ _⟩
  have B := Below.refl w.heap.size w
  go_enter Try.func15, Try.ntmps15
  go_wp2_with fail
  refine (toIntS_any _ _ _ z0 _ (h0.same B) big0).mono ?_
  rintro e w1 ⟨g_s0, rfl, o_s0, b⟩
  replace B := B.trans (b.mono B.size)
  have s1 := b.size
  clear b
  have row_s0 := o_s0.row
  go_wp2_with fail
  refine (specPartEqual_any _ _ _ z0 _ o_s0.rd big0).mono ?_
  rintro e w2 ⟨rfl, b⟩
  replace B := B.trans (b.mono B.size)
  replace o_s0 := o_s0.same b
  have s2 := b.size
  clear b
  clear o_s0 row_s0
  go_wp2_with fail
  refine (toIntS_any _ _ _ z0 _ (h0.same B) big0).mono ?_
  rintro e w3 ⟨g_x0, rfl, o_x0, b⟩
  replace B := B.trans (b.mono B.size)
  have s3 := b.size
  clear b
  have row_x0 := o_x0.row
  go_wp2_with fail
  refine (implPartEqual_any _ _ _ z0 _ o_x0.rd big0).mono ?_
  rintro e w4 ⟨rfl, b⟩
  replace B := B.trans (b.mono B.size)
  replace o_x0 := o_x0.same b
  have s4 := b.size
  clear b
  go_wp2_with fail
  refine (toIntS_any _ _ _ z0 _ (h0.same B) big0).mono ?_
  rintro e w5 ⟨g_y0, rfl, o_y0, b⟩
  replace B := B.trans (b.mono B.size)
  replace o_x0 := o_x0.same b
  have s5 := b.size
  clear b
  have row_y0 := o_y0.row
  go_wp2_with fail
  refine (eqIntS_same _ _ _ _ _ _ _ _ (o_x0.rd) (o_y0.rd) big0 big0).mono ?_
  rintro e w6 ⟨rfl, b⟩
  replace B := B.trans (b.mono B.size)
  replace o_x0 := o_x0.same b
  replace o_y0 := o_y0.same b
  have s6 := b.size
  clear b
  clear o_y0 row_y0
  go_wp2_with fail
  go_ret
  exact ⟨rfl, B⟩

set_option maxHeartbeats 1000000 in
theorem fnExactPartMay_walk (A0 : Option Addr) (n0 c0 : Nat) (z0 : List Int) (w : World) (h0 : Rd w A0 n0 z0) (_ : WfL .i64 z0) :
    Calls Try.prog 10 #[.slice A0 n0 c0] w fun e w' => e = .returned (.bool true) ∧ Below w.heap.size w w' := by
  by_cases big0 : n0 ≤ 1048576
  rotate_left
  · go_enter Try.func10, Try.ntmps10
    go_wp2_with fail
    go_ret
    exact ⟨rfl, Below.refl _ _⟩
  have B := Below.refl w.heap.size w
  go_enter Try.func10, Try.ntmps10
  go_wp2_with fail
  refine (toIntS_any _ _ _ z0 _ (h0.same B) big0).mono ?_
  rintro e w1 ⟨g_s0, rfl, o_s0, b⟩
  replace B := B.trans (b.mono B.size)
  have s1 := b.size
  clear b
  have row_s0 := o_s0.row
  go_wp2_with fail
  refine (specPartMay_any _ _ _ z0 _ o_s0.rd big0).mono ?_
  rintro e w2 ⟨rfl, b⟩
  replace B := B.trans (b.mono B.size)
  replace o_s0 := o_s0.same b
  have s2 := b.size
  clear b
  clear o_s0 row_s0
  go_wp2_with fail
  refine (toIntS_any _ _ _ z0 _ (h0.same B) big0).mono ?_
  rintro e w3 ⟨g_x0, rfl, o_x0, b⟩
  replace B := B.trans (b.mono B.size)
  have s3 := b.size
  clear b
  have row_x0 := o_x0.row
  go_wp2_with fail
  refine (implPartMay_any _ _ _ z0 _ o_x0.rd big0).mono ?_
  rintro e w4 ⟨rfl, b⟩
  replace B := B.trans (b.mono B.size)
  replace o_x0 := o_x0.same b
  have s4 := b.size
  clear b
  go_wp2_with fail
  refine (toIntS_any _ _ _ z0 _ (h0.same B) big0).mono ?_
  rintro e w5 ⟨g_y0, rfl, o_y0, b⟩
  replace B := B.trans (b.mono B.size)
  replace o_x0 := o_x0.same b
  have s5 := b.size
  clear b
  have row_y0 := o_y0.row
  go_wp2_with fail
  refine (eqIntS_same _ _ _ _ _ _ _ _ (o_x0.rd) (o_y0.rd) big0 big0).mono ?_
  rintro e w6 ⟨rfl, b⟩
  replace B := B.trans (b.mono B.size)
  replace o_x0 := o_x0.same b
  replace o_y0 := o_y0.same b
  have s6 := b.size
  clear b
  clear o_y0 row_y0
  go_wp2_with fail
  go_ret
  exact ⟨rfl, B⟩


set_option maxHeartbeats 1000000 in
theorem fnExactPartFirst_walk (A0 : Option Addr) (n0 c0 : Nat) (z0 : List Int) (w : World) (h0 : Rd w A0 n0 z0) (_ : WfL .i64 z0) :
    Calls Try.prog 12 #[.slice A0 n0 c0] w fun e w' => e = .returned (.bool true) ∧ Below w.heap.size w w' := by
  by_cases big0 : n0 ≤ 1048576
  rotate_left
  · go_enter Try.func12, Try.ntmps12
    go_wp2_with fail
    go_ret
    exact ⟨rfl, Below.refl _ _⟩
  have B := Below.refl w.heap.size w
  go_enter Try.func12, Try.ntmps12
  go_wp2_with fail
  refine (toIntS_any _ _ _ z0 _ (h0.same B) big0).mono ?_
  rintro e w1 ⟨g_s0, rfl, o_s0, b⟩
  replace B := B.trans (b.mono B.size)
  have s1 := b.size
  clear b
  have row_s0 := o_s0.row
  go_wp2_with fail
  refine (specPartFirst_any _ _ _ z0 _ o_s0.rd big0).mono ?_
  rintro e w2 ⟨Aw, nw, cw, rfl, rw0, lw0, b⟩
  replace rw0 := rw0.rd
  replace B := B.trans (b.mono B.size)
  replace o_s0 := o_s0.same b
  have s2 := b.size
  clear b
  have C := Below.refl w2.heap.size w2
  clear o_s0 row_s0
  go_wp2_with fail
  refine (toIntS_any _ _ _ z0 _ (h0.same B) big0).mono ?_
  rintro e w3 ⟨g_x0, rfl, o_x0, b⟩
  replace B := B.trans (b.mono B.size)
  replace C := C.trans (b.mono C.size)
  have s3 := b.size
  clear b
  have row_x0 := o_x0.row
  go_wp2_with fail
  refine (implPartFirst_any _ _ _ z0 _ o_x0.rd big0).mono ?_
  rintro e w4 ⟨Ag, ng, cg, rfl, og, lg, b⟩
  replace B := B.trans (b.mono B.size)
  replace C := C.trans (b.mono C.size)
  replace o_x0 := o_x0.same b
  have s4 := b.size
  clear b
  have row_g := og.row
  go_wp2_with fail
  refine (eqIntS_same _ _ _ _ _ _ _ _ (og.rd) (rw0.same C) lg lw0).mono ?_
  rintro e w5 ⟨rfl, b⟩
  replace B := B.trans (b.mono B.size)
  replace C := C.trans (b.mono C.size)
  replace o_x0 := o_x0.same b
  replace og := og.same b
  have s5 := b.size
  clear b
  go_wp2_with fail
  refine (toIntS_any _ _ _ z0 _ (h0.same B) big0).mono ?_
  rintro e w6 ⟨g_y0, rfl, o_y0, b⟩
  replace B := B.trans (b.mono B.size)
  replace C := C.trans (b.mono C.size)
  replace o_x0 := o_x0.same b
  replace og := og.same b
  have s6 := b.size
  clear b
  have row_y0 := o_y0.row
  go_wp2_with fail
  refine (eqIntS_same _ _ _ _ _ _ _ _ (o_x0.rd) (o_y0.rd) big0 big0).mono ?_
  rintro e w7 ⟨rfl, b⟩
  replace B := B.trans (b.mono B.size)
  replace C := C.trans (b.mono C.size)
  replace o_x0 := o_x0.same b
  replace og := og.same b
  replace o_y0 := o_y0.same b
  have s7 := b.size
  clear b
  clear o_y0 row_y0
  go_wp2_with fail
  refine (markIntS_any _ _ _ _ _ _ _ o_x0 big0 (by omega) (by omega)).mono ?_
  rintro e w8 ⟨rfl, new_, m⟩
  replace B := B.grown m B.size (fun k e => by have := row_x0 k e; omega)
  replace C := C.grown m C.size (fun k e => by have := row_x0 k e; omega)
  replace og := og.far m (fun k e => by have := row_x0 k e; omega)
  replace o_x0 := new_
  have s8 := m.size
  clear m
  clear o_x0 row_x0
  go_wp2_with fail
  refine (eqIntS_same _ _ _ _ _ _ _ _ (og.rd) (rw0.same C) lg lw0).mono ?_
  rintro e w9 ⟨rfl, b⟩
  replace B := B.trans (b.mono B.size)
  replace C := C.trans (b.mono C.size)
  replace og := og.same b
  have s9 := b.size
  clear b
  go_wp2_with fail
  refine (markIntS_any _ _ _ _ _ _ _ og lg (by omega) (by omega)).mono ?_
  rintro e w10 ⟨rfl, new_, m⟩
  replace B := B.grown m B.size (fun k e => by have := row_g k e; omega)
  replace C := C.grown m C.size (fun k e => by have := row_g k e; omega)
  replace og := new_
  have s10 := m.size
  clear m
  go_wp2_with fail
  refine (heldIntS_any _ _ _ _ _ og.rd lg (by omega) (by omega)).mono ?_
  rintro e w11 ⟨rfl, b⟩
  replace B := B.trans (b.mono B.size)
  replace C := C.trans (b.mono C.size)
  replace og := og.same b
  have s11 := b.size
  clear b
  go_wp2_with fail
  refine (toIntS_any _ _ _ z0 _ (h0.same B) big0).mono ?_
  rintro e w12 ⟨g_z0, rfl, o_z0, b⟩
  replace B := B.trans (b.mono B.size)
  replace C := C.trans (b.mono C.size)
  replace og := og.same b
  have s12 := b.size
  clear b
  have row_z0 := o_z0.row
  go_wp2_with fail
  refine (implPartFirst_any _ _ _ z0 _ o_z0.rd big0).mono ?_
  rintro e w13 ⟨Ah, nh, ch, rfl, oh, lh, b⟩
  replace B := B.trans (b.mono B.size)
  replace C := C.trans (b.mono C.size)
  replace og := og.same b
  replace o_z0 := o_z0.same b
  have s13 := b.size
  clear b
  go_wp2_with fail
  refine (eqIntS_same _ _ _ _ _ _ _ _ (oh.rd) (rw0.same C) lh lw0).mono ?_
  rintro e w14 ⟨rfl, b⟩
  replace B := B.trans (b.mono B.size)
  replace C := C.trans (b.mono C.size)
  replace og := og.same b
  replace o_z0 := o_z0.same b
  replace oh := oh.same b
  have s14 := b.size
  clear b
  go_wp2_with fail
  refine (heldIntS_any _ _ _ _ _ og.rd lg (by omega) (by omega)).mono ?_
  rintro e w15 ⟨rfl, b⟩
  replace B := B.trans (b.mono B.size)
  replace C := C.trans (b.mono C.size)
  replace og := og.same b
  replace o_z0 := o_z0.same b
  replace oh := oh.same b
  have s15 := b.size
  clear b
  go_wp2_with fail
  go_ret
  exact ⟨rfl, B⟩


set_option maxHeartbeats 1000000 in
theorem fnExactPartIs_walk (A0 : Option Addr) (n0 c0 : Nat) (z0 : List Int) (A1 : Option Addr) (n1 c1 : Nat) (z1 : List Int) (w : World) (h0 : Rd w A0 n0 z0) (_ : WfL .i64 z0) (h1 : Rd w A1 n1 z1) (_ : WfL .i64 z1) :
    Calls Try.prog 13 #[.slice A0 n0 c0, .slice A1 n1 c1] w fun e w' => e = .returned (.bool true) ∧ Below w.heap.size w w' := by
  by_cases big0 : n0 ≤ 1048576
  rotate_left
  · go_enter Try.func13, Try.ntmps13
    go_wp2_with fail
    go_ret
    exact ⟨rfl, Below.refl _ _⟩
  by_cases big1 : n1 ≤ 1048576
  rotate_left
  · go_enter Try.func13, Try.ntmps13
    go_wp2_with fail
    go_ret
    exact ⟨rfl, Below.refl _ _⟩
  have B := Below.refl w.heap.size w
  go_enter Try.func13, Try.ntmps13
  go_wp2_with fail
  refine (toIntS_any _ _ _ z0 _ (h0.same B) big0).mono ?_
  rintro e w1 ⟨g_s0, rfl, o_s0, b⟩
  replace B := B.trans (b.mono B.size)
  have s1 := b.size
  clear b
  have row_s0 := o_s0.row
  go_wp2_with fail
  refine (toIntS_any _ _ _ z1 _ (h1.same B) big1).mono ?_
  rintro e w2 ⟨g_s1, rfl, o_s1, b⟩
  replace B := B.trans (b.mono B.size)
  replace o_s0 := o_s0.same b
  have s2 := b.size
  clear b
  have row_s1 := o_s1.row
  go_wp2_with fail
  refine (specPartIs_any _ _ _ _ _ _ z0 z1 _ o_s0.rd o_s1.rd big0 big1).mono ?_
  rintro e w3 ⟨rfl, b⟩
  replace B := B.trans (b.mono B.size)
  replace o_s0 := o_s0.same b
  replace o_s1 := o_s1.same b
  have s3 := b.size
  clear b
  clear o_s0 row_s0
  clear o_s1 row_s1
  go_wp2_with fail
  refine (toIntS_any _ _ _ z0 _ (h0.same B) big0).mono ?_
  rintro e w4 ⟨g_x0, rfl, o_x0, b⟩
  replace B := B.trans (b.mono B.size)
  have s4 := b.size
  clear b
  have row_x0 := o_x0.row
  go_wp2_with fail
  refine (toIntS_any _ _ _ z1 _ (h1.same B) big1).mono ?_
  rintro e w5 ⟨g_x1, rfl, o_x1, b⟩
  replace B := B.trans (b.mono B.size)
  replace o_x0 := o_x0.same b
  have s5 := b.size
  clear b
  have row_x1 := o_x1.row
  go_wp2_with fail
  refine (implPartIs_any _ _ _ _ _ _ z0 z1 _ o_x0.rd o_x1.rd big0 big1).mono ?_
  rintro e w6 ⟨rfl, b⟩
  replace B := B.trans (b.mono B.size)
  replace o_x0 := o_x0.same b
  replace o_x1 := o_x1.same b
  have s6 := b.size
  clear b
  go_wp2_with fail
  refine (toIntS_any _ _ _ z0 _ (h0.same B) big0).mono ?_
  rintro e w7 ⟨g_y0, rfl, o_y0, b⟩
  replace B := B.trans (b.mono B.size)
  replace o_x0 := o_x0.same b
  replace o_x1 := o_x1.same b
  have s7 := b.size
  clear b
  have row_y0 := o_y0.row
  go_wp2_with fail
  refine (eqIntS_same _ _ _ _ _ _ _ _ (o_x0.rd) (o_y0.rd) big0 big0).mono ?_
  rintro e w8 ⟨rfl, b⟩
  replace B := B.trans (b.mono B.size)
  replace o_x0 := o_x0.same b
  replace o_x1 := o_x1.same b
  replace o_y0 := o_y0.same b
  have s8 := b.size
  clear b
  clear o_y0 row_y0
  go_wp2_with fail
  refine (toIntS_any _ _ _ z1 _ (h1.same B) big1).mono ?_
  rintro e w9 ⟨g_y1, rfl, o_y1, b⟩
  replace B := B.trans (b.mono B.size)
  replace o_x0 := o_x0.same b
  replace o_x1 := o_x1.same b
  have s9 := b.size
  clear b
  have row_y1 := o_y1.row
  go_wp2_with fail
  refine (eqIntS_same _ _ _ _ _ _ _ _ (o_x1.rd) (o_y1.rd) big1 big1).mono ?_
  rintro e w10 ⟨rfl, b⟩
  replace B := B.trans (b.mono B.size)
  replace o_x0 := o_x0.same b
  replace o_x1 := o_x1.same b
  replace o_y1 := o_y1.same b
  have s10 := b.size
  clear b
  clear o_y1 row_y1
  go_wp2_with fail
  go_ret
  exact ⟨rfl, B⟩


end Go.Proofs.Ytiadnbdefcimiaa
