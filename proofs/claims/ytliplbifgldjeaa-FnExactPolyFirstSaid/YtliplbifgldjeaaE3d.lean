/- The walk of the exact law PolyFirst. -/
import Derived.Test.YtliplbifgldjeaaFirst
namespace Go.Proofs.Ytliplbifgldjeaa
open Go.RowKit

set_option maxHeartbeats 1000000 in
theorem fnExactPolyFirst_walk (a0 : Int) (a1 : Int) (w : World) (_ : (Lit.int .i64 a0).wf = true) (_ : (Lit.int .i64 a1).wf = true) :
    Calls Try.prog 17 #[.int .i64 a0, .int .i64 a1] w fun e w' => e = .returned (.bool true) ∧ Below w.heap.size w w' := by
  have B := Below.refl w.heap.size w
  go_enter Try.func17, Try.ntmps17
  go_wp2_with fail
  refine (specPolyFirst_any _ _ _ ).mono ?_
  rintro e w1 ⟨Aw, nw, cw, rfl, rw0, lw0, b⟩
  replace B := B.trans (b.mono B.size)
  have s1 := b.size
  clear b
  have C := Below.refl w1.heap.size w1
  go_wp2_with fail
  refine (implPolyFirst_any _ _ _ ).mono ?_
  rintro e w2 ⟨Ag, ng, cg, rfl, og, lg, b⟩
  replace B := B.trans (b.mono B.size)
  replace C := C.trans (b.mono C.size)
  have s2 := b.size
  clear b
  have row_g := og.row
  go_wp2_with fail
  refine (eqIntS_same _ _ _ _ _ _ _ _ (og.rd) (rw0.same C) lg lw0).mono ?_
  rintro e w3 ⟨rfl, b⟩
  replace B := B.trans (b.mono B.size)
  replace C := C.trans (b.mono C.size)
  replace og := og.same b
  have s3 := b.size
  clear b
  go_wp2_with fail
  refine (markIntS_any _ _ _ _ _ _ _ og lg (by omega) (by omega)).mono ?_
  rintro e w4 ⟨rfl, new_, m⟩
  replace B := B.grown m B.size (fun k e => by have := row_g k e; omega)
  replace C := C.grown m C.size (fun k e => by have := row_g k e; omega)
  replace og := new_
  have s4 := m.size
  clear m
  go_wp2_with fail
  refine (heldIntS_any _ _ _ _ _ og.rd lg (by omega) (by omega)).mono ?_
  rintro e w5 ⟨rfl, b⟩
  replace B := B.trans (b.mono B.size)
  replace C := C.trans (b.mono C.size)
  replace og := og.same b
  have s5 := b.size
  clear b
  go_wp2_with fail
  refine (implPolyFirst_any _ _ _ ).mono ?_
  rintro e w6 ⟨Ah, nh, ch, rfl, oh, lh, b⟩
  replace B := B.trans (b.mono B.size)
  replace C := C.trans (b.mono C.size)
  replace og := og.same b
  have s6 := b.size
  clear b
  go_wp2_with fail
  refine (eqIntS_same _ _ _ _ _ _ _ _ (oh.rd) (rw0.same C) lh lw0).mono ?_
  rintro e w7 ⟨rfl, b⟩
  replace B := B.trans (b.mono B.size)
  replace C := C.trans (b.mono C.size)
  replace og := og.same b
  replace oh := oh.same b
  have s7 := b.size
  clear b
  go_wp2_with fail
  refine (heldIntS_any _ _ _ _ _ og.rd lg (by omega) (by omega)).mono ?_
  rintro e w8 ⟨rfl, b⟩
  replace B := B.trans (b.mono B.size)
  replace C := C.trans (b.mono C.size)
  replace og := og.same b
  replace oh := oh.same b
  have s8 := b.size
  clear b
  go_wp2_with fail
  go_ret
  exact ⟨rfl, B⟩
end Go.Proofs.Ytliplbifgldjeaa
