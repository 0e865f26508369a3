/- The walk of the exact law of PathBack. -/
import Derived.Test.YtkjhkcnmhakfcaaPathI3
import Derived.Test.YtkjhkcnmhakfcaaPathS6
import Derived.Test.YtkjhkcnmhakfcaaRowF
namespace Go.Proofs.Ytkjhkcnmhakfcaa
open Go.RowKit Go.Sort Go.Lib

set_option maxRecDepth 100000 in
set_option maxHeartbeats 4000000 in
theorem fnExactPathBack_walk (A0 : Option Addr) (n0 c0 : Nat) (z0 : List (List Int)) (w : World) (h0 : RdM w A0 n0 z0) (hn : n0 ≤ 9223372036854775807) (hm : ∀ i, i < n0 → (rowL z0 i).length ≤ 9223372036854775807) :
    Calls Try.prog 6 #[.slice A0 n0 c0] w fun e w' => e = .returned (.bool true) ∧ Below w.heap.size w w' := by
  have hZ := szIntSS_any A0 n0 c0 z0 w h0 hn hm
  have HL := Lib.hid h0.1
  clear hn hm
  go_enter Try.func6, Try.ntmps6
  go_wp2_with fail
  refine hZ.mono ?_
  rintro e w1 ⟨⟨v, rfl, hv⟩, b⟩
  rcases hv with rfl | ⟨hv, hs⟩
  · go_wp2_with fail
    go_ret
    exact ⟨rfl, b⟩
  have d1 : decide (v < 0) = false := by simpa using hv
  have HS := Lib.hid hs
  have B := b
  clear hs hv b hZ
  go_wp2_with fail
  refine (toIntSS_any _ _ _ z0 _ (h0.same B) HS.out).mono ?_
  rintro e w2 ⟨g_s, rfl, ⟨gs_s, o_s⟩, b⟩
  replace B := B.trans (b.mono B.size)
  clear b
  go_wp2_with fail
  refine (specPathBack_any _ _ _ z0 _ o_s.rd HS.out).mono ?_
  rintro e w3 ⟨⟨A_w, n_w, c_w, rfl, r_w⟩, b⟩
  replace B := B.trans (b.mono B.size)
  clear b
  clear o_s
  have hs3 := B.size
  have C := Below.refl w3.heap.size w3
  go_wp2_with fail
  refine (toIntSS_any _ _ _ z0 _ (h0.same B) HS.out).mono ?_
  rintro e w4 ⟨g_x, rfl, ⟨gs_x, o_x⟩, b⟩
  replace B := B.trans (b.mono B.size)
  replace C := C.trans (b.mono C.size)
  clear b
  have hx3 := fun k (hk : k ∈ gs_x) => (o_x.mem hk).1
  have hx4 := fun k (hk : k ∈ gs_x) => (o_x.mem hk).2
  have hs4 := C.size
  go_wp2_with fail
  refine (pathBack_any _ _ _ z0 _ o_x.rd HS.out).mono ?_
  rintro e w5 ⟨⟨A_g, n_g, c_g, rfl, ⟨gs_g, o_g⟩, hsm⟩, b⟩
  replace B := B.trans (b.mono B.size)
  replace C := C.trans (b.mono C.size)
  replace o_x := o_x.same b
  clear b
  have HX3 := Lib.hid hx3
  have HX4 := Lib.hid hx4
  clear hx3 hx4
  obtain rfl : n_w = n_g := r_w.1.symm.trans o_g.n
  have HM := Lib.hid hsm
  have hlg := Lib.hid o_g.n
  have RW := Lib.hid r_w
  have HMK := Lib.hid (fun W (h : RdM W A_g n_w (mkM 1 _ n_w)) => heldIntSS_any A_g n_w c_g _ 1 W h hlg.out hsm (by omega) (by omega))
  clear hsm r_w
  go_wp2_with fail
  refine (eqIntSS_same _ _ _ _ _ _ _ o_g.rd (RW.out.same C) HM.out).mono ?_
  rintro e w6 ⟨rfl, b⟩
  replace B := B.trans (b.mono B.size)
  replace C := C.trans (b.mono C.size)
  replace o_x := o_x.same b
  replace o_g := o_g.same b
  clear b
  go_wp2_with fail
  refine (toIntSS_any _ _ _ z0 _ (h0.same B) HS.out).mono ?_
  rintro e w7 ⟨g_y, rfl, ⟨gs_y, o_y⟩, b⟩
  replace B := B.trans (b.mono B.size)
  replace C := C.trans (b.mono C.size)
  replace o_x := o_x.same b
  replace o_g := o_g.same b
  clear b
  go_wp2_with fail
  refine (eqIntSS_same _ _ _ _ _ z0 _ o_x.rd o_y.rd HS.out).mono ?_
  rintro e w8 ⟨rfl, b⟩
  replace B := B.trans (b.mono B.size)
  replace C := C.trans (b.mono C.size)
  replace o_x := o_x.same b
  replace o_g := o_g.same b
  clear b
  clear o_y
  go_wp2_with fail
  refine (markIntSS_any _ _ _ _ gs_x z0 1 _ o_x HS.out (by omega) (by omega)).mono ?_
  rintro e w9 ⟨rfl, _, t⟩
  replace B := B.trans (t.below B.size (fun g hg => Nat.le_trans hs3 (HX3.out g hg)))
  replace C := C.trans (t.below C.size (fun g hg => HX3.out g hg))
  replace o_g := o_g.apart t (fun g hg => HX4.out g hg)
  have dk : decide (1 + (lenTo z0 n0 : Int) < 0) = false := by simp; omega
  clear t o_x
  go_wp2_with fail
  refine (eqIntSS_same _ _ _ _ _ _ _ o_g.rd (RW.out.same C) HM.out).mono ?_
  rintro e w10 ⟨rfl, b⟩
  replace B := B.trans (b.mono B.size)
  replace C := C.trans (b.mono C.size)
  replace o_g := o_g.same b
  clear b
  go_wp2_with fail
  have hg4 := fun k (hk : k ∈ gs_g) => (o_g.mem hk).1
  refine (markIntSS_any _ _ _ _ gs_g _ 1 _ o_g HM.out (by omega) (by omega)).mono ?_
  rintro e w11 ⟨rfl, o_m, t⟩
  replace B := B.trans (t.below B.size (fun g hg => by have := hg4 g hg; omega))
  replace C := C.trans (t.below C.size (fun g hg => by have := hg4 g hg; omega))
  clear t o_g hg4
  generalize hmz : lenTo _ n_w = mz at *
  have dm : decide (1 + (mz : Int) < 0) = false := by simp; omega
  have HMZ := Lib.hid hmz
  clear hmz
  go_wp2_with fail
  refine (HMK.out _ o_m.rd).mono ?_
  rintro e w12 ⟨rfl, b⟩
  replace B := B.trans (b.mono B.size)
  replace C := C.trans (b.mono C.size)
  replace o_m := o_m.same b
  clear b
  go_wp2_with fail
  refine (toIntSS_any _ _ _ z0 _ (h0.same B) HS.out).mono ?_
  rintro e w13 ⟨g_z, rfl, ⟨gs_z, o_z⟩, b⟩
  replace B := B.trans (b.mono B.size)
  replace C := C.trans (b.mono C.size)
  replace o_m := o_m.same b
  clear b
  go_wp2_with fail
  refine (pathBack_any _ _ _ z0 _ o_z.rd HS.out).mono ?_
  rintro e w14 ⟨⟨A_h, n_h, c_h, rfl, ⟨gs_h, o_h⟩, _⟩, b⟩
  replace B := B.trans (b.mono B.size)
  replace C := C.trans (b.mono C.size)
  replace o_m := o_m.same b
  clear b
  obtain rfl : n_w = n_h := hlg.out.symm.trans o_h.n
  clear o_z
  go_wp2_with fail
  refine (eqIntSS_same _ _ _ _ _ _ _ o_h.rd (RW.out.same C) HM.out).mono ?_
  rintro e w15 ⟨rfl, b⟩
  replace B := B.trans (b.mono B.size)
  replace C := C.trans (b.mono C.size)
  replace o_m := o_m.same b
  clear b
  clear o_h
  go_wp2_with fail
  refine (HMK.out _ o_m.rd).mono ?_
  rintro e w16 ⟨rfl, b⟩
  replace B := B.trans (b.mono B.size)
  replace C := C.trans (b.mono C.size)
  replace o_m := o_m.same b
  clear b
  go_wp2_with fail
  go_ret
  exact ⟨rfl, B⟩
end Go.Proofs.Ytkjhkcnmhakfcaa
