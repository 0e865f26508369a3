/- The walks of the laws FnInside, FnInsideAll. -/
import Derived.Test.YthpgenkdiokpeaaDraw6
import Derived.Test.YthpgenkdiokpeaaPthG
import Derived.Test.YthpgenkdiokpeaaPathI8
import Derived.Test.YthpgenkdiokpeaaPickQ
import Derived.Test.YthpgenkdiokpeaaRowH
namespace Go.Proofs.Ythpgenkdiokpeaa
open Go.RowKit Go.Sort Go.Lib

theorem pInsideAll (A : Option Addr) (n c : Nat) (l : List Pt) (w : World) (h : RdM w A n (rowsOf l)) (P : IsPath l) (hc : convB l = true) : Calls Try.prog 59 #[.slice A n c] w (GotI (inPt l) true w) := by
  have h1 := pathInsideAll_any A n c (rowsOf l) w h (small_rows P.hi)
  have hg : goodB (rowsOf l) = true := by unfold goodB; rw [pathB_rows P, ptsL_rows, hc]; rfl
  rw [ifG_yes _ hg, hg, ptsL_rows, show allI l = inPt l from P.pick hc] at h1
  exact h1
theorem qInsideAll (A : Option Addr) (n c : Nat) (l : List Pt) (w : World) (h : RdM w A n (rowsOf l)) (P : IsPath l) (hc : convB l = true) : Calls Try.prog 61 #[.slice A n c] w (GotI (inPt l) true w) := by
  have h1 := specPathInsideAll_any A n c (rowsOf l) w h (small_rows P.hi)
  have hg : goodB (rowsOf l) = true := by unfold goodB; rw [pathB_rows P, ptsL_rows, hc]; rfl
  rw [ifG_yes _ hg, hg, ptsL_rows, show allI l = inPt l from P.pick hc] at h1
  exact h1

set_option maxRecDepth 100000 in
set_option maxHeartbeats 4000000 in
theorem fnInside_walk (A0 : Option Addr) (n0 c0 : Nat) (z0 : List Int) (w : World) (h0 : RdB w A0 n0 z0) (k0 : WfL .u8 z0) (q0 : n0 ≤ c0) :
    Calls Try.prog 12 #[.slice A0 n0 c0] w fun e w' => e = .returned (.bool true) ∧ Below w.heap.size w w' := by
  by_cases big : n0 ≤ 1048576
  rotate_left
  · go_enter Try.func12, Try.ntmps12
    go_wp2_with fail
    go_ret
    exact ⟨rfl, Below.refl _ _⟩
  go_enter Try.func12, Try.ntmps12
  go_wp2_with fail
  refine (drawPathInside_any A0 n0 c0 z0 _ h0 (bytes_of k0) big q0).mono ?_
  rintro e w1 ⟨A, n, c, L, rfl, r, hs, hn1, hn9, B1⟩
  cases hp : goodB L with
  | false =>
    clear hn1 hn9
    have hI := fun W (h : RdM W A n L) => pathInside_any A n c L W h hs
    have hQ := fun W (h : RdM W A n L) => specPathInside_any A n c L W h hs
    rw [ifG_no _ hp, hp] at hI hQ
    have HI := Lib.hid hI
    have HQ := Lib.hid hQ
    clear hI hQ
    go_wp2_with fail
    refine (HI.out _ r).mono ?_
    rintro e w2 ⟨rfl, b⟩
    have B2 := below_then B1 b
    replace r := r.same b
    clear b
    go_wp2_with fail
    refine (HQ.out _ r).mono ?_
    rintro e w3 ⟨rfl, b⟩
    have B3 := below_then B2 b
    replace r := r.same b
    clear b
    go_wp2_with fail
    go_ret
    exact ⟨rfl, B3⟩
  | true =>
    obtain ⟨hp, hc⟩ := Bool.and_eq_true_iff.1 (show (pathB L && convB (ptsL L)) = true from hp)
    obtain ⟨l, rfl, P⟩ := path_form hp
    have hl : l.length = n := by rw [← rowsOf_len]; exact r.1
    have h8 := P.hi
    have h3 := P.lo
    clear hp hs
    rw [ptsL_rows] at hc
    have hbd := area_bd P
    have hrb := P.rim_bd (Nat.le_refl l.length)
    have hev := P.even
    have hI := fun W (h : RdM W A n (rowsOf l)) => pInside A n c l W h P hc
    have hQ := fun W (h : RdM W A n (rowsOf l)) => qInside A n c l W h P hc
    have hX := fun W (h : RdM W A n (rowsOf l)) => pInsideAll A n c l W h P hc
    have hA := fun W (h : RdM W A n (rowsOf l)) => pArea A n c l W h P
    have hB := fun W (h : RdM W A n (rowsOf l)) => pRim A n c l W h P
    have hin : areaP l = 2 * inPt l + rimP l - 2 := by unfold inPt; omega
    rw [show sumF (fun i => gcdP (atP l i)) l.length = rimP l from rfl] at hrb
    rw [hin] at hA hbd
    generalize inPt l = z at *
    generalize rimP l = m at *
    have v1 : IntKind.i64.wrap (2 * z) = 2 * z := wrap_is rfl (by omega) (by omega)
    have v2 : IntKind.i64.wrap (2 * z + m) = 2 * z + m := wrap_is rfl (by omega) (by omega)
    have v3 : IntKind.i64.wrap (2 * z + m - 2) = 2 * z + m - 2 := wrap_is rfl (by omega) (by omega)
    have HI := Lib.hid hI
    have HQ := Lib.hid hQ
    have HX := Lib.hid hX
    have HA := Lib.hid hA
    have HB := Lib.hid hB
    clear hI hQ hX hA hB hin hn1 hn9 h8 h3 hl P hc hbd hrb hev
    go_wp2_with fail
    refine (HI.out _ r).mono ?_
    rintro e w2 ⟨rfl, b⟩
    have B2 := below_then B1 b
    replace r := r.same b
    clear b
    go_wp2_with fail
    refine (HQ.out _ r).mono ?_
    rintro e w3 ⟨rfl, b⟩
    have B3 := below_then B2 b
    replace r := r.same b
    clear b
    go_wp2_with fail
    refine (HX.out _ r).mono ?_
    rintro e w4 ⟨rfl, b⟩
    have B4 := below_then B3 b
    replace r := r.same b
    clear b
    go_wp2_with fail
    refine (HA.out _ r).mono ?_
    rintro e w5 ⟨rfl, b⟩
    have B5 := below_then B4 b
    replace r := r.same b
    clear b
    go_wp2_with fail
    refine (HB.out _ r).mono ?_
    rintro e w6 ⟨rfl, b⟩
    have B6 := below_then B5 b
    replace r := r.same b
    clear b
    go_wp2_with fail
    go_ret
    exact ⟨rfl, B6⟩

set_option maxRecDepth 100000 in
set_option maxHeartbeats 4000000 in
theorem fnInsideAll_walk (A0 : Option Addr) (n0 c0 : Nat) (z0 : List Int) (w : World) (h0 : RdB w A0 n0 z0) (k0 : WfL .u8 z0) (q0 : n0 ≤ c0) :
    Calls Try.prog 13 #[.slice A0 n0 c0] w fun e w' => e = .returned (.bool true) ∧ Below w.heap.size w w' := by
  by_cases big : n0 ≤ 1048576
  rotate_left
  · go_enter Try.func13, Try.ntmps13
    go_wp2_with fail
    go_ret
    exact ⟨rfl, Below.refl _ _⟩
  go_enter Try.func13, Try.ntmps13
  go_wp2_with fail
  refine (drawPathInsideAll_any A0 n0 c0 z0 _ h0 (bytes_of k0) big q0).mono ?_
  rintro e w1 ⟨A, n, c, L, rfl, r, hs, hn1, hn9, B1⟩
  cases hp : goodB L with
  | false =>
    clear hn1 hn9
    have hI := fun W (h : RdM W A n L) => pathInsideAll_any A n c L W h hs
    have hQ := fun W (h : RdM W A n L) => specPathInsideAll_any A n c L W h hs
    rw [ifG_no _ hp, hp] at hI hQ
    have HI := Lib.hid hI
    have HQ := Lib.hid hQ
    clear hI hQ
    go_wp2_with fail
    refine (HI.out _ r).mono ?_
    rintro e w2 ⟨rfl, b⟩
    have B2 := below_then B1 b
    replace r := r.same b
    clear b
    go_wp2_with fail
    refine (HQ.out _ r).mono ?_
    rintro e w3 ⟨rfl, b⟩
    have B3 := below_then B2 b
    replace r := r.same b
    clear b
    go_wp2_with fail
    go_ret
    exact ⟨rfl, B3⟩
  | true =>
    obtain ⟨hp, hc⟩ := Bool.and_eq_true_iff.1 (show (pathB L && convB (ptsL L)) = true from hp)
    obtain ⟨l, rfl, P⟩ := path_form hp
    have hl : l.length = n := by rw [← rowsOf_len]; exact r.1
    have h8 := P.hi
    have h3 := P.lo
    clear hp hs
    rw [ptsL_rows] at hc
    have HS := Lib.hid P
    have hI := fun W (h : RdM W A n (rowsOf l)) => pInsideAll A n c l W h P hc
    have hQ := fun W (h : RdM W A n (rowsOf l)) => qInsideAll A n c l W h P hc
    have hC := fun W (h : RdM W A n (rowsOf l)) => pConvex A n c l W h P
    have hX := fun A c W (h : RdM W A n (rowsOf (l.map quaP))) => pInside A n c _ W h P.qua (by rw [P.conv_qua]; exact hc)
    rw [show inPt (l.map quaP) = inPt l from by unfold inPt; rw [P.area_qua, rim_qua]] at hX
    rw [hc] at hC
    generalize inPt l = z at *
    have HI := Lib.hid hI
    have HQ := Lib.hid hQ
    have HX := Lib.hid hX
    have HC := Lib.hid hC
    clear hI hQ hX hC hn1 hn9 h8 h3 hl P hc
    go_wp2_with fail
    refine (HI.out _ r).mono ?_
    rintro e w2 ⟨rfl, b⟩
    have B2 := below_then B1 b
    replace r := r.same b
    clear b
    go_wp2_with fail
    refine (HQ.out _ r).mono ?_
    rintro e w3 ⟨rfl, b⟩
    have B3 := below_then B2 b
    replace r := r.same b
    clear b
    go_wp2_with fail
    refine (pTurn A n c l _ r HS.out).mono ?_
    rintro e w4 ⟨A4, c4, rfl, r4, b⟩
    have B4 := below_then B3 b
    replace r := r.same b
    clear b
    go_wp2_with fail
    refine (HX.out A4 c4 _ r4).mono ?_
    rintro e w5 ⟨rfl, b⟩
    have B5 := below_then B4 b
    replace r := r.same b
    replace r4 := r4.same b
    clear b
    go_wp2_with fail
    refine (HC.out _ r).mono ?_
    rintro e w6 ⟨rfl, b⟩
    have B6 := below_then B5 b
    replace r := r.same b
    replace r4 := r4.same b
    clear b
    go_wp2_with fail
    go_ret
    exact ⟨rfl, B6⟩
end Go.Proofs.Ythpgenkdiokpeaa
