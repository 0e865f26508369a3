/- The walks of the laws FnPath, FnArea, FnConvex, FnRim. -/
import Derived.Test.YthpgenkdiokpeaaDraw6
import Derived.Test.YthpgenkdiokpeaaPthF
import Derived.Test.YthpgenkdiokpeaaRowH
namespace Go.Proofs.Ythpgenkdiokpeaa
open Go.RowKit Go.Sort Go.Lib

set_option maxRecDepth 100000 in
set_option maxHeartbeats 4000000 in
theorem fnPath_walk (A0 : Option Addr) (n0 c0 : Nat) (z0 : List Int) (w : World) (h0 : RdB w A0 n0 z0) (k0 : WfL .u8 z0) (q0 : n0 ≤ c0) :
    Calls Try.prog 3 #[.slice A0 n0 c0] w fun e w' => e = .returned (.bool true) ∧ Below w.heap.size w w' := by
  by_cases big : n0 ≤ 1048576
  rotate_left
  · go_enter Try.func3, Try.ntmps3
    go_wp2_with fail
    go_ret
    exact ⟨rfl, Below.refl _ _⟩
  go_enter Try.func3, Try.ntmps3
  go_wp2_with fail
  refine (drawPathIn_any A0 n0 c0 z0 _ h0 (bytes_of k0) big q0).mono ?_
  rintro e w1 ⟨A, n, c, L, rfl, r, hs, hn1, hn9, B1⟩
  cases hp : pathB L with
  | false =>
    clear hn1 hn9
    go_wp2_with fail
    refine (pIn0 A n c L _ r hs hp).mono ?_
    rintro e w2 ⟨rfl, b⟩
    have B2 := below_then B1 b
    replace r := r.same b
    clear b
    go_wp2_with fail
    refine (qIn0 A n c L _ r hs hp).mono ?_
    rintro e w3 ⟨rfl, b⟩
    have B3 := below_then B2 b
    replace r := r.same b
    clear b
    go_wp2_with fail
    go_ret
    exact ⟨rfl, B3⟩
  | true =>
    obtain ⟨l, rfl, P⟩ := path_form hp
    have hl : l.length = n := by rw [← rowsOf_len]; exact r.1
    have h8 := P.hi
    have h3 := P.lo
    clear hp hs
    have hb := Lib.hid (show (1 : Nat) < n by omega)
    have HS := Lib.hid P
    have HL := Lib.hid hl
    clear hn1 hn9 h8 h3 hl P
    go_wp2_with fail
    refine (pIn A n c l _ r HS.out).mono ?_
    rintro e w2 ⟨rfl, b⟩
    have B2 := below_then B1 b
    replace r := r.same b
    clear b
    go_wp2_with fail
    refine (qIn A n c l _ r HS.out).mono ?_
    rintro e w3 ⟨rfl, b⟩
    have B3 := below_then B2 b
    replace r := r.same b
    clear b
    go_wp2_with fail
    refine (pBegin A n c l _ r HS.out _ 1 rfl hb.out).mono ?_
    rintro e w4 ⟨A4, c4, rfl, r4, b⟩
    have B4 := below_then B3 b
    replace r := r.same b
    clear b
    go_wp2_with fail
    refine (pBack A n c l _ r HS.out).mono ?_
    rintro e w5 ⟨A5, c5, rfl, r5, b⟩
    have B5 := below_then B4 b
    replace r := r.same b
    replace r4 := r4.same b
    clear b
    go_wp2_with fail
    refine (pIn A4 n c4 _ _ r4 (HS.out.rot 1)).mono ?_
    rintro e w6 ⟨rfl, b⟩
    have B6 := below_then B5 b
    replace r := r.same b
    replace r4 := r4.same b
    replace r5 := r5.same b
    clear b
    go_wp2_with fail
    refine (pIn A5 n c5 _ _ r5 HS.out.bak).mono ?_
    rintro e w7 ⟨rfl, b⟩
    have B7 := below_then B6 b
    replace r := r.same b
    replace r4 := r4.same b
    replace r5 := r5.same b
    clear b
    go_wp2_with fail
    go_ret
    exact ⟨rfl, B7⟩

set_option maxRecDepth 100000 in
set_option maxHeartbeats 4000000 in
theorem fnArea_walk (A0 : Option Addr) (n0 c0 : Nat) (z0 : List Int) (w : World) (h0 : RdB w A0 n0 z0) (k0 : WfL .u8 z0) (q0 : n0 ≤ c0) :
    Calls Try.prog 5 #[.slice A0 n0 c0] w fun e w' => e = .returned (.bool true) ∧ Below w.heap.size w w' := by
  by_cases big : n0 ≤ 1048576
  rotate_left
  · go_enter Try.func5, Try.ntmps5
    go_wp2_with fail
    go_ret
    exact ⟨rfl, Below.refl _ _⟩
  go_enter Try.func5, Try.ntmps5
  go_wp2_with fail
  refine (drawPathArea_any A0 n0 c0 z0 _ h0 (bytes_of k0) big q0).mono ?_
  rintro e w1 ⟨A, n, c, L, rfl, r, hs, hn1, hn9, B1⟩
  cases hp : pathB L with
  | false =>
    clear hn1 hn9
    go_wp2_with fail
    refine (pArea0 A n c L _ r hs hp).mono ?_
    rintro e w2 ⟨rfl, b⟩
    have B2 := below_then B1 b
    replace r := r.same b
    clear b
    go_wp2_with fail
    refine (qArea0 A n c L _ r hs hp).mono ?_
    rintro e w3 ⟨rfl, b⟩
    have B3 := below_then B2 b
    replace r := r.same b
    clear b
    go_wp2_with fail
    go_ret
    exact ⟨rfl, B3⟩
  | true =>
    obtain ⟨l, rfl, P⟩ := path_form hp
    have hl : l.length = n := by rw [← rowsOf_len]; exact r.1
    have h8 := P.hi
    have h3 := P.lo
    clear hp hs
    have hb := Lib.hid (show (2 : Nat) < n by omega)
    have HS := Lib.hid P
    have hbd := area_bd P
    have hA := Lib.hid (fun W (h : RdM W A n (rowsOf l)) => pArea A n c l W h P)
    have hQ := Lib.hid (fun W (h : RdM W A n (rowsOf l)) => qArea A n c l W h P)
    have h5 := fun A c W (h : RdM W A n (rowsOf (bakP l))) => pArea A n c _ W h P.bak
    have h6 := fun A c W (h : RdM W A n (rowsOf (l.map quaP))) => pArea A n c _ W h P.qua
    have h7 := fun A c W (h : RdM W A n (rowsOf (rotL l 2))) => pArea A n c _ W h (P.rot 2)
    rw [P.area_bak] at h5
    rw [P.area_qua] at h6
    rw [areaP_rot P.closed (by omega)] at h7
    have H5 := Lib.hid h5
    have H6 := Lib.hid h6
    have H7 := Lib.hid h7
    generalize areaP l = a at *
    have v1 : IntKind.i64.wrap (0 - a) = -a := wrap_is (by omega) (by omega) (by omega)
    have v2 : IntKind.i64.wrap (-a) = -a := wrap_is rfl (by omega) (by omega)
    clear h5 h6 h7 hn1 hn9 h8 h3 hl P hbd
    go_wp2_with fail
    refine (hA.out _ r).mono ?_
    rintro e w2 ⟨rfl, b⟩
    have B2 := below_then B1 b
    replace r := r.same b
    clear b
    go_wp2_with fail
    refine (hQ.out _ r).mono ?_
    rintro e w3 ⟨rfl, b⟩
    have B3 := below_then B2 b
    replace r := r.same b
    clear b
    go_wp2_with fail
    refine (pBack A n c l _ r HS.out).mono ?_
    rintro e w4 ⟨A4, c4, rfl, r4, b⟩
    have B4 := below_then B3 b
    replace r := r.same b
    clear b
    go_wp2_with fail
    refine (H5.out A4 c4 _ r4).mono ?_
    rintro e w5 ⟨rfl, b⟩
    have B5 := below_then B4 b
    replace r := r.same b
    replace r4 := r4.same b
    clear b
    go_wp2_with fail
    refine (pTurn A n c l _ r HS.out).mono ?_
    rintro e w6 ⟨A6, c6, rfl, r6, b⟩
    have B6 := below_then B5 b
    replace r := r.same b
    replace r4 := r4.same b
    clear b
    go_wp2_with fail
    refine (H6.out A6 c6 _ r6).mono ?_
    rintro e w7 ⟨rfl, b⟩
    have B7 := below_then B6 b
    replace r := r.same b
    replace r4 := r4.same b
    replace r6 := r6.same b
    clear b
    go_wp2_with fail
    refine (pBegin A n c l _ r HS.out _ 2 rfl hb.out).mono ?_
    rintro e w8 ⟨A8, c8, rfl, r8, b⟩
    have B8 := below_then B7 b
    replace r := r.same b
    replace r4 := r4.same b
    replace r6 := r6.same b
    clear b
    go_wp2_with fail
    refine (H7.out A8 c8 _ r8).mono ?_
    rintro e w9 ⟨rfl, b⟩
    have B9 := below_then B8 b
    replace r := r.same b
    replace r4 := r4.same b
    replace r6 := r6.same b
    replace r8 := r8.same b
    clear b
    go_wp2_with fail
    go_ret
    exact ⟨rfl, B9⟩

set_option maxRecDepth 100000 in
set_option maxHeartbeats 4000000 in
theorem fnConvex_walk (A0 : Option Addr) (n0 c0 : Nat) (z0 : List Int) (w : World) (h0 : RdB w A0 n0 z0) (k0 : WfL .u8 z0) (q0 : n0 ≤ c0) :
    Calls Try.prog 9 #[.slice A0 n0 c0] w fun e w' => e = .returned (.bool true) ∧ Below w.heap.size w w' := by
  by_cases big : n0 ≤ 1048576
  rotate_left
  · go_enter Try.func9, Try.ntmps9
    go_wp2_with fail
    go_ret
    exact ⟨rfl, Below.refl _ _⟩
  go_enter Try.func9, Try.ntmps9
  go_wp2_with fail
  refine (drawPathConvex_any A0 n0 c0 z0 _ h0 (bytes_of k0) big q0).mono ?_
  rintro e w1 ⟨A, n, c, L, rfl, r, hs, hn1, hn9, B1⟩
  cases hp : pathB L with
  | false =>
    clear hn1 hn9
    go_wp2_with fail
    refine (pConvex0 A n c L _ r hs hp).mono ?_
    rintro e w2 ⟨rfl, b⟩
    have B2 := below_then B1 b
    replace r := r.same b
    clear b
    go_wp2_with fail
    refine (qConvex0 A n c L _ r hs hp).mono ?_
    rintro e w3 ⟨rfl, b⟩
    have B3 := below_then B2 b
    replace r := r.same b
    clear b
    go_wp2_with fail
    go_ret
    exact ⟨rfl, B3⟩
  | true =>
    obtain ⟨l, rfl, P⟩ := path_form hp
    have hl : l.length = n := by rw [← rowsOf_len]; exact r.1
    have h8 := P.hi
    have h3 := P.lo
    clear hp hs
    have HS := Lib.hid P
    have hI := fun W (h : RdM W A n (rowsOf l)) => pConvex A n c l W h P
    have hQ := fun W (h : RdM W A n (rowsOf l)) => qConvex A n c l W h P
    cases hc : convB l with
    | false =>
      rw [hc] at hI hQ
      clear hc hn1 hn9 h8 h3 hl P
      go_wp2_with fail
      refine (hI _ r).mono ?_
      rintro e w2 ⟨rfl, b⟩
      have B2 := below_then B1 b
      replace r := r.same b
      clear b
      go_wp2_with fail
      refine (hQ _ r).mono ?_
      rintro e w3 ⟨rfl, b⟩
      have B3 := below_then B2 b
      replace r := r.same b
      clear b
      go_wp2_with fail
      go_ret
      exact ⟨rfl, B3⟩
    | true =>
      have ha := P.area_pos hc
      have hA := fun W (h : RdM W A n (rowsOf l)) => pArea A n c l W h P
      have h5 := fun A c W (h : RdM W A n (rowsOf (bakP l))) => pConvex A n c _ W h P.bak
      have h6 := fun A c W (h : RdM W A n (rowsOf (l.map quaP))) => pConvex A n c _ W h P.qua
      rw [P.conv_bak hc] at h5
      rw [P.conv_qua, hc] at h6
      rw [hc] at hI hQ
      generalize areaP l = a at *
      have d1 : decide (a > 0) = true := by simpa using ha
      have H5 := Lib.hid h5
      have H6 := Lib.hid h6
      have HA := Lib.hid hA
      have HI := Lib.hid hI
      have HQ := Lib.hid hQ
      clear h5 h6 hA hI hQ hc hn1 hn9 h8 h3 hl P ha
      go_wp2_with fail
      refine (HI.out _ r).mono ?_
      rintro e w2 ⟨rfl, b⟩
      have B2 := below_then B1 b
      replace r := r.same b
      clear b
      go_wp2_with fail
      refine (HQ.out _ r).mono ?_
      rintro e w3 ⟨rfl, b⟩
      have B3 := below_then B2 b
      replace r := r.same b
      clear b
      go_wp2_with fail
      refine (HA.out _ r).mono ?_
      rintro e w4 ⟨rfl, b⟩
      have B4 := below_then B3 b
      replace r := r.same b
      clear b
      go_wp2_with fail
      refine (pTurn A n c l _ r HS.out).mono ?_
      rintro e w5 ⟨A5, c5, rfl, r5, b⟩
      have B5 := below_then B4 b
      replace r := r.same b
      clear b
      go_wp2_with fail
      refine (pBack A n c l _ r HS.out).mono ?_
      rintro e w6 ⟨A6, c6, rfl, r6, b⟩
      have B6 := below_then B5 b
      replace r := r.same b
      replace r5 := r5.same b
      clear b
      go_wp2_with fail
      refine (H6.out A5 c5 _ r5).mono ?_
      rintro e w7 ⟨rfl, b⟩
      have B7 := below_then B6 b
      replace r := r.same b
      replace r5 := r5.same b
      replace r6 := r6.same b
      clear b
      go_wp2_with fail
      refine (H5.out A6 c6 _ r6).mono ?_
      rintro e w8 ⟨rfl, b⟩
      have B8 := below_then B7 b
      replace r := r.same b
      replace r5 := r5.same b
      replace r6 := r6.same b
      clear b
      go_wp2_with fail
      go_ret
      exact ⟨rfl, B8⟩

set_option maxRecDepth 100000 in
set_option maxHeartbeats 4000000 in
theorem fnRim_walk (A0 : Option Addr) (n0 c0 : Nat) (z0 : List Int) (w : World) (h0 : RdB w A0 n0 z0) (k0 : WfL .u8 z0) (q0 : n0 ≤ c0) :
    Calls Try.prog 11 #[.slice A0 n0 c0] w fun e w' => e = .returned (.bool true) ∧ Below w.heap.size w w' := by
  by_cases big : n0 ≤ 1048576
  rotate_left
  · go_enter Try.func11, Try.ntmps11
    go_wp2_with fail
    go_ret
    exact ⟨rfl, Below.refl _ _⟩
  go_enter Try.func11, Try.ntmps11
  go_wp2_with fail
  refine (drawPathRim_any A0 n0 c0 z0 _ h0 (bytes_of k0) big q0).mono ?_
  rintro e w1 ⟨A, n, c, L, rfl, r, hs, hn1, hn9, B1⟩
  cases hp : pathB L with
  | false =>
    clear hn1 hn9
    go_wp2_with fail
    refine (pRim0 A n c L _ r hs hp).mono ?_
    rintro e w2 ⟨rfl, b⟩
    have B2 := below_then B1 b
    replace r := r.same b
    clear b
    go_wp2_with fail
    refine (qRim0 A n c L _ r hs hp).mono ?_
    rintro e w3 ⟨rfl, b⟩
    have B3 := below_then B2 b
    replace r := r.same b
    clear b
    go_wp2_with fail
    go_ret
    exact ⟨rfl, B3⟩
  | true =>
    obtain ⟨l, rfl, P⟩ := path_form hp
    have hl : l.length = n := by rw [← rowsOf_len]; exact r.1
    have h8 := P.hi
    have h3 := P.lo
    clear hp hs
    have HS := Lib.hid P
    have hbd := area_bd P
    have hrl := P.rim_len
    have hrb := P.rim_bd (Nat.le_refl l.length)
    have hev := P.even
    have hI := fun W (h : RdM W A n (rowsOf l)) => pRim A n c l W h P
    have hQ := fun W (h : RdM W A n (rowsOf l)) => qRim A n c l W h P
    have hA := fun W (h : RdM W A n (rowsOf l)) => pArea A n c l W h P
    have h6 := fun A c W (h : RdM W A n (rowsOf (l.map quaP))) => pRim A n c _ W h P.qua
    rw [rim_qua] at h6
    rw [show sumF (fun i => gcdP (atP l i)) l.length = rimP l from rfl] at hrb
    generalize areaP l = a at *
    generalize rimP l = m at *
    have v1 : IntKind.i64.wrap (a - m) = a - m := wrap_is rfl (by omega) (by omega)
    have d1 : decide (m ≥ (n : Int)) = true := by simp; omega
    have e1 : Int.tmod (a - m) 2 = 0 := tmod_two hev
    have H6 := Lib.hid h6
    have HA := Lib.hid hA
    have HI := Lib.hid hI
    have HQ := Lib.hid hQ
    clear h6 hA hI hQ hn1 hn9 h8 h3 hl P hbd hrl hrb
    go_wp2_with fail
    refine (HI.out _ r).mono ?_
    rintro e w2 ⟨rfl, b⟩
    have B2 := below_then B1 b
    replace r := r.same b
    clear b
    go_wp2_with fail
    refine (HQ.out _ r).mono ?_
    rintro e w3 ⟨rfl, b⟩
    have B3 := below_then B2 b
    replace r := r.same b
    clear b
    go_wp2_with fail
    refine (HA.out _ r).mono ?_
    rintro e w4 ⟨rfl, b⟩
    have B4 := below_then B3 b
    replace r := r.same b
    clear b
    go_wp2_with fail
    refine (pTurn A n c l _ r HS.out).mono ?_
    rintro e w5 ⟨A5, c5, rfl, r5, b⟩
    have B5 := below_then B4 b
    replace r := r.same b
    clear b
    go_wp2_with fail
    refine (H6.out A5 c5 _ r5).mono ?_
    rintro e w6 ⟨rfl, b⟩
    have B6 := below_then B5 b
    replace r := r.same b
    replace r5 := r5.same b
    clear b
    go_wp2_with fail
    go_ret
    exact ⟨rfl, B6⟩
end Go.Proofs.Ythpgenkdiokpeaa
