/- The walks of the laws FnPieces, FnZonoInside. -/
import Derived.Test.YthpgenkdiokpeaaDraw7
import Derived.Test.YthpgenkdiokpeaaPthF
import Derived.Test.YthpgenkdiokpeaaRowH
namespace Go.Proofs.Ythpgenkdiokpeaa
open Go.RowKit Go.Sort Go.Lib

theorem zinB_true {L : List (List Int)} (h : zinB L = true) : starB L = true ∧ goodB (rowsOf (zonP (ptsL L))) = true := by
  unfold zinB at h
  simpa using h

set_option maxRecDepth 100000 in
set_option maxHeartbeats 4000000 in
theorem fnPieces_walk (A0 : Option Addr) (n0 c0 : Nat) (z0 : List Int) (w : World) (h0 : RdB w A0 n0 z0) (k0 : WfL .u8 z0) (q0 : n0 ≤ c0) :
    Calls Try.prog 22 #[.slice A0 n0 c0] w fun e w' => e = .returned (.bool true) ∧ Below w.heap.size w w' := by
  by_cases big : n0 ≤ 1048576
  rotate_left
  · go_enter Try.func22, Try.ntmps22
    go_wp2_with fail
    go_ret
    exact ⟨rfl, Below.refl _ _⟩
  go_enter Try.func22, Try.ntmps22
  go_wp2_with fail
  refine (drawZonoPieces_any A0 n0 c0 z0 _ h0 (bytes_of k0) big q0).mono ?_
  rintro e w1 ⟨A, n, c, L, rfl, r, hs, hn1, hn9, B1⟩
  cases hp : starB L with
  | false =>
    clear hn1 hn9
    go_wp2_with fail
    refine (pZonoPieces0 A n c L _ r hs hp).mono ?_
    rintro e w2 ⟨rfl, b⟩
    have B2 := below_then B1 b
    replace r := r.same b
    clear b
    go_wp2_with fail
    refine (qZonoPieces0 A n c L _ r hs hp).mono ?_
    rintro e w3 ⟨rfl, b⟩
    have B3 := below_then B2 b
    replace r := r.same b
    clear b
    go_wp2_with fail
    go_ret
    exact ⟨rfl, B3⟩
  | true =>
    obtain ⟨l, rfl, P⟩ := star_form hp
    have hl : l.length = n := by rw [← rowsOf_len]; exact r.1
    have h4 := P.hi
    have h2 := P.lo
    clear hp hs
    have HS := Lib.hid P
    have hZ := zonP_path P.lo P.hi P.steps
    have HZ := Lib.hid hZ
    have hle := pieces_le l
    have hnn := prS_nn l l.length
    have hI := fun W (h : RdM W A n (rowsOf l)) => pZonoPieces A n c l W h P
    have hQ := fun W (h : RdM W A n (rowsOf l)) => qZonoPieces A n c l W h P
    have h5 := fun A c W (h : RdM W A (2 * n) (rowsOf (zonP l))) => pConvex A (2 * n) c _ W h hZ
    rw [zon_conv P.lo P.hi P.steps, show prS neC l l.length = zpcP l from rfl] at h5
    rw [show prS neC l l.length = zpcP l from rfl] at hle hnn
    have hle2 : zpcP l ≤ 6 ∧ (n = 2 → zpcP l ≤ 1) ∧ (n = 3 → zpcP l ≤ 3) := by
      rw [hl] at hle
      have hn4 : n ≤ 4 := by omega
      have hn2 : 2 ≤ n := by omega
      match n, hn4, hn2 with
      | 2, _, _ => simp [sumF] at hle; omega
      | 3, _, _ => simp [sumF] at hle; omega
      | 4, _, _ => simp [sumF] at hle; omega
    generalize zpcP l = a at *
    have d3 : (decide (0 < a) == decide (a > 0)) = true := by simp
    have HI := Lib.hid hI
    have HQ := Lib.hid hQ
    have H5 := Lib.hid h5
    have hcase : (n = 2 ∧ a ≤ 1) ∨ (n = 3 ∧ a ≤ 3) ∨ (n = 4 ∧ a ≤ 6) := by omega
    clear hI hQ h5 hn1 hn9 h4 h2 hl P hZ hle hnn hle2
    rcases hcase with ⟨rfl, hc⟩ | ⟨rfl, hc⟩ | ⟨rfl, hc⟩
    all_goals
      go_wp2_with fail
      refine (HI.out _ r).mono ?_
      rintro e w2 ⟨rfl, b⟩
      have B2 := below_then B1 b
      replace r := r.same b
      clear b
      go_wp2_with fail
      refine (HQ.out _ r).mono ?_
      rintro e w3 ⟨rfl, b⟩
      have B3 := below_then B2 b
      replace r := r.same b
      clear b
      go_wp2_with fail
      refine (pZonoPath A _ c l _ r HS.out).mono ?_
      rintro e w4 ⟨A4, c4, rfl, r4, b⟩
      have B4 := below_then B3 b
      replace r := r.same b
      clear b
      go_wp2_with fail
      refine (H5.out A4 c4 _ r4).mono ?_
      rintro e w5 ⟨rfl, b⟩
      have B5 := below_then B4 b
      replace r := r.same b
      replace r4 := r4.same b
      clear b
      go_wp2_with fail
      go_ret
      exact ⟨rfl, B5⟩

set_option maxRecDepth 100000 in
set_option maxHeartbeats 4000000 in
theorem fnZonoInside_walk (A0 : Option Addr) (n0 c0 : Nat) (z0 : List Int) (w : World) (h0 : RdB w A0 n0 z0) (k0 : WfL .u8 z0) (q0 : n0 ≤ c0) :
    Calls Try.prog 23 #[.slice A0 n0 c0] w fun e w' => e = .returned (.bool true) ∧ Below w.heap.size w w' := by
  by_cases big : n0 ≤ 1048576
  rotate_left
  · go_enter Try.func23, Try.ntmps23
    go_wp2_with fail
    go_ret
    exact ⟨rfl, Below.refl _ _⟩
  go_enter Try.func23, Try.ntmps23
  go_wp2_with fail
  refine (drawZonoInside_any A0 n0 c0 z0 _ h0 (bytes_of k0) big q0).mono ?_
  rintro e w1 ⟨A, n, c, L, rfl, r, hs, hn1, hn9, B1⟩
  cases hp : zinB L with
  | false =>
    clear hn1 hn9
    go_wp2_with fail
    refine (pZonoInside0 A n c L _ r hs hp).mono ?_
    rintro e w2 ⟨rfl, b⟩
    have B2 := below_then B1 b
    replace r := r.same b
    clear b
    go_wp2_with fail
    refine (qZonoInside0 A n c L _ r hs hp).mono ?_
    rintro e w3 ⟨rfl, b⟩
    have B3 := below_then B2 b
    replace r := r.same b
    clear b
    go_wp2_with fail
    go_ret
    exact ⟨rfl, B3⟩
  | true =>
    obtain ⟨hst, hgd⟩ := zinB_true hp
    obtain ⟨l, rfl, P⟩ := star_form hst
    have hl : l.length = n := by rw [← rowsOf_len]; exact r.1
    have hZ := zonP_path P.lo P.hi P.steps
    have hc : convB (zonP l) = true := by
      unfold goodB at hgd
      rw [ptsL_rows, ptsL_rows, pathB_rows hZ, Bool.true_and] at hgd
      exact hgd
    have HS := Lib.hid P
    have HZ := Lib.hid hZ
    have hb1 := area_bd hZ
    have hev := hZ.even
    have hrb := hZ.rim_bd (Nat.le_refl (zonP l).length)
    rw [show sumF (fun i => gcdP (atP (zonP l) i)) (zonP l).length = rimP (zonP l) from rfl] at hrb
    have hI := fun W (h : RdM W A n (rowsOf l)) => pZonoInside A n c l W h P hc
    have hQ := fun W (h : RdM W A n (rowsOf l)) => qZonoInside A n c l W h P hc
    have hA := fun W (h : RdM W A n (rowsOf l)) => pZonoArea A n c l W h P
    rw [← zon_area P.lo P.hi P.steps] at hA
    have h5 := fun A c W (h : RdM W A (2 * n) (rowsOf (zonP l))) => pInside A (2 * n) c _ W h hZ hc
    have h6 := fun A c W (h : RdM W A (2 * n) (rowsOf (zonP l))) => pRim A (2 * n) c _ W h hZ
    have hin : 2 * inPt (zonP l) = areaP (zonP l) - rimP (zonP l) + 2 := by unfold inPt; omega
    generalize areaP (zonP l) = a at *
    generalize rimP (zonP l) = b at *
    generalize inPt (zonP l) = m at *
    have v1 : IntKind.i64.wrap (2 * m) = 2 * m := wrap_is rfl (by omega) (by omega)
    have v2 : IntKind.i64.wrap (2 * m + b) = 2 * m + b := wrap_is rfl (by omega) (by omega)
    have v3 : IntKind.i64.wrap (2 * m + b - 2) = a := wrap_is (by omega) (by omega) (by omega)
    have HI := Lib.hid hI
    have HQ := Lib.hid hQ
    have HA := Lib.hid hA
    have H5 := Lib.hid h5
    have H6 := Lib.hid h6
    clear hI hQ hA h5 h6 hn1 hn9 hl P hZ hc hb1 hev hrb hin hp hst hgd hs
    go_wp2_with fail
    refine (HI.out _ r).mono ?_
    rintro e w2 ⟨rfl, b⟩
    have B2 := below_then B1 b
    replace r := r.same b
    clear b
    go_wp2_with fail
    refine (HQ.out _ r).mono ?_
    rintro e w3 ⟨rfl, b⟩
    have B3 := below_then B2 b
    replace r := r.same b
    clear b
    go_wp2_with fail
    refine (pZonoPath A n c l _ r HS.out).mono ?_
    rintro e w4 ⟨A4, c4, rfl, r4, b⟩
    have B4 := below_then B3 b
    replace r := r.same b
    clear b
    go_wp2_with fail
    refine (H5.out A4 c4 _ r4).mono ?_
    rintro e w5 ⟨rfl, b⟩
    have B5 := below_then B4 b
    replace r := r.same b
    replace r4 := r4.same b
    clear b
    go_wp2_with fail
    refine (HA.out _ r).mono ?_
    rintro e w6 ⟨rfl, b⟩
    have B6 := below_then B5 b
    replace r := r.same b
    replace r4 := r4.same b
    clear b
    go_wp2_with fail
    refine (H6.out A4 c4 _ r4).mono ?_
    rintro e w7 ⟨rfl, b⟩
    have B7 := below_then B6 b
    replace r := r.same b
    replace r4 := r4.same b
    clear b
    go_wp2_with fail
    go_ret
    exact ⟨rfl, B7⟩
end Go.Proofs.Ythpgenkdiokpeaa
