/- The walks of the laws FnSorted, FnRun, FnGain, FnOrderLattice. -/
import Derived.Test.YthpgenkdiokpeaaDraw6
import Derived.Test.YthpgenkdiokpeaaPthF
import Derived.Test.YthpgenkdiokpeaaRowH
namespace Go.Proofs.Ythpgenkdiokpeaa
open Go.RowKit Go.Sort Go.Lib

set_option maxRecDepth 100000 in
set_option maxHeartbeats 4000000 in
theorem fnSorted_walk (A0 : Option Addr) (n0 c0 : Nat) (z0 : List Int) (w : World) (h0 : RdB w A0 n0 z0) (k0 : WfL .u8 z0) (q0 : n0 ≤ c0) :
    Calls Try.prog 14 #[.slice A0 n0 c0] w fun e w' => e = .returned (.bool true) ∧ Below w.heap.size w w' := by
  by_cases big : n0 ≤ 1048576
  rotate_left
  · go_enter Try.func14, Try.ntmps14
    go_wp2_with fail
    go_ret
    exact ⟨rfl, Below.refl _ _⟩
  go_enter Try.func14, Try.ntmps14
  go_wp2_with fail
  refine (drawOrderSorted_any A0 n0 c0 z0 _ h0 (bytes_of k0) big q0).mono ?_
  rintro e w1 ⟨A, n, c, L, rfl, r, hs, hn1, hn9, B1⟩
  cases hp : pathB L with
  | false =>
    clear hn1 hn9
    go_wp2_with fail
    refine (pSorted0 A n c L _ r hs hp).mono ?_
    rintro e w2 ⟨A2, c2, rfl, r2, b⟩
    have B2 := below_then B1 b
    replace r := r.same b
    clear b
    go_wp2_with fail
    refine (qSorted0 A n c L _ r hs hp).mono ?_
    rintro e w3 ⟨A3, c3, rfl, r3, b⟩
    have B3 := below_then B2 b
    replace r := r.same b
    replace r2 := r2.same b
    clear b
    go_wp2_with fail
    refine (sameRowsM_any _ _ 0 _ _ [] _ r2 r3 small_nil).mono ?_
    rintro e w4 ⟨rfl, b⟩
    have B4 := below_then B3 b
    replace r := r.same b
    replace r2 := r2.same b
    replace r3 := r3.same b
    clear b
    go_wp2_with fail
    refine (sameRowsM_any _ _ 0 _ _ [] _ r2 r3 small_nil).mono ?_
    rintro e w5 ⟨rfl, b⟩
    have B5 := below_then B4 b
    replace r := r.same b
    replace r2 := r2.same b
    replace r3 := r3.same b
    clear b
    go_wp2_with fail
    go_ret
    exact ⟨rfl, B5⟩
  | true =>
    obtain ⟨l, rfl, P⟩ := path_form hp
    have hl : l.length = n := by rw [← rowsOf_len]; exact r.1
    have h8 := P.hi
    have h3 := P.lo
    clear hp hs
    have HS := Lib.hid P
    obtain ⟨S1, S2, S3, S4, S5⟩ := P.srt_all
    have HS1 := Lib.hid S1
    have hb1 := area_bd P
    have hb2 := area_bd S1
    have hA := fun W (h : RdM W A n (rowsOf l)) => pArea A n c l W h P
    have h4 := fun A c W (h : RdM W A n (rowsOf (srt l))) => pArea A n c _ W h S1
    have h5 := fun A c W (h : RdM W A n (rowsOf (srt l))) => pConvex A n c _ W h S1
    have h6 := fun A c W (h : RdM W A n (rowsOf (srt l))) => pSorted A n c _ W h S1
    rw [S2] at h6
    rw [S5] at h5
    have HSM := Lib.hid (small_rows S1.hi)
    generalize areaP l = a at *
    generalize areaP (srt l) = m at *
    have d1 : decide (m ≥ a) = true := by simpa using S3
    have d2 : decide (m ≥ 0) = true := by simpa using S4
    have d3 : (decide (0 < m) == decide (m > 0)) = true := by simp
    have HA := Lib.hid hA
    have H4 := Lib.hid h4
    have H5 := Lib.hid h5
    have H6 := Lib.hid h6
    clear hA h4 h5 h6 hn1 hn9 h8 h3 hl P hb1 hb2 S1 S2 S3 S4 S5
    go_wp2_with fail
    refine (pSorted A n c l _ r HS.out).mono ?_
    rintro e w2 ⟨A2, c2, rfl, r2, b⟩
    have B2 := below_then B1 b
    replace r := r.same b
    clear b
    go_wp2_with fail
    refine (qSorted A n c l _ r HS.out).mono ?_
    rintro e w3 ⟨A3, c3, rfl, r3, b⟩
    have B3 := below_then B2 b
    replace r := r.same b
    replace r2 := r2.same b
    clear b
    go_wp2_with fail
    refine (sameRowsM_any _ _ n _ _ _ _ r2 r3 HSM.out).mono ?_
    rintro e w4 ⟨rfl, b⟩
    have B4 := below_then B3 b
    replace r := r.same b
    replace r2 := r2.same b
    replace r3 := r3.same b
    clear b
    go_wp2_with fail
    refine (H6.out A2 c2 _ r2).mono ?_
    rintro e w5 ⟨A5, c5, rfl, r5, b⟩
    have B5 := below_then B4 b
    replace r := r.same b
    replace r2 := r2.same b
    clear b
    go_wp2_with fail
    refine (HA.out _ r).mono ?_
    rintro e w6 ⟨rfl, b⟩
    have B6 := below_then B5 b
    replace r := r.same b
    replace r2 := r2.same b
    replace r5 := r5.same b
    clear b
    go_wp2_with fail
    refine (H4.out A2 c2 _ r2).mono ?_
    rintro e w7 ⟨rfl, b⟩
    have B7 := below_then B6 b
    replace r := r.same b
    replace r2 := r2.same b
    replace r5 := r5.same b
    clear b
    go_wp2_with fail
    refine (sameRowsM_any _ _ n _ _ _ _ r5 r2 HSM.out).mono ?_
    rintro e w8 ⟨rfl, b⟩
    have B8 := below_then B7 b
    replace r := r.same b
    replace r2 := r2.same b
    replace r5 := r5.same b
    clear b
    go_wp2_with fail
    refine (H5.out A2 c2 _ r2).mono ?_
    rintro e w9 ⟨rfl, b⟩
    have B9 := below_then B8 b
    replace r := r.same b
    replace r2 := r2.same b
    replace r5 := r5.same b
    clear b
    go_wp2_with fail
    go_ret
    exact ⟨rfl, B9⟩

set_option maxRecDepth 100000 in
set_option maxHeartbeats 4000000 in
theorem fnRun_walk (A0 : Option Addr) (n0 c0 : Nat) (z0 : List Int) (w : World) (h0 : RdB w A0 n0 z0) (k0 : WfL .u8 z0) (q0 : n0 ≤ c0) :
    Calls Try.prog 16 #[.slice A0 n0 c0] w fun e w' => e = .returned (.bool true) ∧ Below w.heap.size w w' := by
  by_cases big : n0 ≤ 1048576
  rotate_left
  · go_enter Try.func16, Try.ntmps16
    go_wp2_with fail
    go_ret
    exact ⟨rfl, Below.refl _ _⟩
  go_enter Try.func16, Try.ntmps16
  go_wp2_with fail
  refine (drawOrderRun_any A0 n0 c0 z0 _ h0 (bytes_of k0) big q0).mono ?_
  rintro e w1 ⟨A, n, c, L, x, y, rfl, r, hs, hn1, hn9, hx, hy, B1⟩
  cases hp : plB L x y with
  | false =>
    clear hn1 hn9
    go_wp2_with fail
    refine (pRun0 A n c L x y _ r hs hp).mono ?_
    rintro e w2 ⟨A2, c2, rfl, r2, b⟩
    have B2 := below_then B1 b
    replace r := r.same b
    clear b
    go_wp2_with fail
    refine (qRun0 A n c L x y _ r hs hp).mono ?_
    rintro e w3 ⟨A3, c3, rfl, r3, b⟩
    have B3 := below_then B2 b
    replace r := r.same b
    replace r2 := r2.same b
    clear b
    go_wp2_with fail
    refine (sameRowsM_any _ _ 0 _ _ [] _ r2 r3 small_nil).mono ?_
    rintro e w4 ⟨rfl, b⟩
    have B4 := below_then B3 b
    replace r := r.same b
    replace r2 := r2.same b
    replace r3 := r3.same b
    clear b
    go_wp2_with fail
    refine (sameRowsM_any _ _ 0 _ _ [] _ r2 r3 small_nil).mono ?_
    rintro e w5 ⟨rfl, b⟩
    have B5 := below_then B4 b
    replace r := r.same b
    replace r2 := r2.same b
    replace r3 := r3.same b
    clear b
    go_wp2_with fail
    go_ret
    exact ⟨rfl, B5⟩
  | true =>
    obtain ⟨hp1, f, t, rfl, rfl, hft, htl⟩ := plB_true hp
    obtain ⟨l, rfl, P⟩ := path_form hp1
    have hl : l.length = n := by rw [← rowsOf_len]; exact r.1
    rw [rowsOf_len] at htl
    have htn : t < n := by omega
    have HS := Lib.hid P
    have hR := P.perm (runP_perm l hft)
    have HR := Lib.hid hR
    have HFT := Lib.hid hft
    have HTN := Lib.hid htn
    have h5 := fun A c W (h : RdM W A n (rowsOf (runP l f t))) => pRun A n c _ W h hR f t f t rfl rfl hft htn
    rw [runP_back hft htl] at h5
    have hA := fun W (h : RdM W A n (rowsOf l)) => pRim A n c l W h P
    have h6 := fun A c W (h : RdM W A n (rowsOf (runP l f t))) => pRim A n c _ W h hR
    rw [rim_perm (runP_perm l hft)] at h6
    have HSM := Lib.hid (small_rows hR.hi)
    have HSL := Lib.hid (small_rows P.hi)
    generalize rimP l = m at *
    have H5 := Lib.hid h5
    have H6 := Lib.hid h6
    have HA := Lib.hid hA
    clear h5 h6 hA hn1 hn9 hl P hR hft htn htl hp hp1 hs hx hy
    go_wp2_with fail
    refine (pRun A n c l _ r HS.out _ _ f t rfl rfl HFT.out HTN.out).mono ?_
    rintro e w2 ⟨A2, c2, rfl, r2, b⟩
    have B2 := below_then B1 b
    replace r := r.same b
    clear b
    go_wp2_with fail
    refine (qRun A n c l _ r HS.out _ _ f t rfl rfl HFT.out HTN.out).mono ?_
    rintro e w3 ⟨A3, c3, rfl, r3, b⟩
    have B3 := below_then B2 b
    replace r := r.same b
    replace r2 := r2.same b
    clear b
    go_wp2_with fail
    refine (sameRowsM_any _ _ n _ _ _ _ r2 r3 HSM.out).mono ?_
    rintro e w4 ⟨rfl, b⟩
    have B4 := below_then B3 b
    replace r := r.same b
    replace r2 := r2.same b
    replace r3 := r3.same b
    clear b
    go_wp2_with fail
    refine (H5.out A2 c2 _ r2).mono ?_
    rintro e w5 ⟨A5, c5, rfl, r5, b⟩
    have B5 := below_then B4 b
    replace r := r.same b
    replace r2 := r2.same b
    clear b
    go_wp2_with fail
    refine (HA.out _ r).mono ?_
    rintro e w6 ⟨rfl, b⟩
    have B6 := below_then B5 b
    replace r := r.same b
    replace r2 := r2.same b
    replace r5 := r5.same b
    clear b
    go_wp2_with fail
    refine (H6.out A2 c2 _ r2).mono ?_
    rintro e w7 ⟨rfl, b⟩
    have B7 := below_then B6 b
    replace r := r.same b
    replace r2 := r2.same b
    replace r5 := r5.same b
    clear b
    go_wp2_with fail
    refine (sameRowsM_any _ _ n _ _ _ _ r5 r HSL.out).mono ?_
    rintro e w8 ⟨rfl, b⟩
    have B8 := below_then B7 b
    replace r := r.same b
    replace r2 := r2.same b
    replace r5 := r5.same b
    clear b
    go_wp2_with fail
    go_ret
    exact ⟨rfl, B8⟩

set_option maxRecDepth 100000 in
set_option maxHeartbeats 4000000 in
theorem fnGain_walk (A0 : Option Addr) (n0 c0 : Nat) (z0 : List Int) (w : World) (h0 : RdB w A0 n0 z0) (k0 : WfL .u8 z0) (q0 : n0 ≤ c0) :
    Calls Try.prog 17 #[.slice A0 n0 c0] w fun e w' => e = .returned (.bool true) ∧ Below w.heap.size w w' := by
  by_cases big : n0 ≤ 1048576
  rotate_left
  · go_enter Try.func17, Try.ntmps17
    go_wp2_with fail
    go_ret
    exact ⟨rfl, Below.refl _ _⟩
  go_enter Try.func17, Try.ntmps17
  go_wp2_with fail
  refine (drawOrderGain_any A0 n0 c0 z0 _ h0 (bytes_of k0) big q0).mono ?_
  rintro e w1 ⟨A, n, c, L, x, y, rfl, r, hs, hn1, hn9, hx, hy, B1⟩
  cases hp : plB L x y with
  | false =>
    clear hn1 hn9
    go_wp2_with fail
    refine (pGain0 A n c L x y _ r hs hp).mono ?_
    rintro e w2 ⟨rfl, b⟩
    have B2 := below_then B1 b
    replace r := r.same b
    clear b
    go_wp2_with fail
    refine (qGain0 A n c L x y _ r hs hp).mono ?_
    rintro e w3 ⟨rfl, b⟩
    have B3 := below_then B2 b
    replace r := r.same b
    clear b
    go_wp2_with fail
    go_ret
    exact ⟨rfl, B3⟩
  | true =>
    obtain ⟨hp1, f, t, rfl, rfl, hft, htl⟩ := plB_true hp
    obtain ⟨l, rfl, P⟩ := path_form hp1
    have hl : l.length = n := by rw [← rowsOf_len]; exact r.1
    rw [rowsOf_len] at htl
    have htn : t < n := by omega
    have HS := Lib.hid P
    have hR := P.perm (runP_perm l hft)
    have HR := Lib.hid hR
    have HFT := Lib.hid hft
    have HTN := Lib.hid htn
    have hI := fun W (h : RdM W A n (rowsOf l)) => pGain A n c l W h P f t f t rfl rfl hft htn
    have hQ := fun W (h : RdM W A n (rowsOf l)) => qGain A n c l W h P f t f t rfl rfl hft htn
    have h5 := fun A c W (h : RdM W A n (rowsOf (runP l f t))) => pGain A n c _ W h hR f t f t rfl rfl hft htn
    rw [runP_back hft htl] at h5
    have hev := P.gain_even (runP_perm l hft)
    have hb1 := area_bd P
    have hb2 := area_bd hR
    generalize areaP l = a at *
    generalize areaP (runP l f t) = m at *
    have e0 : a - m = -(m - a) := by omega
    rw [e0] at h5
    obtain ⟨d, ed⟩ : ∃ d, d = m - a := ⟨_, rfl⟩
    rw [← ed] at h5 hI hQ hev
    have v1 : IntKind.i64.wrap (0 - d) = -d := wrap_is (by omega) (by omega) (by omega)
    have v2 : IntKind.i64.wrap (-d) = -d := wrap_is rfl (by omega) (by omega)
    have e1 : Int.tmod d 2 = 0 := tmod_two hev
    have H5 := Lib.hid h5
    have HI := Lib.hid hI
    have HQ := Lib.hid hQ
    clear h5 hI hQ hn1 hn9 hl P hR hft htn htl hp hp1 hs hx hy hb1 hb2 e0 ed
    go_wp2_with fail
    refine (HI.out _ r).mono ?_
    rintro e w2 ⟨rfl, b⟩
    have B2 := below_then B1 b
    replace r := r.same b
    clear b
    go_wp2_with fail
    refine (HQ.out _ r).mono ?_
    rintro e w3 ⟨rfl, b⟩
    have B3 := below_then B2 b
    replace r := r.same b
    clear b
    go_wp2_with fail
    refine (pRun A n c l _ r HS.out _ _ f t rfl rfl HFT.out HTN.out).mono ?_
    rintro e w4 ⟨A4, c4, rfl, r4, b⟩
    have B4 := below_then B3 b
    replace r := r.same b
    clear b
    go_wp2_with fail
    refine (H5.out A4 c4 _ r4).mono ?_
    rintro e w5 ⟨rfl, b⟩
    have B5 := below_then B4 b
    replace r := r.same b
    replace r4 := r4.same b
    clear b
    go_wp2_with fail
    go_ret
    exact ⟨rfl, B5⟩

set_option maxRecDepth 100000 in
set_option maxHeartbeats 4000000 in
theorem fnOrderLattice_walk (A0 : Option Addr) (n0 c0 : Nat) (z0 : List Int) (w : World) (h0 : RdB w A0 n0 z0) (k0 : WfL .u8 z0) (q0 : n0 ≤ c0) :
    Calls Try.prog 19 #[.slice A0 n0 c0] w fun e w' => e = .returned (.bool true) ∧ Below w.heap.size w w' := by
  by_cases big : n0 ≤ 1048576
  rotate_left
  · go_enter Try.func19, Try.ntmps19
    go_wp2_with fail
    go_ret
    exact ⟨rfl, Below.refl _ _⟩
  go_enter Try.func19, Try.ntmps19
  go_wp2_with fail
  refine (drawOrderLattice_any A0 n0 c0 z0 _ h0 (bytes_of k0) big q0).mono ?_
  rintro e w1 ⟨A, n, c, L, rfl, r, hs, hn1, hn9, B1⟩
  cases hp : pmB L 6 with
  | false =>
    clear hn1 hn9
    go_wp2_with fail
    refine (pLattice0 A n c L _ r hs hp).mono ?_
    rintro e w2 ⟨rfl, b⟩
    have B2 := below_then B1 b
    replace r := r.same b
    clear b
    go_wp2_with fail
    refine (qLattice0 A n c L _ r hs hp).mono ?_
    rintro e w3 ⟨rfl, b⟩
    have B3 := below_then B2 b
    replace r := r.same b
    clear b
    go_wp2_with fail
    go_ret
    exact ⟨rfl, B3⟩
  | true =>
    obtain ⟨hp1, hp6⟩ := pmB_true hp
    obtain ⟨l, rfl, P⟩ := path_form hp1
    have hl : l.length = n := by rw [← rowsOf_len]; exact r.1
    rw [rowsOf_len] at hp6
    have HS := Lib.hid P
    have h2 := P.two
    have h7 := nD_720 hp6
    have h6 : n ≤ 6 := by omega
    have hI := fun W (h : RdM W A n (rowsOf l)) => pLattice A n c l W h P h6
    have hQ := fun W (h : RdM W A n (rowsOf l)) => qLattice A n c l W h P h6
    have h5 := fun A c W (h : RdM W A n (rowsOf (bakP l))) => pLattice A n c _ W h P.bak h6
    rw [show (bakP l).length = l.length by simp [bakP], nD_bak] at h5
    generalize nD l.length l = k at *
    have d1 : decide ((k : Int) ≥ 2) = true := by simp; omega
    have d2 : decide ((k : Int) ≤ 720) = true := by simp; omega
    have d3 : decide (k ≥ 2) = true := by simp; omega
    have d4 : decide (k ≤ 720) = true := by simp; omega
    have H5 := Lib.hid h5
    have HI := Lib.hid hI
    have HQ := Lib.hid hQ
    clear h5 hI hQ hn1 hn9 hl P h2 h7 h6 hp hp1 hp6 hs
    go_wp2_with fail
    refine (HI.out _ r).mono ?_
    rintro e w2 ⟨rfl, b⟩
    have B2 := below_then B1 b
    replace r := r.same b
    clear b
    go_wp2_with fail
    refine (HQ.out _ r).mono ?_
    rintro e w3 ⟨rfl, b⟩
    have B3 := below_then B2 b
    replace r := r.same b
    clear b
    go_wp2_with fail
    refine (pBack A n c l _ r HS.out).mono ?_
    rintro e w4 ⟨A4, c4, rfl, r4, b⟩
    have B4 := below_then B3 b
    replace r := r.same b
    clear b
    go_wp2_with fail
    refine (H5.out A4 c4 _ r4).mono ?_
    rintro e w5 ⟨rfl, b⟩
    have B5 := below_then B4 b
    replace r := r.same b
    replace r4 := r4.same b
    clear b
    go_wp2_with fail
    go_ret
    exact ⟨rfl, B5⟩
end Go.Proofs.Ythpgenkdiokpeaa
