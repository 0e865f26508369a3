/- The walk of the law FnBegin. -/
import Derived.Test.YthpgenkdiokpeaaDraw6
import Derived.Test.YthpgenkdiokpeaaPthF
import Derived.Test.YthpgenkdiokpeaaRowH
namespace Go.Proofs.Ythpgenkdiokpeaa
open Go.RowKit Go.Sort Go.Lib

theorem begB_true {L : List (List Int)} {a : Int} (h : begB L a = true) : pathB L = true ∧ ∃ k : Nat, a = k ∧ k < L.length := by
  simp only [begB, Bool.and_eq_true, decide_eq_true_eq] at h
  exact ⟨h.1, a.toNat, by omega, by omega⟩

set_option maxRecDepth 100000 in
set_option maxHeartbeats 4000000 in
theorem fnBegin_walk (A0 : Option Addr) (n0 c0 : Nat) (z0 : List Int) (w : World) (h0 : RdB w A0 n0 z0) (k0 : WfL .u8 z0) (q0 : n0 ≤ c0) :
    Calls Try.prog 8 #[.slice A0 n0 c0] w fun e w' => e = .returned (.bool true) ∧ Below w.heap.size w w' := by
  by_cases big : n0 ≤ 1048576
  rotate_left
  · go_enter Try.func8, Try.ntmps8
    go_wp2_with fail
    go_ret
    exact ⟨rfl, Below.refl _ _⟩
  go_enter Try.func8, Try.ntmps8
  go_wp2_with fail
  refine (drawPathBegin_any A0 n0 c0 z0 _ h0 (bytes_of k0) big q0).mono ?_
  rintro e w1 ⟨A, n, c, L, x, rfl, r, hs, hn1, hn9, hx, B1⟩
  cases hp : begB L x with
  | false =>
    clear hn1 hn9
    go_wp2_with fail
    refine (pBegin0 A n c L x _ r hs (wf_small hx.1 hx.2) hp).mono ?_
    rintro e w2 ⟨A2, c2, rfl, r2, b⟩
    have B2 := below_then B1 b
    replace r := r.same b
    clear b
    go_wp2_with fail
    refine (qBegin0 A n c L x _ r hs (wf_small hx.1 hx.2) hp).mono ?_
    rintro e w3 ⟨A3, c3, rfl, r3, b⟩
    have B3 := below_then B2 b
    replace r := r.same b
    replace r2 := r2.same b
    clear b
    go_wp2_with fail
    refine (sameRowsM_any _ _ 0 _ _ [] _ r2 r3 small_nil).mono ?_
    rintro e w4 ⟨rfl, b⟩
    have B4 := below_then B3 b
    replace r := r.same b
    replace r2 := r2.same b
    replace r3 := r3.same b
    clear b
    go_wp2_with fail
    refine (sameRowsM_any _ _ 0 _ _ [] _ r2 r3 small_nil).mono ?_
    rintro e w5 ⟨rfl, b⟩
    have B5 := below_then B4 b
    replace r := r.same b
    replace r2 := r2.same b
    replace r3 := r3.same b
    clear b
    go_wp2_with fail
    go_ret
    exact ⟨rfl, B5⟩
  | true =>
    obtain ⟨hp1, k, rfl, hkl⟩ := begB_true hp
    obtain ⟨l, rfl, P⟩ := path_form hp1
    have hl : l.length = n := by rw [← rowsOf_len]; exact r.1
    rw [rowsOf_len] at hkl
    have hkn : k < n := by omega
    have h8 := P.hi
    have HS := Lib.hid P
    have HR := Lib.hid (P.rot k)
    have HKN := Lib.hid hkn
    obtain ⟨j, hj, e1, e2⟩ : ∃ j : Nat, j < n ∧ Int.tmod ((n : Int) - (k : Int)) (n : Int) = (j : Int) ∧ rotL (rotL l k) j = l := by
      by_cases hk0 : k = 0
      · subst hk0
        exact ⟨0, by omega, by simp, by rw [rot_zero, rot_zero]⟩
      · refine ⟨n - k, by omega, by rw [Int.tmod_eq_emod_of_nonneg (by omega), Int.emod_eq_of_lt (by omega) (by omega)]; omega, by rw [← hl]; exact rot_back⟩
    have HJ := Lib.hid hj
    have h5 := fun A c a (ha : a = (j : Int)) W (h : RdM W A n (rowsOf (rotL l k))) => pBegin A n c _ W h (P.rot k) a j ha hj
    rw [e2] at h5
    have h6 := fun A c W (h : RdM W A n (rowsOf (rotL l k))) => pConvex A n c _ W h (P.rot k)
    have h7 := fun W (h : RdM W A n (rowsOf l)) => pConvex A n c l W h P
    rw [conv_rot (by omega)] at h6
    have HSM := Lib.hid (small_rows (P.rot k).hi)
    have HSL := Lib.hid (small_rows P.hi)
    generalize convB l = cb at *
    have v0 : IntKind.i64.wrap ((n : Int) - (k : Int)) = (n : Int) - (k : Int) := wrap_is rfl (by omega) (by omega)
    have v1 : IntKind.i64.wrap (Int.tmod ((n : Int) - (k : Int)) (n : Int)) = (j : Int) := wrap_is e1 (by omega) (by omega)
    have hn0 : ((n : Int) == 0) = false := by simp; omega
    have hn0' : (n : Int) ≠ 0 := by omega
    have H5 := Lib.hid h5
    have H6 := Lib.hid h6
    have H7 := Lib.hid h7
    clear h5 h6 h7 hn1 hn9 hl P hkn hkl hp hp1 hs hx hj e2 h8
    go_wp2_with fail
    refine (pBegin A n c l _ r HS.out _ k rfl HKN.out).mono ?_
    rintro e w2 ⟨A2, c2, rfl, r2, b⟩
    have B2 := below_then B1 b
    replace r := r.same b
    clear b
    go_wp2_with fail
    refine (qBegin A n c l _ r HS.out _ k rfl HKN.out).mono ?_
    rintro e w3 ⟨A3, c3, rfl, r3, b⟩
    have B3 := below_then B2 b
    replace r := r.same b
    replace r2 := r2.same b
    clear b
    go_wp2_with fail
    refine (sameRowsM_any _ _ n _ _ _ _ r2 r3 HSM.out).mono ?_
    rintro e w4 ⟨rfl, b⟩
    have B4 := below_then B3 b
    replace r := r.same b
    replace r2 := r2.same b
    replace r3 := r3.same b
    clear b
    go_wp2_with fail
    refine (H5.out A2 c2 _ (by first | rfl | assumption | omega) _ r2).mono ?_
    rintro e w5 ⟨A5, c5, rfl, r5, b⟩
    have B5 := below_then B4 b
    replace r := r.same b
    replace r2 := r2.same b
    clear b
    go_wp2_with fail
    refine (sameRowsM_any _ _ n _ _ _ _ r5 r HSL.out).mono ?_
    rintro e w6 ⟨rfl, b⟩
    have B6 := below_then B5 b
    replace r := r.same b
    replace r2 := r2.same b
    replace r5 := r5.same b
    clear b
    go_wp2_with fail
    refine (H6.out A2 c2 _ r2).mono ?_
    rintro e w7 ⟨rfl, b⟩
    have B7 := below_then B6 b
    replace r := r.same b
    replace r2 := r2.same b
    replace r5 := r5.same b
    clear b
    go_wp2_with fail
    refine (H7.out _ r).mono ?_
    rintro e w8 ⟨rfl, b⟩
    have B8 := below_then B7 b
    replace r := r.same b
    replace r2 := r2.same b
    replace r5 := r5.same b
    clear b
    go_wp2_with fail
    go_ret
    exact ⟨rfl, B8⟩
end Go.Proofs.Ythpgenkdiokpeaa
