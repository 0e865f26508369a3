/- The walks of the laws FnSorted, FnRun, FnGain, FnOrderLattice. -/
import Derived.Test.YtdnegamminhbfaaDraw6
import Derived.Test.YtdnegamminhbfaaPthF
import Derived.Test.YtdnegamminhbfaaRowH
namespace Go.Proofs.Ytdnegamminhbfaa
open Go.RowKit Go.Sort Go.Lib

set_option maxRecDepth 100000 in
set_option maxHeartbeats 4000000 in
theorem fnOrderLattice_walk (A0 : Option Addr) (n0 c0 : Nat) (z0 : List Int) (w : World) (h0 : RdB w A0 n0 z0) (k0 : WfL .u8 z0) (q0 : n0 ≤ c0) :
    Calls Try.prog 4 #[.slice A0 n0 c0] w fun e w' => e = .returned (.bool true) ∧ Below w.heap.size w w' := by
  by_cases big : n0 ≤ 1048576
  rotate_left
  · go_enter Try.func4, Try.ntmps4
    go_wp2_with fail
    go_ret
    exact ⟨rfl, Below.refl _ _⟩
  go_enter Try.func4, Try.ntmps4
  go_wp2_with fail
  refine (drawOrderLattice_any A0 n0 c0 z0 _ h0 (bytes_of k0) big q0).mono ?_
  rintro e w1 ⟨A, n, c, L, rfl, r, hs, hn1, hn9, B1⟩
  cases hp : pmB L 6 with
  | false =>
    clear hn1 hn9
    go_wp2_with fail
    refine (pLattice0 A n c L _ r hs hp).mono ?_
    rintro e w2 ⟨rfl, b⟩
    have B2 := below_then B1 b
    replace r := r.same b
    clear b
    go_wp2_with fail
    refine (qLattice0 A n c L _ r hs hp).mono ?_
    rintro e w3 ⟨rfl, b⟩
    have B3 := below_then B2 b
    replace r := r.same b
    clear b
    go_wp2_with fail
    go_ret
    exact ⟨rfl, B3⟩
  | true =>
    obtain ⟨hp1, hp6⟩ := pmB_true hp
    obtain ⟨l, rfl, P⟩ := path_form hp1
    have hl : l.length = n := by rw [← rowsOf_len]; exact r.1
    rw [rowsOf_len] at hp6
    have HS := Lib.hid P
    have h2 := P.two
    have h7 := nD_720 hp6
    have h6 : n ≤ 6 := by omega
    have hI := fun W (h : RdM W A n (rowsOf l)) => pLattice A n c l W h P h6
    have hQ := fun W (h : RdM W A n (rowsOf l)) => qLattice A n c l W h P h6
    have h5 := fun A c W (h : RdM W A n (rowsOf (bakP l))) => pLattice A n c _ W h P.bak h6
    rw [show (bakP l).length = l.length by simp [bakP], nD_bak] at h5
    generalize nD l.length l = k at *
    have d1 : decide ((k : Int) ≥ 2) = true := by simp; omega
    have d2 : decide ((k : Int) ≤ 720) = true := by simp; omega
    have d3 : decide (k ≥ 2) = true := by simp; omega
    have d4 : decide (k ≤ 720) = true := by simp; omega
    have H5 := Lib.hid h5
    have HI := Lib.hid hI
    have HQ := Lib.hid hQ
    clear h5 hI hQ hn1 hn9 hl P h2 h7 h6 hp hp1 hp6 hs
    go_wp2_with fail
    refine (HI.out _ r).mono ?_
    rintro e w2 ⟨rfl, b⟩
    have B2 := below_then B1 b
    replace r := r.same b
    clear b
    go_wp2_with fail
    refine (HQ.out _ r).mono ?_
    rintro e w3 ⟨rfl, b⟩
    have B3 := below_then B2 b
    replace r := r.same b
    clear b
    go_wp2_with fail
    refine (pBack A n c l _ r HS.out).mono ?_
    rintro e w4 ⟨A4, c4, rfl, r4, b⟩
    have B4 := below_then B3 b
    replace r := r.same b
    clear b
    go_wp2_with fail
    refine (H5.out A4 c4 _ r4).mono ?_
    rintro e w5 ⟨rfl, b⟩
    have B5 := below_then B4 b
    replace r := r.same b
    replace r4 := r4.same b
    clear b
    go_wp2_with fail
    go_ret
    exact ⟨rfl, B5⟩
end Go.Proofs.Ytdnegamminhbfaa
