/- The walk of the law FnMost. -/
import Derived.Test.YtdnegamminhbfaaDraw6
import Derived.Test.YtdnegamminhbfaaPthF
import Derived.Test.YtdnegamminhbfaaOrdS7
namespace Go.Proofs.Ytdnegamminhbfaa
open Go.RowKit Go.Sort Go.Lib

theorem most_srt {l : List Pt} (h : IsPath l) : mostP l = areaP (srt l) := by
  obtain ⟨h1, x, hx, h2⟩ := msP_spec h l.length [] l rfl (List.Perm.refl _)
  simp only [List.nil_append] at h1 h2
  have h3 := h.srt_most hx
  have h4 := h1 (srt l) (srt_perm l)
  unfold mostP
  omega

set_option maxRecDepth 100000 in
set_option maxHeartbeats 4000000 in
theorem fnMost_walk (A0 : Option Addr) (n0 c0 : Nat) (z0 : List Int) (w : World) (h0 : RdB w A0 n0 z0) (k0 : WfL .u8 z0) (q0 : n0 ≤ c0) :
    Calls Try.prog 3 #[.slice A0 n0 c0] w fun e w' => e = .returned (.bool true) ∧ Below w.heap.size w w' := by
  by_cases big : n0 ≤ 1048576
  rotate_left
  · go_enter Try.func3, Try.ntmps3
    go_wp2_with fail
    go_ret
    exact ⟨rfl, Below.refl _ _⟩
  go_enter Try.func3, Try.ntmps3
  go_wp2_with fail
  refine (drawOrderMost_any A0 n0 c0 z0 _ h0 (bytes_of k0) big q0).mono ?_
  rintro e w1 ⟨A, n, c, L, rfl, r, hs, hn1, hn9, B1⟩
  have hcap := hn9.2
  cases hp : pmB L 6 with
  | false =>
    clear hn1 hn9
    have hI := fun W (h : RdM W A n L) => orderMost_any A n c L W h hs
    have hQ := fun W (h : RdM W A n L) => specOrderMost_any A n c L W h hs hcap
    rw [ifM_no _ hp, hp] at hI hQ
    have HI := Lib.hid hI
    have HQ := Lib.hid hQ
    clear hI hQ hcap
    go_wp2_with fail
    refine (HI.out _ r).mono ?_
    rintro e w2 ⟨rfl, b⟩
    have B2 := below_then B1 b
    replace r := r.same b
    clear b
    go_wp2_with fail
    refine (HQ.out _ r).mono ?_
    rintro e w3 ⟨rfl, b⟩
    have B3 := below_then B2 b
    replace r := r.same b
    clear b
    go_wp2_with fail
    go_ret
    exact ⟨rfl, B3⟩
  | true =>
    clear hcap
    obtain ⟨hp1, hp6⟩ := pmB_true hp
    obtain ⟨l, rfl, P⟩ := path_form hp1
    have hl : l.length = n := by rw [← rowsOf_len]; exact r.1
    have HS := Lib.hid P
    obtain ⟨S1, S2, S3, S4, S5⟩ := P.srt_all
    have hM : ifM (rowsOf l) mostP = areaP (srt l) := by
      rw [ifM_yes _ hp, ptsL_rows]
      exact most_srt P
    have hI := fun W (h : RdM W A n (rowsOf l)) => orderMost_any A n c (rowsOf l) W h (small_rows P.hi)
    have hQ := fun W (h : RdM W A n (rowsOf l)) => specOrderMost_any A n c (rowsOf l) W h (small_rows P.hi) hn9.2
    rw [hM, hp] at hI hQ
    have h4 := fun A c W (h : RdM W A n (rowsOf (srt l))) => pArea A n c _ W h S1
    generalize areaP (srt l) = m at *
    have HI := Lib.hid hI
    have HQ := Lib.hid hQ
    have H4 := Lib.hid h4
    clear hI hQ h4 hn1 hn9 hl P S1 S2 S3 S4 S5 hM hp hp1 hp6 hs
    go_wp2_with fail
    refine (HI.out _ r).mono ?_
    rintro e w2 ⟨rfl, b⟩
    have B2 := below_then B1 b
    replace r := r.same b
    clear b
    go_wp2_with fail
    refine (HQ.out _ r).mono ?_
    rintro e w3 ⟨rfl, b⟩
    have B3 := below_then B2 b
    replace r := r.same b
    clear b
    go_wp2_with fail
    refine (pSorted A n c l _ r HS.out).mono ?_
    rintro e w4 ⟨A4, c4, rfl, r4, b⟩
    have B4 := below_then B3 b
    replace r := r.same b
    clear b
    go_wp2_with fail
    refine (H4.out A4 c4 _ r4).mono ?_
    rintro e w5 ⟨rfl, b⟩
    have B5 := below_then B4 b
    replace r := r.same b
    replace r4 := r4.same b
    clear b
    go_wp2_with fail
    go_ret
    exact ⟨rfl, B5⟩
end Go.Proofs.Ytdnegamminhbfaa
