/- The walk of the law FnFewest. -/
import Derived.Test.YthpgenkdiokpeaaDraw6
import Derived.Test.YthpgenkdiokpeaaOrdI6
import Derived.Test.YthpgenkdiokpeaaFewR
import Derived.Test.YthpgenkdiokpeaaPthG
import Derived.Test.YthpgenkdiokpeaaRowH
namespace Go.Proofs.Ythpgenkdiokpeaa
open Go.RowKit Go.Sort Go.Lib

theorem pSorted9 (A : Option Addr) (n c : Nat) (l : List Pt) (w : World) (h : RdM w A n (rowsOf l)) (P : IsPath l) : Calls Try.prog 63 #[.slice A n c] w (GotR n (srt l) w) := by
  have h1 := orderSorted_any A n c (rowsOf l) w h (small_rows P.hi)
  unfold RowsGot at h1
  rw [ifR_yes _ (pathB_rows P), pathB_rows P, ptsL_rows] at h1
  exact h1.mono fun e w' ⟨⟨A', n', c', he, ⟨gs, o⟩, _⟩, b⟩ => fit_r h (srt_len l) he o.rd b

set_option maxRecDepth 100000 in
set_option maxHeartbeats 4000000 in
theorem fnFewest_walk (A0 : Option Addr) (n0 c0 : Nat) (z0 : List Int) (w : World) (h0 : RdB w A0 n0 z0) (k0 : WfL .u8 z0) (q0 : n0 ≤ c0) :
    Calls Try.prog 18 #[.slice A0 n0 c0] w fun e w' => e = .returned (.bool true) ∧ Below w.heap.size w w' := by
  by_cases big : n0 ≤ 1048576
  rotate_left
  · go_enter Try.func18, Try.ntmps18
    go_wp2_with fail
    go_ret
    exact ⟨rfl, Below.refl _ _⟩
  go_enter Try.func18, Try.ntmps18
  go_wp2_with fail
  refine (drawOrderFewest_any A0 n0 c0 z0 _ h0 (bytes_of k0) big q0).mono ?_
  rintro e w1 ⟨A, n, c, L, rfl, r, hs, hn1, hn9, B1⟩
  cases hp : fwB L with
  | false =>
    clear hn1 hn9
    have hI := fun W (h : RdM W A n L) => orderFewest_any A n c L W h hs
    have hQ := fun W (h : RdM W A n L) => specOrderFewest_any A n c L W h hs
    rw [hp] at hI hQ
    generalize fwI L = z at *
    have HI := Lib.hid hI
    have HQ := Lib.hid hQ
    clear hI hQ
    go_wp2_with fail
    refine (HI.out _ r).mono ?_
    rintro e w2 ⟨rfl, b⟩
    have B2 := below_then B1 b
    replace r := r.same b
    clear b
    go_wp2_with fail
    refine (HQ.out _ r).mono ?_
    rintro e w3 ⟨rfl, b⟩
    have B3 := below_then B2 b
    replace r := r.same b
    clear b
    go_wp2_with fail
    go_ret
    exact ⟨rfl, B3⟩
  | true =>
    have hpm : pmB L 5 = true := by
      cases e : pmB L 5 with
      | true => rfl
      | false => rw [fwB_no e] at hp; cases hp
    obtain ⟨l, rfl, P⟩ := path_form (show pathB L = true from by unfold pmB at hpm; rw [Bool.and_eq_true] at hpm; exact hpm.1)
    have hl : l.length = n := by rw [← rowsOf_len]; exact r.1
    have h3 := P.lo
    obtain ⟨v, ev⟩ : ∃ v, fewP l = some v := Option.isSome_iff_exists.1 (by rw [← fwB_yes hpm]; exact hp)
    obtain ⟨⟨x, hx, hcx⟩, hlt, hz⟩ := fewP_some (by omega) ev
    have hI := fun W (h : RdM W A n (rowsOf l)) => orderFewest_any A n c (rowsOf l) W h hs
    have hQ := fun W (h : RdM W A n (rowsOf l)) => specOrderFewest_any A n c (rowsOf l) W h hs
    rw [hp, fwI_yes hpm, ev, show ((some v : Option Nat).getD 0) = v from rfl] at hI hQ
    have hpos : 0 < areaP (srt l) := by
      have h1 := P.srt_most hx
      have h2 := (P.perm hx).area_pos hcx
      omega
    have PS := P.perm (srt_perm l)
    have hA := fun A c W (h : RdM W A n (rowsOf (srt l))) => pArea A n c _ W h PS
    have hC := fun W (h : RdM W A n (rowsOf l)) => pConvex A n c l W h P
    generalize areaP (srt l) = a at *
    have d1 : decide (a > 0) = true := by simpa using hpos
    have d2 : decide ((v : Int) < (n : Int)) = true := by simp; omega
    have d4 : decide (v < n) = true := by simp; omega
    have d3 : ((v : Int) == 0) = convB l := by rw [Bool.eq_iff_iff, ← hz]; simp
    rw [← d3] at hC
    have HS := Lib.hid P
    have HI := Lib.hid hI
    have HQ := Lib.hid hQ
    have HA := Lib.hid hA
    have HC := Lib.hid hC
    clear hI hQ hA hC hp hs hpm hn1 hn9 h3 hl P PS ev hx hcx hlt hz hpos d3
    go_wp2_with fail
    refine (HI.out _ r).mono ?_
    rintro e w2 ⟨rfl, b⟩
    have B2 := below_then B1 b
    replace r := r.same b
    clear b
    go_wp2_with fail
    refine (HQ.out _ r).mono ?_
    rintro e w3 ⟨rfl, b⟩
    have B3 := below_then B2 b
    replace r := r.same b
    clear b
    go_wp2_with fail
    refine (pSorted9 A n c l _ r HS.out).mono ?_
    rintro e w4 ⟨A4, c4, rfl, r4, b⟩
    have B4 := below_then B3 b
    replace r := r.same b
    clear b
    go_wp2_with fail
    refine (HA.out A4 c4 _ r4).mono ?_
    rintro e w5 ⟨rfl, b⟩
    have B5 := below_then B4 b
    replace r := r.same b
    replace r4 := r4.same b
    clear b
    go_wp2_with fail
    refine (HC.out _ r).mono ?_
    rintro e w6 ⟨rfl, b⟩
    have B6 := below_then B5 b
    replace r := r.same b
    replace r4 := r4.same b
    clear b
    go_wp2_with fail
    go_ret
    exact ⟨rfl, B6⟩
end Go.Proofs.Ythpgenkdiokpeaa
