/- The points inside, of both. -/
import Derived.Test.YthpgenkdiokpeaaPathI5
import Derived.Test.YthpgenkdiokpeaaPathS9
namespace Go.Proofs.Ythpgenkdiokpeaa
open Go.RowKit Go.Sort Go.Lib

/-- Whether rows are a convex path, and what is told of it. -/
noncomputable def goodB (L : List (List Int)) : Bool := pathB L && convB (ptsL L)
noncomputable def ifG (L : List (List Int)) (f : List Pt → Int) : Int := if goodB L then f (ptsL L) else 0
theorem ifG_yes {L : List (List Int)} (f : List Pt → Int) (h : goodB L = true) : ifG L f = f (ptsL L) := by unfold ifG; rw [if_pos h]
theorem ifG_no {L : List (List Int)} (f : List Pt → Int) (h : goodB L = false) : ifG L f = 0 := by unfold ifG; rw [h]; rfl
theorem IsPath.area_bd {l : List Pt} (h : IsPath l) : -82944 ≤ areaP l ∧ areaP l ≤ 82944 := areaP_part_bd h (Nat.le_refl _)
theorem IsPath.rim_bd' {l : List Pt} (h : IsPath l) : 0 ≤ rimP l ∧ rimP l ≤ 72 := h.rim_bd (Nat.le_refl _)

set_option maxRecDepth 100000 in
set_option maxHeartbeats 2000000 in
theorem pathInside_any (A : Option Addr) (n c : Nat) (L : List (List Int)) (w : World) (h : RdM w A n L) (hs : SmallM L) :
    Calls Try.prog 57 #[.slice A n c] w fun e w' => e = .returned (.tuple #[.int .i64 (ifG L inPt), .bool (goodB L)]) ∧ Below w.heap.size w w' := by
  have hI := convexOf_any A n c L w h hs
  rw [show (pathB L && convB (ptsL L)) = goodB L from rfl] at hI
  cases hp : goodB L with
  | true =>
    rw [ifG_yes inPt hp]
    obtain ⟨hP, _⟩ := pathB_true (L := L) (by simp only [goodB, Bool.and_eq_true] at hp; exact hp.1)
    have hA := fun W gs (hR : Ring W gs (corL (ptsL L))) => area_any gs _ W hR (cor_few hP) (fun i hi => by have := cor_box hP i hi; omega)
    have hM := fun W gs (hR : Ring W gs (corL (ptsL L))) => rim_any gs _ W hR (cor_few hP) (fun i hi => by have := cor_box hP i hi; omega)
    rw [area_cor] at hA
    rw [rim_cor hP.closed] at hM
    have HA := Lib.hid hA
    have HM := Lib.hid hM
    have b1 := hP.area_bd
    have b2 := hP.rim_bd'
    have t1 := inPt_impl hP
    generalize areaP (ptsL L) = z at *
    generalize rimP (ptsL L) = r at *
    rw [← t1]
    have t2 : -41508 ≤ Int.tdiv (z - r) 2 ∧ Int.tdiv (z - r) 2 ≤ 41508 := by
      rcases Int.le_total 0 (z - r) with h | h
      · rw [Int.tdiv_eq_ediv_of_nonneg h]; omega
      · rw [show z - r = -(r - z) by omega, Int.neg_tdiv, Int.tdiv_eq_ediv_of_nonneg (by omega)]; omega
    have v1 : IntKind.i64.wrap (z - r) = z - r := wrap_is rfl (by omega) (by omega)
    have v2 : IntKind.i64.wrap (Int.tdiv (z - r) 2) = Int.tdiv (z - r) 2 := wrap_is rfl (by omega) (by omega)
    have v3 : IntKind.i64.wrap (Int.tdiv (z - r) 2 + 1) = Int.tdiv (z - r) 2 + 1 := wrap_is rfl (by omega) (by omega)
    rw [hp] at hI
    clear h hs hp hP hA hM t1 b1 b2 t2
    go_enter Try.func57, Try.ntmps57
    go_wp2_with fail
    refine hI.mono ?_
    rintro e w1 ⟨⟨v, rfl, hv⟩, b1⟩
    obtain ⟨gs, rfl, hR, _⟩ := hv (by first | rfl | trivial)
    have HR := Lib.hid hR
    clear hv hR
    go_wp2_with fail
    refine (HA.out _ gs HR.out).mono ?_
    rintro e w2 ⟨rfl, b2⟩
    have HR2 := Lib.hid (HR.out.same b2)
    replace b1 := below_then b1 b2
    clear b2
    go_wp2_with fail
    refine (HM.out _ gs HR2.out).mono ?_
    rintro e w3 ⟨rfl, b2⟩
    go_wp2_with fail
    refine bodyPost_ret (results_tmp2 rfl _ _ _) rfl ?_
    exact ⟨rfl, below_then b1 b2⟩
  | false =>
    rw [ifG_no inPt hp]
    rw [hp] at hI
    clear h hs hp
    go_enter Try.func57, Try.ntmps57
    go_wp2_with fail
    refine hI.mono ?_
    rintro e w1 ⟨⟨v, rfl, _⟩, b1⟩
    go_wp2_with fail
    refine bodyPost_ret (results_tmp2 rfl _ _ _) rfl ?_
    exact ⟨rfl, b1⟩

set_option maxRecDepth 100000 in
set_option maxHeartbeats 2000000 in
theorem l6sGood_any (A : Option Addr) (n c : Nat) (L : List (List Int)) (w : World) (h : RdM w A n L) (hs : SmallM L) :
    Calls Try.prog 121 #[.slice A n c] w fun e w' => e = .returned (.bool (goodB L)) ∧ Below w.heap.size w w' := by
  have hI := specPathIn_any A n c L w h hs
  cases hp : pathB L with
  | true =>
    have hA := fun W (hW : Below w.heap.size w W) => l6sConvex_any A n c L W (h.same hW) hp
    have hM := fun W (hW : Below w.heap.size w W) => l6sArea_any A n c L W (h.same hW) hp
    obtain ⟨hP, _⟩ := pathB_true hp
    have hpos := fun hc => hP.area_pos hc
    have e1 : goodB L = convB (ptsL L) := by unfold goodB; rw [hp, Bool.true_and]
    rw [e1]
    rw [hp] at hI
    generalize areaP (ptsL L) = z at *
    cases hc : convB (ptsL L) with
    | true =>
      rw [hc] at hA
      have d1 : decide (z > 0) = true := by simpa using hpos hc
      clear h hs hp hpos e1 hP hc
      go_enter Try.func121, Try.ntmps121
      go_wp2_with fail
      refine hI.mono ?_
      rintro e w1 ⟨rfl, b1⟩
      go_wp2_with fail
      refine (hA _ b1).mono ?_
      rintro e w2 ⟨rfl, b2⟩
      replace b1 := below_then b1 b2
      clear b2
      go_wp2_with fail
      refine (hM _ b1).mono ?_
      rintro e w3 ⟨rfl, b2⟩
      go_wp2_with fail
      go_ret
      exact ⟨rfl, below_then b1 b2⟩
    | false =>
      rw [hc] at hA
      clear h hs hp hpos e1 hP hc hM
      go_enter Try.func121, Try.ntmps121
      go_wp2_with fail
      refine hI.mono ?_
      rintro e w1 ⟨rfl, b1⟩
      go_wp2_with fail
      refine (hA _ b1).mono ?_
      rintro e w2 ⟨rfl, b2⟩
      go_wp2_with fail
      go_ret
      exact ⟨rfl, below_then b1 b2⟩
  | false =>
    have e1 : goodB L = false := by unfold goodB; rw [hp]; rfl
    rw [e1]
    rw [hp] at hI
    clear h hs hp e1
    go_enter Try.func121, Try.ntmps121
    go_wp2_with fail
    refine hI.mono ?_
    rintro e w1 ⟨rfl, b1⟩
    go_wp2_with fail
    go_ret
    exact ⟨rfl, b1⟩

set_option maxRecDepth 100000 in
set_option maxHeartbeats 2000000 in
theorem specPathInside_any (A : Option Addr) (n c : Nat) (L : List (List Int)) (w : World) (h : RdM w A n L) (hs : SmallM L) :
    Calls Try.prog 58 #[.slice A n c] w fun e w' => e = .returned (.tuple #[.int .i64 (ifG L inPt), .bool (goodB L)]) ∧ Below w.heap.size w w' := by
  have hI := l6sGood_any A n c L w h hs
  cases hp : goodB L with
  | true =>
    rw [ifG_yes inPt hp]
    have hpB : pathB L = true := by simp only [goodB, Bool.and_eq_true] at hp; exact hp.1
    have hA := fun W (hW : Below w.heap.size w W) => l6sArea_any A n c L W (h.same hW) hpB
    have hM := fun W (hW : Below w.heap.size w W) => l6sRim_any A n c L W (h.same hW) hpB
    obtain ⟨hP, _⟩ := pathB_true hpB
    have b1 := hP.area_bd
    have b2 := hP.rim_bd'
    have t1 := inPt_spec hP
    rw [hp] at hI
    generalize areaP (ptsL L) = z at *
    generalize rimP (ptsL L) = r at *
    rw [← t1]
    have t2 : -41508 ≤ Int.tdiv (z - r + 2) 2 ∧ Int.tdiv (z - r + 2) 2 ≤ 41509 := by
      rcases Int.le_total 0 (z - r + 2) with h | h
      · rw [Int.tdiv_eq_ediv_of_nonneg h]; omega
      · rw [show z - r + 2 = -(r - z - 2) by omega, Int.neg_tdiv, Int.tdiv_eq_ediv_of_nonneg (by omega)]; omega
    have v1 : IntKind.i64.wrap (z - r) = z - r := wrap_is rfl (by omega) (by omega)
    have v2 : IntKind.i64.wrap (z - r + 2) = z - r + 2 := wrap_is rfl (by omega) (by omega)
    have v3 : IntKind.i64.wrap (Int.tdiv (z - r + 2) 2) = Int.tdiv (z - r + 2) 2 := wrap_is rfl (by omega) (by omega)
    clear h hs hp hpB hP t1 b1 b2 t2
    go_enter Try.func58, Try.ntmps58
    go_wp2_with fail
    refine hI.mono ?_
    rintro e w1 ⟨rfl, b1⟩
    go_wp2_with fail
    refine (hA _ b1).mono ?_
    rintro e w2 ⟨rfl, b2⟩
    replace b1 := below_then b1 b2
    clear b2
    go_wp2_with fail
    refine (hM _ b1).mono ?_
    rintro e w3 ⟨rfl, b2⟩
    go_wp2_with fail
    refine bodyPost_ret (results_tmp2 rfl _ _ _) rfl ?_
    exact ⟨rfl, below_then b1 b2⟩
  | false =>
    rw [ifG_no inPt hp]
    rw [hp] at hI
    clear h hs hp
    go_enter Try.func58, Try.ntmps58
    go_wp2_with fail
    refine hI.mono ?_
    rintro e w1 ⟨rfl, b1⟩
    go_wp2_with fail
    refine bodyPost_ret (results_tmp2 rfl _ _ _) rfl ?_
    exact ⟨rfl, b1⟩
end Go.Proofs.Ythpgenkdiokpeaa
