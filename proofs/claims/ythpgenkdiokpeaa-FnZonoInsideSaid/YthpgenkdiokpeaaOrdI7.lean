/- Points inside zonogons, of both. -/
import Derived.Test.YthpgenkdiokpeaaOrdS5
import Derived.Test.YthpgenkdiokpeaaOrdI6
namespace Go.Proofs.Ythpgenkdiokpeaa
open Go.RowKit Go.Sort Go.Lib

theorem zpc_flat {L : List (List Int)} (hp : starB L = true) (h : zpcP (ptsL L) = 0) : goodB (rowsOf (zonP (ptsL L))) = false := by
  obtain ⟨_, h2, h4, hs⟩ := starB_true hp
  have hz := starB_zon hp
  have ha := zonP_flat (l := ptsL L) (by simpa using h2) (by simpa using h4) hs (pieces_zero h)
  cases hg : goodB (rowsOf (zonP (ptsL L))) with
  | false => rfl
  | true =>
    simp only [goodB, Bool.and_eq_true, ptsL_rows] at hg
    have := hz.area_pos hg.2
    omega
/-- Whether a zonogon is no line, and the points inside. -/
noncomputable def zinB (L : List (List Int)) : Bool := starB L && goodB (rowsOf (zonP (ptsL L)))
noncomputable def zinN (L : List (List Int)) : Int := if zinB L then inPt (zonP (ptsL L)) else 0
theorem zinB_yes {L : List (List Int)} (hp : starB L = true) : zinB L = goodB (rowsOf (zonP (ptsL L))) := by unfold zinB; rw [hp]; rfl
theorem zinN_yes {L : List (List Int)} (hp : starB L = true) : zinN L = ifG (rowsOf (zonP (ptsL L))) inPt := by unfold zinN ifG; rw [zinB_yes hp, ptsL_rows]
theorem zin_no {L : List (List Int)} (hp : zinB L = false) : zinN L = 0 := by unfold zinN; rw [hp]; rfl

set_option maxRecDepth 100000 in
set_option maxHeartbeats 2000000 in
theorem zonoInside_any (A : Option Addr) (n c : Nat) (L : List (List Int)) (w : World) (h : RdM w A n L) (hs : SmallM L) :
    Calls Try.prog 90 #[.slice A n c] w fun e w' => e = .returned (.tuple #[.int .i64 (zinN L), .bool (zinB L)]) ∧ Below w.heap.size w w' := by
  have hT := zonoPath_any A n c L w h hs
  cases hp : starB L with
  | false =>
    have e1 : zinB L = false := by unfold zinB; rw [hp]; rfl
    rw [e1, zin_no e1]
    rw [hp] at hT
    clear h hs hp e1
    go_enter Try.func90, Try.ntmps90
    go_wp2_with fail
    refine hT.mono ?_
    rintro e w1 ⟨⟨A1, m, c1, rfl, _⟩, b1⟩
    go_wp2_with fail
    refine bodyPost_ret (results_tmp2 rfl _ _ _) rfl ?_
    exact ⟨rfl, b1⟩
  | true =>
    rw [zinB_yes hp, zinN_yes hp]
    rw [hp] at hT
    rw [ifZ_yes hp] at hT
    have HI := Lib.hid (fun A' n' c' W (hr : RdM W A' n' (rowsOf (zonP (ptsL L)))) => pathInside_any A' n' c' _ W hr (small_rows (starB_zon hp).hi))
    generalize goodB (rowsOf (zonP (ptsL L))) = gb at *
    generalize ifG (rowsOf (zonP (ptsL L))) inPt = gi at *
    clear h hs hp
    go_enter Try.func90, Try.ntmps90
    go_wp2_with fail
    refine hT.mono ?_
    rintro e w1 ⟨⟨A1, m, c1, rfl, ⟨gs, ho⟩, _⟩, b1⟩
    have HO := Lib.hid ho.rd
    clear ho hT
    go_wp2_with fail
    with_reducible refine (HI.out _ _ _ _ HO.out).mono ?_
    rintro e w2 ⟨rfl, b2⟩
    go_wp2_with fail
    refine bodyPost_ret (results_tmp2 rfl _ _ _) rfl ?_
    exact ⟨rfl, below_then b1 b2⟩

set_option maxRecDepth 100000 in
set_option maxHeartbeats 2000000 in
theorem specZonoInside_any (A : Option Addr) (n c : Nat) (L : List (List Int)) (w : World) (h : RdM w A n L) (hs : SmallM L) :
    Calls Try.prog 91 #[.slice A n c] w fun e w' => e = .returned (.tuple #[.int .i64 (zinN L), .bool (zinB L)]) ∧ Below w.heap.size w w' := by
  have hT := l7Star_any A n c L w h hs
  cases hp : starB L with
  | false =>
    have e1 : zinB L = false := by unfold zinB; rw [hp]; rfl
    rw [e1, zin_no e1]
    rw [hp] at hT
    clear h hs hp e1
    go_enter Try.func91, Try.ntmps91
    go_wp2_with fail
    refine hT.mono ?_
    rintro e w1 ⟨rfl, b1⟩
    go_wp2_with fail
    refine bodyPost_ret (results_tmp2 rfl _ _ _) rfl ?_
    exact ⟨rfl, b1⟩
  | true =>
    rw [hp] at hT
    have HP := Lib.hid (fun W (hW : Below w.heap.size w W) => l7Pieces_any A n c L W (h.same hW) hp)
    have HZ := Lib.hid (fun W (hW : Below w.heap.size w W) => l7Zono_any A n c L W (h.same hW) hp)
    have HI := Lib.hid (fun A' n' c' W (hr : RdM W A' n' (rowsOf (zonP (ptsL L)))) => specPathInside_any A' n' c' _ W hr (small_rows (starB_zon hp).hi))
    by_cases hz : zpcP (ptsL L) = 0
    · have e1 : zinB L = false := by rw [zinB_yes hp]; exact zpc_flat hp hz
      rw [e1, zin_no e1]
      rw [hz] at HP
      clear h hs hp e1 hz HZ HI
      go_enter Try.func91, Try.ntmps91
      go_wp2_with fail
      refine hT.mono ?_
      rintro e w1 ⟨rfl, b1⟩
      go_wp2_with fail
      refine (HP.out _ b1).mono ?_
      rintro e w2 ⟨rfl, b2⟩
      go_wp2_with fail
      refine bodyPost_ret (results_tmp2 rfl _ _ _) rfl ?_
      exact ⟨rfl, below_then b1 b2⟩
    · rw [zinB_yes hp, zinN_yes hp]
      generalize zpcP (ptsL L) = z at *
      generalize goodB (rowsOf (zonP (ptsL L))) = gb at *
      generalize ifG (rowsOf (zonP (ptsL L))) inPt = gi at *
      have d1 : (z == 0) = false := by simpa using hz
      clear h hs hp hz
      go_enter Try.func91, Try.ntmps91
      go_wp2_with fail
      refine hT.mono ?_
      rintro e w1 ⟨rfl, b1⟩
      go_wp2_with fail
      refine (HP.out _ b1).mono ?_
      rintro e w2 ⟨rfl, b2⟩
      replace b1 := below_then b1 b2
      clear b2
      go_wp2_with fail
      refine (HZ.out _ b1).mono ?_
      rintro e w3 ⟨A3, c3, gs, rfl, o3, b3⟩
      have HO := Lib.hid o3.rd
      replace b1 := below_then b1 b3
      clear o3 b3
      go_wp2_with fail
      with_reducible refine (HI.out _ _ _ _ HO.out).mono ?_
      rintro e w4 ⟨rfl, b4⟩
      go_wp2_with fail
      refine bodyPost_ret (results_tmp2 rfl _ _ _) rfl ?_
      exact ⟨rfl, below_then b1 b4⟩
end Go.Proofs.Ythpgenkdiokpeaa
