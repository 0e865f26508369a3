/- Points inside zonogons, of both. -/
import Derived.Test.YtdnegamminhbfaaOrdS5
import Derived.Test.YtdnegamminhbfaaOrdI6
namespace Go.Proofs.Ytdnegamminhbfaa
open Go.RowKit Go.Sort Go.Lib

theorem zpc_flat {L : List (List Int)} (hp : starB L = true) (h : zpcP (ptsL L) = 0) : goodB (rowsOf (zonP (ptsL L))) = false := by
  obtain ⟨_, h2, h4, hs⟩ := starB_true hp
  have hz := starB_zon hp
  have ha := zonP_flat (l := ptsL L) (by simpa using h2) (by simpa using h4) hs (pieces_zero h)
  cases hg : goodB (rowsOf (zonP (ptsL L))) with
  | false => rfl
  | true =>
    simp only [goodB, Bool.and_eq_true, ptsL_rows] at hg
    have := hz.area_pos hg.2
    omega
/-- Whether a zonogon is no line, and the points inside. -/
noncomputable def zinB (L : List (List Int)) : Bool := starB L && goodB (rowsOf (zonP (ptsL L)))
noncomputable def zinN (L : List (List Int)) : Int := if zinB L then inPt (zonP (ptsL L)) else 0
theorem zinB_yes {L : List (List Int)} (hp : starB L = true) : zinB L = goodB (rowsOf (zonP (ptsL L))) := by unfold zinB; rw [hp]; rfl
theorem zinN_yes {L : List (List Int)} (hp : starB L = true) : zinN L = ifG (rowsOf (zonP (ptsL L))) inPt := by unfold zinN ifG; rw [zinB_yes hp, ptsL_rows]
theorem zin_no {L : List (List Int)} (hp : zinB L = false) : zinN L = 0 := by unfold zinN; rw [hp]; rfl

end Go.Proofs.Ytdnegamminhbfaa
