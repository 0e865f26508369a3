/- The points inside, of both. -/
import Derived.Test.YtdnegamminhbfaaPathI5
import Derived.Test.YtdnegamminhbfaaPathS9
namespace Go.Proofs.Ytdnegamminhbfaa
open Go.RowKit Go.Sort Go.Lib

/-- Whether rows are a convex path, and what is told of it. -/
noncomputable def goodB (L : List (List Int)) : Bool := pathB L && convB (ptsL L)
noncomputable def ifG (L : List (List Int)) (f : List Pt → Int) : Int := if goodB L then f (ptsL L) else 0
theorem ifG_yes {L : List (List Int)} (f : List Pt → Int) (h : goodB L = true) : ifG L f = f (ptsL L) := by unfold ifG; rw [if_pos h]
theorem ifG_no {L : List (List Int)} (f : List Pt → Int) (h : goodB L = false) : ifG L f = 0 := by unfold ifG; rw [h]; rfl
theorem IsPath.area_bd {l : List Pt} (h : IsPath l) : -82944 ≤ areaP l ∧ areaP l ≤ 82944 := areaP_part_bd h (Nat.le_refl _)
theorem IsPath.rim_bd' {l : List Pt} (h : IsPath l) : 0 ≤ rimP l ∧ rimP l ≤ 72 := h.rim_bd (Nat.le_refl _)

end Go.Proofs.Ytdnegamminhbfaa
