/- The model's test whether a path is convex. -/
import Derived.Test.YtdnegamminhbfaaPathS8
namespace Go.Proofs.Ytdnegamminhbfaa
open Go.RowKit Go.Sort Go.Lib

theorem convB_no {l : List Pt} {i : Nat} (hi : i < l.length) (h : okB (atP l i) (nxt l i) = false) : convB l = false := by
  cases hc : convB l with
  | false => rfl
  | true =>
    unfold convB at hc
    rw [Bool.and_eq_true] at hc
    rw [turnsB_iff.1 hc.1 i hi] at h
    cases h
theorem convB_all {l : List Pt} (h : ∀ i, i < l.length → okB (atP l i) (nxt l i) = true) : convB l = decide (wrapsN l = 1) := by
  unfold convB
  rw [turnsB_iff.2 h, Bool.true_and]

end Go.Proofs.Ytdnegamminhbfaa
