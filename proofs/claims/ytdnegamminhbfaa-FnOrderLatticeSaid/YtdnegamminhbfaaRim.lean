/- Sums over the corners of a ring: the rim. -/
import Derived.Test.YtdnegamminhbfaaArea
namespace Go.Proofs.Ytdnegamminhbfaa
open Go.RowKit Go.Sort Go.Lib Go.Shelf
attribute [local go_sem] Oper.semAt_some

theorem gcdP_le (x y : Int) : 0 ≤ gcdP (x, y) ∧ gcdP (x, y) ≤ x.natAbs + y.natAbs := by
  show 0 ≤ ((Nat.gcd x.natAbs y.natAbs : Nat) : Int) ∧ ((Nat.gcd x.natAbs y.natAbs : Nat) : Int) ≤ _
  rcases Nat.eq_zero_or_pos x.natAbs with e | e
  · rw [e, Nat.gcd_zero_left]; omega
  · have := Nat.gcd_le_left y.natAbs e
    omega

end Go.Proofs.Ytdnegamminhbfaa
