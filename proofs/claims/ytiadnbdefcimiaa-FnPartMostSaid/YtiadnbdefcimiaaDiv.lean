/- The program's greatest common divisor of a step. -/
import Derived.Test.YtiadnbdefcimiaaVec
import Derived.BigRegion
namespace Go.Proofs.Ytiadnbdefcimiaa
open Go.RowKit Go.Sort Go.Lib

theorem natAbs_max (x : Int) : (if x < -x then -x else x) = (x.natAbs : Int) := by split <;> omega
theorem tmod_nat (a b : Nat) : Int.tmod (a : Int) (b : Int) = ((a % b : Nat) : Int) := rfl
theorem gcd_step (a b : Nat) : Nat.gcd b (a % b) = Nat.gcd a b := by rw [Nat.gcd_comm a b, Nat.gcd_rec b a, Nat.gcd_comm]

end Go.Proofs.Ytiadnbdefcimiaa
