/- Pure facts of chapter 8: solids of short edges are counted. -/
import Derived.Test.YtdnegamminhbfaaSolP
namespace Go.Proofs.Ytdnegamminhbfaa

/-- The solids that are counted: their own first ones that stand. -/
def oneL (d : List Int) : Int := if (decide (fstL d = d) && stdB d) = true then 1 else 0
/-- The lengths from a place on run from 1 to n. -/
def cnR (r : List Int → Int) (d : List Int) (at_ : Nat) : Nat → Int
  | 0 => 0
  | k + 1 => cnR r d at_ k + r (d.set at_ ((k : Int) + 1))
def cnF (n : Nat) : Nat → List Int → Nat → Int
  | 0, d, _ => oneL d
  | m + 1, d, at_ => cnR (fun d' => cnF n m d' (at_ + 1)) d at_ n
theorem cnR_bd {r : List Int → Int} {d : List Int} {at_ : Nat} {b : Int} (h : ∀ d, 0 ≤ r d ∧ r d ≤ b) : ∀ k : Nat, 0 ≤ cnR r d at_ k ∧ cnR r d at_ k ≤ k * b
  | 0 => by simp [cnR]
  | k + 1 => by
    have h1 := cnR_bd (d := d) (at_ := at_) h k
    have h2 := h (d.set at_ ((k : Int) + 1))
    rw [cnR]
    have : ((k + 1 : Nat) : Int) * b = k * b + b := by rw [Int.natCast_add, Int.add_mul]; simp
    omega
theorem one_bd (d : List Int) : 0 ≤ oneL d ∧ oneL d ≤ 1 := by unfold oneL; split <;> omega
theorem cnF_bd {n : Nat} : ∀ (m : Nat) (d : List Int) (at_ : Nat), 0 ≤ cnF n m d at_ ∧ cnF n m d at_ ≤ ((n ^ m : Nat) : Int)
  | 0, d, _ => by have := one_bd d; simpa [cnF] using this
  | m + 1, d, at_ => by
    have h := cnR_bd (r := fun d' => cnF n m d' (at_ + 1)) (d := d) (at_ := at_) (fun d' => cnF_bd m d' (at_ + 1)) n
    rw [cnF]
    have e : ((n ^ (m + 1) : Nat) : Int) = n * ((n ^ m : Nat) : Int) := by rw [Nat.pow_succ, Nat.mul_comm, Int.natCast_mul]
    omega
/-- The model's way: the digits of a number. -/
def digL (n : Nat) (y : Nat) : Nat → List Int
  | 0 => []
  | k + 1 => ((1 + y % n : Nat) : Int) :: digL n (y / n) k
def cnS (n : Nat) : Nat → Int
  | 0 => 0
  | x + 1 => cnS n x + oneL (digL n x 6)
def cntSol (n : Int) : Int := if n = 1 then 1 else if n = 2 then 5 else if n = 3 then 21 else 0
theorem cn1 : cnF 1 6 [0, 0, 0, 0, 0, 0] 0 = 1 := by decide +kernel
theorem cn2 : cnF 2 6 [0, 0, 0, 0, 0, 0] 0 = 5 := by decide +kernel
theorem cn3 : cnF 3 6 [0, 0, 0, 0, 0, 0] 0 = 21 := by decide +kernel
theorem cs1 : cnS 1 1 = 1 := by decide +kernel
theorem cs2 : cnS 2 64 = 5 := by decide +kernel
theorem cs3 : cnS 3 729 = 21 := by decide +kernel
end Go.Proofs.Ytdnegamminhbfaa
