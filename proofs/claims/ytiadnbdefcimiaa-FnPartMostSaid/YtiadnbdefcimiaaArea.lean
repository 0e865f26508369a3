/- Sums over the corners of a ring: the area. -/
import Derived.Test.YtiadnbdefcimiaaRing
import Derived.Test.YtiadnbdefcimiaaQuiTail
namespace Go.Proofs.Ytiadnbdefcimiaa
open Go.RowKit Go.Sort Go.Lib Go.Shelf
attribute [local go_sem] Oper.semAt_some

/-- What is told of the corners so far, added up. -/
def sumP {n : Nat} (f : Nat → Int) (pre : List (Fin n)) : Int := (pre.map fun i => f i.1).sum
theorem sumP_snoc {n : Nat} (f : Nat → Int) (pre : List (Fin n)) (x : Fin n) : sumP f (pre ++ [x]) = sumP f pre + f x.1 := by simp [sumP]
theorem sumP_bd {n : Nat} {f : Nat → Int} {b : Int} (h : ∀ i : Fin n, -b ≤ f i.1 ∧ f i.1 ≤ b) : ∀ pre : List (Fin n), -(b * pre.length) ≤ sumP f pre ∧ sumP f pre ≤ b * pre.length
  | [] => by simp [sumP]
  | x :: t => by
    have h1 := sumP_bd h t
    have h2 := h x
    have e : sumP f (x :: t) = f x.1 + sumP f t := by simp [sumP]
    have e2 : b * ((x :: t).length : Int) = b * t.length + b := by rw [List.length_cons, Int.natCast_add, Int.mul_add]; simp
    rw [e, e2]
    omega
theorem sumP_firsts {n : Nat} (f : Nat → Int) (h : 0 < n) : ∀ k, k ≤ n → sumP f (firsts h k) = sumF f k
  | 0, _ => by simp [sumP, firsts, sumF]
  | k + 1, hk => by rw [firsts_succ, sumP_snoc, sumP_firsts f h k (by omega), fz_val h (by omega), sumF]
theorem bx_size {β : Type} (B k : Nat) : OwnFrom B (fun (_ : β) (W : World) => k ≤ W.heap.size) := fun _ _ _ _ hs hg _ => Nat.le_trans hs hg.size

theorem keeps_b {W W' : World} (h : Below W.heap.size W W') : KeepsOthers W W' := KeepsOthers.of_grownBy (grown_of_below h) (fun j o e => by cases e)

end Go.Proofs.Ytiadnbdefcimiaa
