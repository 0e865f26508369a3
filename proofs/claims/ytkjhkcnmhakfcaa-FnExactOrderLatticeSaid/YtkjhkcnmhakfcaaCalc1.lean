/- Contracts of the functions of chapter 1 that only compute with numbers. -/
import Derived.Test.YtkjhkcnmhakfcaaBase
namespace Go.Proofs.Ytkjhkcnmhakfcaa
open Go.RowKit

def inB (n lo hi : Int) : Bool := decide (lo ≤ n) && decide (n ≤ hi)
theorem inB_true {n lo hi : Int} (h : inB n lo hi = true) : lo ≤ n ∧ n ≤ hi := by simpa [inB] using h
theorem inB_mk {n lo hi : Int} (h1 : lo ≤ n) (h2 : n ≤ hi) : inB n lo hi = true := by simp [inB, h1, h2]
/-- Three numbers, each less than the sum of the other two. -/
def triB (a b c : Int) : Bool := decide (a < b + c) && decide (b < a + c) && decide (c < a + b)
/-- Three lengths from 1 to 60 that are sides of a triangle. -/
def sidesB (a b c : Int) : Bool := inB a 1 60 && inB b 1 60 && inB c 1 60 && triB a b c

theorem l6In_any (n lo hi : Int) (w : World) : Calls Try.prog 74 #[.int .i64 n, .int .i64 lo, .int .i64 hi] w fun e w' => e = .returned (.bool (inB n lo hi)) ∧ w = w' := by
  unfold inB
  by_cases h1 : lo ≤ n
  · go_enter Try.func74, Try.ntmps74
    go_wp2
    go_ret
    exact ⟨by simp [h1], rfl⟩
  · go_enter Try.func74, Try.ntmps74
    go_wp2
    go_ret
    exact ⟨by simp; omega, rfl⟩

theorem l6In_is {n lo hi : Int} {b : Bool} (h : inB n lo hi = b) (w : World) : Calls Try.prog 74 #[.int .i64 n, .int .i64 lo, .int .i64 hi] w fun e w' => e = .returned (.bool b) ∧ w = w' := h ▸ l6In_any n lo hi w

end Go.Proofs.Ytkjhkcnmhakfcaa
