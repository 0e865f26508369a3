/- Contracts of the functions of chapter 1 that only compute with numbers. -/
import Derived.Test.YtliplbifgldjeaaBase
namespace Go.Proofs.Ytliplbifgldjeaa
open Go.RowKit

def inB (n lo hi : Int) : Bool := decide (lo ≤ n) && decide (n ≤ hi)
theorem inB_true {n lo hi : Int} (h : inB n lo hi = true) : lo ≤ n ∧ n ≤ hi := by simpa [inB] using h
theorem inB_mk {n lo hi : Int} (h1 : lo ≤ n) (h2 : n ≤ hi) : inB n lo hi = true := by simp [inB, h1, h2]
/-- Three numbers, each less than the sum of the other two. -/
def triB (a b c : Int) : Bool := decide (a < b + c) && decide (b < a + c) && decide (c < a + b)
/-- Three lengths from 1 to 60 that are sides of a triangle. -/
def sidesB (a b c : Int) : Bool := inB a 1 60 && inB b 1 60 && inB c 1 60 && triB a b c

theorem l6In_any (n lo hi : Int) (w : World) : Calls Try.prog 79 #[.int .i64 n, .int .i64 lo, .int .i64 hi] w fun e w' => e = .returned (.bool (inB n lo hi)) ∧ w = w' := by
  unfold inB
  by_cases h1 : lo ≤ n
  · go_enter Try.func79, Try.ntmps79
    go_wp2
    go_ret
    exact ⟨by simp [h1], rfl⟩
  · go_enter Try.func79, Try.ntmps79
    go_wp2
    go_ret
    exact ⟨by simp; omega, rfl⟩

theorem l6In_is {n lo hi : Int} {b : Bool} (h : inB n lo hi = b) (w : World) : Calls Try.prog 79 #[.int .i64 n, .int .i64 lo, .int .i64 hi] w fun e w' => e = .returned (.bool b) ∧ w = w' := h ▸ l6In_any n lo hi w

theorem isLength_any (n : Int) (w : World) : Calls Try.prog 64 #[.int .i64 n] w fun e w' => e = .returned (.bool (inB n 1 60)) ∧ w = w' := by
  unfold inB
  by_cases h1 : 1 ≤ n
  · go_enter Try.func64, Try.ntmps64
    go_wp2
    go_ret
    exact ⟨by simp [h1], rfl⟩
  · go_enter Try.func64, Try.ntmps64
    go_wp2
    go_ret
    exact ⟨by simp; omega, rfl⟩

theorem closes_any (a b c : Int) (w : World) (ha : 1 ≤ a) (ha' : a ≤ 60) (hb : 1 ≤ b) (hb' : b ≤ 60) (hc : 1 ≤ c) (hc' : c ≤ 60) :
    Calls Try.prog 83 #[.agg #[.int .i64 a, .int .i64 b, .int .i64 c]] w fun e w' => e = .returned (.bool (triB a b c)) ∧ ∃ o, w' = w.alloc (.cells o 66) := by
  unfold triB
  by_cases h1 : a < b + c
  · by_cases h2 : b < a + c
    · go_enter Try.func83, Try.ntmps83
      go_wp2
      go_ret
      exact ⟨by simp [h1, h2], _, rfl⟩
    · go_enter Try.func83, Try.ntmps83
      go_wp2
      go_ret
      exact ⟨by simp; omega, _, rfl⟩
  · go_enter Try.func83, Try.ntmps83
    go_wp2
    go_ret
    exact ⟨by simp; omega, _, rfl⟩

theorem implThree_any (a b c : Int) (w : World) : Calls Try.prog 97 #[.int .i64 a, .int .i64 b, .int .i64 c] w fun e w' => e = .returned (.bool (sidesB a b c)) ∧ Below w.heap.size w w' := by
  unfold sidesB
  by_cases h1 : inB a 1 60 = true
  · by_cases h2 : inB b 1 60 = true
    · by_cases h3 : inB c 1 60 = true
      · have g1 := inB_true h1
        have g2 := inB_true h2
        have g3 := inB_true h3
        go_enter Try.func97, Try.ntmps97
        go_wp2_with (first | (go_at_call 64; refine (isLength_any _ _).mono ?_; rintro e w' ⟨rfl, rfl⟩) | (go_at_call 83; refine (closes_any a b c _ g1.1 g1.2 g2.1 g2.2 g3.1 g3.2).mono ?_; rintro e w' ⟨rfl, o, rfl⟩))
        go_ret
        exact ⟨by simp [h1, h2, h3], by repeat (first | exact Below.refl _ _ | refine Below.alloc ?_ (Nat.le_refl _) _)⟩
      · rw [Bool.not_eq_true] at h3
        go_enter Try.func97, Try.ntmps97
        go_wp2_with (go_at_call 64; refine (isLength_any _ _).mono ?_; rintro e w' ⟨rfl, rfl⟩)
        go_ret
        exact ⟨by simp [h3], Below.refl _ _⟩
    · rw [Bool.not_eq_true] at h2
      go_enter Try.func97, Try.ntmps97
      go_wp2_with (go_at_call 64; refine (isLength_any _ _).mono ?_; rintro e w' ⟨rfl, rfl⟩)
      go_ret
      exact ⟨by simp [h2], Below.refl _ _⟩
  · rw [Bool.not_eq_true] at h1
    go_enter Try.func97, Try.ntmps97
    go_wp2_with (go_at_call 64; refine (isLength_any _ _).mono ?_; rintro e w' ⟨rfl, rfl⟩)
    go_ret
    exact ⟨by simp [h1], Below.refl _ _⟩
end Go.Proofs.Ytliplbifgldjeaa
