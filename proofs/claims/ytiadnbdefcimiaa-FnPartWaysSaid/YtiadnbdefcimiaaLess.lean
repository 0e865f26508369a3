/- The order of lists: the model's l8Less, slices.Compare at []int. -/
import Derived.Test.YtiadnbdefcimiaaSolP
namespace Go.Proofs.Ytiadnbdefcimiaa
open Go.RowKit

theorem isNaN_any (x : Int) (w : World) : Calls Try.prog 100 #[.int .i64 x] w fun e w' => e = .returned (.bool false) ∧ w = w' := by
  go_enter Try.func100, Try.ntmps100
  go_wp2
  go_ret
  exact ⟨by simp, rfl⟩
/-- How two numbers compare. -/
def cmpI (x y : Int) : Int := if x < y then -1 else if y < x then 1 else 0
theorem cmpI_lt {x y : Int} (h : x < y) : cmpI x y = -1 := by unfold cmpI; rw [if_pos h]
theorem cmpI_gt {x y : Int} (h : y < x) : cmpI x y = 1 := by unfold cmpI; rw [if_neg (by omega), if_pos h]
theorem cmpI_eq {x y : Int} (h : x = y) : cmpI x y = 0 := by unfold cmpI; rw [if_neg (by omega), if_neg (by omega)]
theorem cmpI_ne {x y : Int} (h : x ≠ y) : cmpI x y ≠ 0 ∧ decide (cmpI x y < 0) = decide (x < y) := by
  rcases Int.lt_or_lt_of_ne h with g | g
  · rw [cmpI_lt g]; simp [g]
  · rw [cmpI_gt g]; simp; omega
/-- How two lists compare. -/
def cmpL : List Int → List Int → Int
  | x :: a, y :: b => if x = y then cmpL a b else cmpI x y
  | _, _ => 0
theorem cmpL_less : ∀ xs ys : List Int, decide (cmpL xs ys < 0) = lessB xs ys
  | [], _ => by simp [cmpL, lessB]
  | _ :: _, [] => by simp [cmpL, lessB]
  | x :: a, y :: b => by
    rw [cmpL, lessB]
    by_cases h : x = y
    · rw [if_pos h, if_pos h]; exact cmpL_less a b
    · rw [if_neg h, if_neg h]; exact (cmpI_ne h).2
theorem cmpL_at : ∀ (xs ys : List Int) (k : Nat), xs.length = ys.length → (∀ j, j < k → xs.getD j 0 = ys.getD j 0) → k < xs.length → xs.getD k 0 ≠ ys.getD k 0 → cmpL xs ys = cmpI (xs.getD k 0) (ys.getD k 0)
  | [], _, k, _, _, hk, _ => absurd hk (by simp)
  | _ :: _, [], _, hl, _, _, _ => by simp at hl
  | x :: a, y :: b, 0, _, _, _, hne => by
    simp only [List.getD_cons_zero] at hne ⊢
    rw [cmpL, if_neg hne]
  | x :: a, y :: b, k + 1, hl, h, hk, hne => by
    have h0 := h 0 (by omega)
    simp only [List.getD_cons_zero] at h0
    rw [cmpL, if_pos h0]
    simp only [List.getD_cons_succ] at hne ⊢
    exact cmpL_at a b k (by simpa using hl) (fun j hj => by have := h (j + 1) (by omega); simpa using this) (by simpa using hk) hne
theorem cmpL_same : ∀ (xs ys : List Int), xs.length = ys.length → (∀ j, j < xs.length → xs.getD j 0 = ys.getD j 0) → cmpL xs ys = 0
  | [], _, _, _ => by simp [cmpL]
  | _ :: _, [], hl, _ => by simp at hl
  | x :: a, y :: b, hl, h => by
    have h0 := h 0 (by simp)
    simp only [List.getD_cons_zero] at h0
    rw [cmpL, if_pos h0]
    exact cmpL_same a b (by simpa using hl) (fun j hj => by have := h (j + 1) (by simp; omega); simpa using this)
theorem cmpC_any (x y : Int) (w : World) : Calls Try.prog 90 #[.int .i64 x, .int .i64 y] w fun e w' => e = .returned (.int .i64 (cmpI x y)) ∧ w = w' := by
  have h1 := fun W => isNaN_any x W
  have h2 := fun W => isNaN_any y W
  by_cases hlt : x < y
  · have e := cmpI_lt hlt
    generalize cmpI x y = r at *
    subst e
    go_enter Try.func90, Try.ntmps90
    go_wp2_with (first | (with_reducible refine (h1 _).mono ?_; rintro e w' ⟨rfl, rfl⟩) | (with_reducible refine (h2 _).mono ?_; rintro e w' ⟨rfl, rfl⟩))
    go_ret
    exact ⟨rfl, rfl⟩
  · by_cases hgt : y < x
    · have e := cmpI_gt hgt
      generalize cmpI x y = r at *
      subst e
      go_enter Try.func90, Try.ntmps90
      go_wp2_with (first | (with_reducible refine (h1 _).mono ?_; rintro e w' ⟨rfl, rfl⟩) | (with_reducible refine (h2 _).mono ?_; rintro e w' ⟨rfl, rfl⟩))
      go_ret
      exact ⟨rfl, rfl⟩
    · obtain rfl : x = y := by omega
      have e := cmpI_eq (rfl : x = x)
      generalize cmpI x x = r at *
      subst e
      clear hlt hgt
      go_enter Try.func90, Try.ntmps90
      go_wp2_with (first | (with_reducible refine (h1 _).mono ?_; rintro e w' ⟨rfl, rfl⟩) | (with_reducible refine (h2 _).mono ?_; rintro e w' ⟨rfl, rfl⟩))
      go_ret
      exact ⟨rfl, rfl⟩

end Go.Proofs.Ytiadnbdefcimiaa
