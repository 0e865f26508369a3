/- Reaches of chains: rod by rod, with a rod more, of the least rods. Nothing of the program. -/
import Derived.Test.YtjciligkaamepaaPolyQ
namespace Go.Proofs.Ytjciligkaamepaa
/-- The least distance of a chain's reach. -/
def lowL (xs : List Int) : Int := max 0 (2 * xs.getD (xs.length - 1) 0 - sumL xs)
/-- The same for the first k rods, rod by rod. -/
def stepTo (xs : List Int) : Nat → Int
  | 0 => 0
  | k + 1 => max 0 (max (stepTo xs k - xs.getD k 0) (xs.getD k 0 - sumTo xs k))
theorem stepTo_is {xs : List Int} (hb : Bundle xs) : ∀ k, k + 1 ≤ xs.length → stepTo xs (k + 1) = max 0 (2 * xs.getD k 0 - sumTo xs (k + 1))
  | 0, h => by
    have := hb.2.2.1 0 (by omega)
    simp only [stepTo, sumTo]
    omega
  | k + 1, h => by
    have h1 := hb.2.2.1 (k + 1) (by omega)
    have h2 := hb.2.2.2 k (by omega)
    have h3 := stepTo_is hb k (by omega)
    have e : sumTo xs (k + 1 + 1) = sumTo xs (k + 1) + xs.getD (k + 1) 0 := rfl
    rw [stepTo, h3, e]
    omega
theorem step_all {xs : List Int} (hb : Bundle xs) : stepTo xs xs.length = lowL xs := by
  have h1 := hb.1
  obtain ⟨m, hm⟩ : ∃ m, xs.length = m + 1 := ⟨xs.length - 1, by omega⟩
  have h := stepTo_is hb m (by omega)
  unfold lowL sumL
  rw [hm, Nat.add_sub_cancel]
  exact h
theorem stepTo_bd {xs : List Int} (hb : Bundle xs) : ∀ k, k ≤ xs.length → 0 ≤ stepTo xs k ∧ stepTo xs k ≤ 60
  | 0, _ => by simp [stepTo]
  | k + 1, h => by
    have h1 := hb.2.2.1 k (by omega)
    have h2 := stepTo_bd hb k (by omega)
    have hp : ∀ j, j < xs.length → 0 ≤ xs.getD j 0 := fun j hj => by have := hb.2.2.1 j hj; omega
    have h3 : 0 ≤ sumTo xs k := sumTo_mono hp (Nat.zero_le _) (by omega)
    rw [stepTo]
    omega
/-- A distance is within the reach. -/
def toB (xs : List Int) (d : Int) : Bool := decide (lowL xs ≤ d) && decide (d ≤ sumL xs)
theorem toB_iff {xs : List Int} {d : Int} : toB xs d = true ↔ lowL xs ≤ d ∧ d ≤ sumL xs := by unfold toB; simp
theorem low_gap (xs : List Int) : lowL xs = max 0 (0 - gapL xs) := by unfold lowL gapL; omega
/-- The ends of two chains may meet. -/
def meetB (xs ys : List Int) (d : Int) : Bool := decide (d ≤ sumL xs + sumL ys) && (decide (lowL xs ≤ sumL ys + d) && decide (lowL ys ≤ sumL xs + d))
theorem meetB_iff {xs ys : List Int} {d : Int} : meetB xs ys d = true ↔ d ≤ sumL xs + sumL ys ∧ lowL xs ≤ sumL ys + d ∧ lowL ys ≤ sumL xs + d := by unfold meetB; simp
theorem meetB_comm (xs ys : List Int) (d : Int) : meetB xs ys d = meetB ys xs d := by
  rw [Bool.eq_iff_iff, meetB_iff, meetB_iff]
  omega

/-! A rod more -/
theorem last_put {xs : List Int} (hb : Bundle xs) (x : Int) : (isort (xs ++ [x])).getD ((isort (xs ++ [x])).length - 1) 0 = max (xs.getD (xs.length - 1) 0) x := by
  have hl : (isort (xs ++ [x])).length = xs.length + 1 := by rw [length_isort]; simp
  have h1 := hb.1
  rw [hl, Nat.add_sub_cancel]
  have hm := (perm_isort (xs ++ [x])).mem_iff.1 (getD_mem (xs := isort (xs ++ [x])) (j := xs.length) (by omega))
  have q1 : (isort (xs ++ [x])).getD xs.length 0 ≤ max (xs.getD (xs.length - 1) 0) x := by
    rcases List.mem_append.1 hm with hm | hm
    · have := asc_last hb.2.2.2 hm; omega
    · rw [List.mem_singleton.1 hm]; omega
  have q2 : xs.getD (xs.length - 1) 0 ≤ (isort (xs ++ [x])).getD xs.length 0 := by
    have hm := (perm_isort (xs ++ [x])).mem_iff.2 (List.mem_append_left _ (getD_mem (xs := xs) (j := xs.length - 1) (by omega)))
    have := asc_last (asc_isort _) hm
    rwa [hl, Nat.add_sub_cancel] at this
  have q3 : x ≤ (isort (xs ++ [x])).getD xs.length 0 := by
    have hm := (perm_isort (xs ++ [x])).mem_iff.2 (List.mem_append_right xs (List.mem_singleton.2 rfl))
    have := asc_last (asc_isort _) hm
    rwa [hl, Nat.add_sub_cancel] at this
  omega
theorem low_put {xs : List Int} (hb : Bundle xs) (x : Int) : lowL (isort (xs ++ [x])) = max 0 (2 * max (xs.getD (xs.length - 1) 0) x - (sumL xs + x)) := by
  unfold lowL
  rw [last_put hb, sum_put]
theorem to_put {xs : List Int} (hb : Bundle xs) {d : Int} (h0 : 0 ≤ d) (h : toB xs d = true) :
    toB (isort (xs ++ [3])) (d + 3) = true ∧ toB (isort (xs ++ [3])) (max (d - 3) (3 - d)) = true := by
  rw [toB_iff] at h
  have hg := gap_bd hb
  have hl := last_in hb
  rw [toB_iff, toB_iff, low_put hb, sum_put]
  unfold lowL at h
  omega
def holdL (xs : List Int) : Int := max 1 (lowL xs)
theorem hold_bd {xs : List Int} (hb : Bundle xs) : 1 ≤ holdL xs ∧ holdL xs ≤ 60 ∧ toB xs (holdL xs) = true ∧ toB (isort (xs ++ [holdL xs])) 0 = true := by
  have hg := gap_bd hb
  have hl := last_in hb
  rw [toB_iff, toB_iff, low_put hb, sum_put]
  unfold holdL lowL
  omega
theorem meet_ring {xs ys : List Int} {d : Int} (h : meetB xs ys d = true) :
    2 * max d (max (xs.getD (xs.length - 1) 0) (ys.getD (ys.length - 1) 0)) ≤ sumL xs + sumL ys + d := by
  rw [meetB_iff] at h
  unfold lowL at h
  omega
theorem meet_self {xs : List Int} (hb : Bundle xs) : meetB xs xs 0 = true ∧ meetB xs xs 7 = decide (2 * max 7 (xs.getD (xs.length - 1) 0) ≤ 2 * sumL xs + 7) ∧ meetB xs xs (sumL xs) = true ∧ meetB xs xs (2 * sumL xs + 1) = false := by
  have hg := gap_bd hb
  have hl := last_in hb
  refine ⟨?_, ?_, ?_, ?_⟩
  · rw [meetB_iff]; unfold lowL; omega
  · rw [Bool.eq_iff_iff, meetB_iff, decide_eq_true_iff]; unfold lowL; omega
  · rw [meetB_iff]; unfold lowL; omega
  · rw [Bool.eq_false_iff, Ne, meetB_iff]; omega

/-! The most of the least rods -/
def bestTo (xs : List Int) (d : Int) : Nat → Nat
  | 0 => 0
  | k + 1 => if toB (xs.take (k + 1)) d = true then k + 1 else bestTo xs d k
def bestL (xs : List Int) (d : Int) : Nat := bestTo xs d xs.length
theorem bestTo_yes {xs : List Int} {d : Int} {k : Nat} (h : 1 ≤ k) (hc : toB (xs.take k) d = true) : bestTo xs d k = k := by
  obtain ⟨m, rfl⟩ : ∃ m, k = m + 1 := ⟨k - 1, by omega⟩
  rw [bestTo, if_pos hc]
theorem bestTo_no {xs : List Int} {d : Int} {k : Nat} (h : 1 ≤ k) (hc : toB (xs.take k) d = false) : bestTo xs d k = bestTo xs d (k - 1) := by
  obtain ⟨m, rfl⟩ : ∃ m, k = m + 1 := ⟨k - 1, by omega⟩
  rw [bestTo, if_neg (by rw [hc]; simp)]; rfl
theorem bestTo_is {xs : List Int} {d : Int} : ∀ k, bestTo xs d k = 0 ∨ 1 ≤ bestTo xs d k ∧ bestTo xs d k ≤ k ∧ toB (xs.take (bestTo xs d k)) d = true
  | 0 => .inl rfl
  | k + 1 => by
    rw [bestTo]
    split
    · rename_i h; exact .inr ⟨by omega, Nat.le_refl _, h⟩
    · rcases bestTo_is (xs := xs) (d := d) k with h | h
      · exact .inl h
      · exact .inr ⟨h.1, by omega, h.2.2⟩
theorem bestTo_ge {xs : List Int} {d : Int} {j : Nat} (h1 : 1 ≤ j) (hc : toB (xs.take j) d = true) : ∀ k, j ≤ k → j ≤ bestTo xs d k
  | 0, h => by omega
  | k + 1, h => by
    rw [bestTo]
    split
    · omega
    · rename_i hn
      by_cases e : j = k + 1
      · subst e; exact absurd hc hn
      · exact bestTo_ge h1 hc k (by omega)
theorem best_at {xs : List Int} {d : Int} {j : Nat} (h1 : 1 ≤ j) (h2 : bestL xs d ≤ j) (h3 : j ≤ xs.length) (h0 : 1 ≤ bestL xs d) : toB (xs.take j) d = decide (j = bestL xs d) := by
  rw [Bool.eq_iff_iff, decide_eq_true_iff]
  constructor
  · intro h
    have := bestTo_ge h1 h xs.length h3
    unfold bestL at h2 ⊢
    omega
  · intro h
    rcases bestTo_is (xs := xs) (d := d) xs.length with q | q
    · unfold bestL at h0; omega
    · rw [h]; exact q.2.2
end Go.Proofs.Ytjciligkaamepaa
