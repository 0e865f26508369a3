/- Reaches that go on with more rods; the answers of chapter 4. Nothing of the program. -/
import Derived.Test.YtjciligkaamepaaChainP
namespace Go.Proofs.Ytjciligkaamepaa
/-- The least distance when a reach from l to m goes on with the first k rods. -/
def alTo (l m : Int) (xs : List Int) : Nat → Int
  | 0 => l
  | k + 1 => max 0 (max (alTo l m xs k - xs.getD k 0) (xs.getD k 0 - (m + sumTo xs k)))
theorem alTo_is {xs : List Int} (hb : Bundle xs) {l m : Int} (h0 : 0 ≤ l) (hm : 0 ≤ m) : ∀ k, k + 1 ≤ xs.length → alTo l m xs (k + 1) = max 0 (max (l - sumTo xs (k + 1)) (2 * xs.getD k 0 - sumTo xs (k + 1) - m))
  | 0, h => by
    have := hb.2.2.1 0 (by omega)
    simp only [alTo, sumTo]
    omega
  | k + 1, h => by
    have h1 := hb.2.2.1 (k + 1) (by omega)
    have h2 := hb.2.2.2 k (by omega)
    have h3 := alTo_is hb h0 hm k (by omega)
    have e : sumTo xs (k + 1 + 1) = sumTo xs (k + 1) + xs.getD (k + 1) 0 := rfl
    rw [alTo, h3, e]
    omega
theorem alTo_all {xs : List Int} (hb : Bundle xs) {l m : Int} (h0 : 0 ≤ l) (hm : 0 ≤ m) : alTo l m xs xs.length = max 0 (max (l - sumL xs) (2 * xs.getD (xs.length - 1) 0 - sumL xs - m)) := by
  have h1 := hb.1
  obtain ⟨j, hj⟩ : ∃ j, xs.length = j + 1 := ⟨xs.length - 1, by omega⟩
  have h := alTo_is hb h0 hm j (by omega)
  unfold sumL
  rw [hj, Nat.add_sub_cancel]
  exact h
theorem al_step {xs : List Int} (hb : Bundle xs) : alTo 0 0 xs xs.length = lowL xs := by
  rw [alTo_all hb (by omega) (by omega)]
  have := gap_bd hb
  have := last_in hb
  unfold lowL
  omega
theorem sumTo_in {xs : List Int} (hb : Bundle xs) : ∀ k, k ≤ xs.length → (k : Int) ≤ sumTo xs k ∧ sumTo xs k ≤ 60 * k
  | 0, _ => by simp [sumTo]
  | k + 1, h => by
    have h1 := hb.2.2.1 k (by omega)
    have h2 := sumTo_in hb k (by omega)
    rw [sumTo]
    omega
theorem alTo_bd {xs : List Int} (hb : Bundle xs) {l m : Int} (h0 : 0 ≤ l) (h60 : l ≤ 60) (hm : 0 ≤ m) : ∀ k, k ≤ xs.length → 0 ≤ alTo l m xs k ∧ alTo l m xs k ≤ 60
  | 0, _ => ⟨h0, h60⟩
  | k + 1, h => by
    have h1 := hb.2.2.1 k (by omega)
    have h2 := alTo_bd hb h0 h60 hm k (by omega)
    have h3 := sumTo_in hb k (by omega)
    rw [alTo]
    omega
theorem low_bd {xs : List Int} (hb : Bundle xs) : 0 ≤ lowL xs ∧ lowL xs ≤ 60 ∧ lowL xs ≤ sumL xs ∧ 1 ≤ sumL xs ∧ sumL xs ≤ 540 := by
  have hg := gap_bd hb
  have hl := last_in hb
  unfold lowL
  omega
theorem low_is (xs : List Int) : (0 < 2 * xs.getD (xs.length - 1) 0 - sumL xs ∧ lowL xs = 2 * xs.getD (xs.length - 1) 0 - sumL xs) ∨ (2 * xs.getD (xs.length - 1) 0 - sumL xs ≤ 0 ∧ lowL xs = 0) := by
  unfold lowL
  omega
theorem low_gap2 (xs : List Int) : (0 < -gapL xs ∧ lowL xs = -gapL xs) ∨ (-gapL xs ≤ 0 ∧ lowL xs = 0) := by
  rw [low_gap]
  omega
theorem hold_is (xs : List Int) : (1 < lowL xs ∧ holdL xs = lowL xs) ∨ (lowL xs ≤ 1 ∧ holdL xs = 1) := by
  unfold holdL
  omega
/-- A chain that goes on with another one reaches where the two meet. -/
theorem al_meet {xs ys : List Int} (ha : Bundle xs) (hb : Bundle ys) {d : Int} (hd : 0 ≤ d) :
    (decide (d ≥ alTo (lowL xs) (sumL xs) ys ys.length) && decide (d ≤ sumL xs + sumL ys)) = meetB xs ys d := by
  have h1 := low_bd ha
  have h2 := low_bd hb
  rw [alTo_all hb (by omega) (by omega), Bool.eq_iff_iff, Bool.and_eq_true, decide_eq_true_iff, decide_eq_true_iff, meetB_iff]
  unfold lowL at *
  omega

/-! Answers -/
noncomputable def lowM (xs : List Int) : Int := if bundleB xs then lowL xs else 0
theorem lowM_yes {xs : List Int} (h : bundleB xs = true) : lowM xs = lowL xs := by unfold lowM; rw [if_pos h]
theorem lowM_no {xs : List Int} (h : bundleB xs = false) : lowM xs = 0 := by unfold lowM; rw [h]; rfl
noncomputable def hldM (xs : List Int) : Int := if bundleB xs then holdL xs else 0
theorem hldM_yes {xs : List Int} (h : bundleB xs = true) : hldM xs = holdL xs := by unfold hldM; rw [if_pos h]
theorem hldM_no {xs : List Int} (h : bundleB xs = false) : hldM xs = 0 := by unfold hldM; rw [h]; rfl
/-- A chain that reaches a distance. -/
noncomputable def chTo (xs : List Int) (d : Int) : Bool := bundleB xs && toB xs d
theorem chTo_yes {xs : List Int} (h : bundleB xs = true) (d : Int) : chTo xs d = toB xs d := by unfold chTo; rw [h]; rfl
theorem chTo_no {xs : List Int} (h : bundleB xs = false) (d : Int) : chTo xs d = false := by unfold chTo; rw [h]; rfl
theorem toB_is (xs : List Int) (d : Int) : toB xs d = (decide (d ≥ lowL xs) && decide (d ≤ sumL xs)) := rfl
theorem toB_neg {xs : List Int} {d : Int} (h : d < 0) : toB xs d = false := by
  rw [Bool.eq_false_iff, Ne, toB_iff]
  unfold lowL
  omega
theorem chTo_neg {xs : List Int} {d : Int} (h : d < 0) : chTo xs d = false := by unfold chTo; rw [toB_neg h]; simp
/-- Chains that meet. -/
noncomputable def chMeet (xs ys : List Int) (d : Int) : Bool := bundleB xs && (bundleB ys && (inB d 0 1000 && meetB xs ys d))
theorem chMeet_no1 {xs ys : List Int} {d : Int} (h : bundleB xs = false) : chMeet xs ys d = false := by unfold chMeet; rw [h]; rfl
theorem chMeet_no2 {xs ys : List Int} {d : Int} (h : bundleB ys = false) : chMeet xs ys d = false := by unfold chMeet; rw [h]; simp
theorem chMeet_no3 {xs ys : List Int} {d : Int} (h : inB d 0 1000 = false) : chMeet xs ys d = false := by unfold chMeet; rw [h]; simp
theorem chMeet_yes {xs ys : List Int} {d : Int} (h1 : bundleB xs = true) (h2 : bundleB ys = true) (h3 : inB d 0 1000 = true) : chMeet xs ys d = meetB xs ys d := by unfold chMeet; rw [h1, h2, h3]; rfl
theorem chMeet_parts {xs ys : List Int} {d : Int} (h : chMeet xs ys d = true) : bundleB xs = true ∧ bundleB ys = true ∧ inB d 0 1000 = true ∧ meetB xs ys d = true := by
  unfold chMeet at h
  simpa using h
theorem chMeet_comm (xs ys : List Int) (d : Int) : chMeet xs ys d = chMeet ys xs d := by
  unfold chMeet
  rw [meetB_comm ys xs]
  cases bundleB xs <;> cases bundleB ys <;> rfl
theorem chMeet_cond {xs ys : List Int} {d : Int} (h : inB d 0 1000 = true) : chMeet xs ys d = (bundleB xs && (bundleB ys && meetB xs ys d)) := by unfold chMeet; rw [h]; rfl
noncomputable def bstB (xs : List Int) (d : Int) : Bool := bundleB xs && (inB d 0 1000 && decide (1 ≤ bestL xs d))
noncomputable def bstM (xs : List Int) (d : Int) : Int := if bstB xs d then (bestL xs d : Nat) else 0
theorem bstM_yes {xs : List Int} {d : Int} (h : bstB xs d = true) : bstM xs d = (bestL xs d : Nat) := by unfold bstM; rw [if_pos h]
theorem bstM_no {xs : List Int} {d : Int} (h : bstB xs d = false) : bstM xs d = 0 := by unfold bstM; rw [h]; rfl
theorem bstB_no1 {xs : List Int} {d : Int} (h : bundleB xs = false) : bstB xs d = false := by unfold bstB; rw [h]; rfl
theorem bstB_no2 {xs : List Int} {d : Int} (h : inB d 0 1000 = false) : bstB xs d = false := by unfold bstB; rw [h]; simp
theorem bstB_none {xs : List Int} {d : Int} (h : bestL xs d = 0) : bstB xs d = false := by unfold bstB; rw [h]; simp
theorem bstB_yes {xs : List Int} {d : Int} (h1 : bundleB xs = true) (h2 : inB d 0 1000 = true) (h3 : 1 ≤ bestL xs d) : bstB xs d = true := by unfold bstB; rw [h1, h2, decide_eq_true h3]; rfl
theorem bstB_parts {xs : List Int} {d : Int} (h : bstB xs d = true) : bundleB xs = true ∧ inB d 0 1000 = true ∧ 1 ≤ bestL xs d := by
  unfold bstB at h
  simpa using h
theorem best_le (xs : List Int) (d : Int) : bestL xs d ≤ xs.length := by
  rcases bestTo_is (xs := xs) (d := d) xs.length with h | h
  · unfold bestL; omega
  · exact h.2.1
/-- What the program asks of the first k rods. -/
theorem chTo_take {xs : List Int} (hb : Bundle xs) {k : Nat} (h1 : 1 ≤ k) (h2 : k ≤ xs.length) (d : Int) : chTo (xs.take k) d = toB (xs.take k) d := chTo_yes (bundleB_mk (bundle_take hb h1 h2)) d
end Go.Proofs.Ytjciligkaamepaa
