/- Plain facts for the laws of chapter 2. Nothing of the program. -/
import Derived.Test.YtcfmnjkgebopcaaTri4
import Derived.Test.YtcfmnjkgebopcaaTri5
namespace Go.Proofs.Ytcfmnjkgebopcaa
theorem area_sq (a b c : Int) : areaM a b c = 4 * a * a * b * b - (a * a + b * b - c * c) * (a * a + b * b - c * c) := by
  unfold areaM; grind
theorem area_pos {a b c : Int} (h : TriP a b c) : 0 < areaM a b c := by
  obtain ⟨h1, h2, h3, h4, h5⟩ := h
  unfold areaM
  exact Int.mul_pos (Int.mul_pos (Int.mul_pos (by omega) (by omega)) (by omega)) (by omega)
theorem mul_lt {a b x y : Int} (h1 : 0 < a) (h2 : a < b) (h3 : 0 < x) (h4 : x < y) : a * x < b * y :=
  Int.lt_of_lt_of_le (Int.mul_lt_mul_of_pos_right h2 h3) (Int.mul_le_mul_of_nonneg_left (Int.le_of_lt h4) (by omega))
theorem area_grow {a b c : Int} (h : TriP a b c) : areaM a b c < areaM (a + 1) (b + 1) (c + 1) := by
  obtain ⟨h1, h2, h3, h4, h5⟩ := h
  unfold areaM
  have p1 := mul_lt (a := a + b + c) (b := (a + 1) + (b + 1) + (c + 1)) (x := a + b - c) (y := (a + 1) + (b + 1) - (c + 1)) (by omega) (by omega) (by omega) (by omega)
  have q1 : 0 < (a + b + c) * (a + b - c) := Int.mul_pos (by omega) (by omega)
  have p2 := mul_lt (x := a + c - b) (y := (a + 1) + (c + 1) - (b + 1)) q1 p1 (by omega) (by omega)
  have q2 : 0 < (a + b + c) * (a + b - c) * (a + c - b) := Int.mul_pos q1 (by omega)
  exact mul_lt q2 p2 (by omega) (by omega)
theorem double_tri {a b c : Int} (h : TriP a b c) : triLB [2 * a, 2 * b, 2 * c] = decide (2 * c ≤ 60) := by
  obtain ⟨h1, h2, h3, h4, h5⟩ := h
  by_cases h6 : 2 * c ≤ 60
  · rw [decide_eq_true h6]; exact triLB_mk ⟨by omega, by omega, by omega, h6, by omega⟩
  · rw [decide_eq_false h6]
    cases hh : triLB [2 * a, 2 * b, 2 * c] with
    | false => rfl
    | true => exact absurd (triLB_yes hh).2.2.2.2.2.1 h6
theorem kind_double {a b c : Int} : kindM (2 * a) (2 * b) (2 * c) = kindM a b c := by
  rcases (show c * c < a * a + b * b ∨ c * c = a * a + b * b ∨ a * a + b * b < c * c by omega) with h | h | h
  · rw [kind_a h, kind_a (by grind)]
  · rw [kind_r h, kind_r (by grind)]
  · rw [kind_o h, kind_o (by grind)]
theorem cross_sq (a b c x y z : Int) (h1 : a * y = b * x) (h2 : a * z = c * x) : (a * a + b * b - c * c) * (x * x) = (x * x + y * y - z * z) * (a * a) := by grind
theorem mul_sign {p q r s : Int} (h : p * q = r * s) (hq : 0 < q) (hs : 0 < s) : (0 < p ↔ 0 < r) ∧ (p = 0 ↔ r = 0) := by
  rcases (show 0 < p ∨ p = 0 ∨ p < 0 by omega) with hp | hp | hp
  · have h1 := Int.mul_pos hp hq
    rcases (show 0 < r ∨ r ≤ 0 by omega) with hr | hr
    · exact ⟨⟨fun _ => hr, fun _ => hp⟩, ⟨fun e => by omega, fun e => by omega⟩⟩
    · have := Int.mul_nonpos_of_nonpos_of_nonneg hr (Int.le_of_lt hs); omega
  · subst hp
    rw [Int.zero_mul] at h
    have : r = 0 := by
      rcases Int.mul_eq_zero.1 h.symm with hr | hr
      · exact hr
      · omega
    subst this
    exact ⟨Iff.rfl, Iff.rfl⟩
  · have h1 : p * q < 0 := Int.mul_neg_of_neg_of_pos hp hq
    rcases (show 0 ≤ r ∨ r < 0 by omega) with hr | hr
    · have := Int.mul_nonneg hr (Int.le_of_lt hs); omega
    · exact ⟨⟨fun e => by omega, fun e => by omega⟩, ⟨fun e => by omega, fun e => by omega⟩⟩
theorem kind_same {a b c x y z : Int} (ha : 1 ≤ a) (hx : 1 ≤ x) (h1 : a * y = b * x) (h2 : a * z = c * x) : kindM a b c = kindM x y z := by
  have h := mul_sign (cross_sq a b c x y z h1 h2) (Int.mul_pos (by omega) (by omega)) (Int.mul_pos (by omega) (by omega))
  rcases (show c * c < a * a + b * b ∨ c * c = a * a + b * b ∨ a * a + b * b < c * c by omega) with k | k | k
  · rw [kind_a k, kind_a (by omega)]
  · rw [kind_r k, kind_r (by omega)]
  · rw [kind_o k, kind_o (by omega)]
theorem sam_yes {xs ys : List Int} (h : samB xs ys = true) : triLB xs = true ∧ triLB ys = true ∧ xs.getD 0 0 * ys.getD 1 0 = xs.getD 1 0 * ys.getD 0 0 ∧ xs.getD 0 0 * ys.getD 2 0 = xs.getD 2 0 * ys.getD 0 0 := by
  unfold samB at h
  simp only [Bool.and_eq_true, decide_eq_true_eq] at h
  exact ⟨h.1, h.2.1, h.2.2.1, h.2.2.2⟩
theorem sam_kind {xs ys : List Int} (h : samB xs ys = true) : kndM xs = kndM ys := by
  obtain ⟨h1, h2, h3, h4⟩ := sam_yes h
  rw [kndM_yes h1, kndM_yes h2]
  exact kind_same (triLB_yes h1).2.2.1 (triLB_yes h2).2.2.1 h3 h4
theorem sam_symm {xs ys : List Int} (h : samB xs ys = true) : samB ys xs = true := by
  obtain ⟨h1, h2, h3, h4⟩ := sam_yes h
  rw [samB_of h2 h1, Int.mul_comm (ys.getD 0 0), Int.mul_comm (ys.getD 1 0), Int.mul_comm (ys.getD 0 0), Int.mul_comm (ys.getD 2 0), h3, h4]
  simp
theorem rnd_three {p : Int} (h : inB p 1 60 = true) (h2 : p % 2 = 0) (h4 : 4 ≤ p) : inB (p - 3) 1 60 = true ∧ rndM (p - 3) = rndM p := by
  have hb := inB_true h
  have h3 : inB (p - 3) 1 60 = true := inB_mk (by omega) (by omega)
  refine ⟨h3, ?_⟩
  rw [rndM_even h h2, rndM_odd h3 (by omega), Int.sub_add_cancel]
end Go.Proofs.Ytcfmnjkgebopcaa
