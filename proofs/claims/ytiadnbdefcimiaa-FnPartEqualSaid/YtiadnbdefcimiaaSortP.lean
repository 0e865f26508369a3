/- Insertion into a list from its end, and the list so sorted. Nothing of the program. -/
import Derived.Test.YtiadnbdefcimiaaPure1
namespace Go.Proofs.Ytiadnbdefcimiaa

/-- Behind which place x goes in, looked for from the end. -/
def posTo (P : List Int) (x : Int) : Nat → Nat
  | 0 => 0
  | k + 1 => if P.getD k 0 ≤ x then k + 1 else posTo P x k
def pos (P : List Int) (x : Int) : Nat := posTo P x P.length
def ins (P : List Int) (x : Int) : List Int := P.take (pos P x) ++ x :: P.drop (pos P x)
def isortTo (xs : List Int) : Nat → List Int
  | 0 => []
  | k + 1 => ins (isortTo xs k) (xs.getD k 0)
def isort (xs : List Int) : List Int := isortTo xs xs.length
theorem posTo_le (P : List Int) (x : Int) : ∀ k, posTo P x k ≤ k
  | 0 => Nat.le_refl _
  | k + 1 => by
    unfold posTo
    split
    · exact Nat.le_refl _
    · exact Nat.le_succ_of_le (posTo_le P x k)
theorem pos_le (P : List Int) (x : Int) : pos P x ≤ P.length := posTo_le P x P.length
theorem posTo_stop {P : List Int} {x : Int} {k : Nat} (h : P.getD k 0 ≤ x) : posTo P x (k + 1) = k + 1 := by unfold posTo; rw [if_pos h]
theorem posTo_go {P : List Int} {x : Int} {k : Nat} (h : x < P.getD k 0) : posTo P x (k + 1) = posTo P x k := by rw [posTo, if_neg (by omega)]
theorem length_ins (P : List Int) (x : Int) : (ins P x).length = P.length + 1 := by
  have := pos_le P x
  unfold ins
  simp only [List.length_append, List.length_take, List.length_cons, List.length_drop]
  omega
theorem length_isortTo (xs : List Int) : ∀ k, (isortTo xs k).length = k
  | 0 => rfl
  | k + 1 => by rw [isortTo, length_ins, length_isortTo xs k]
/-- P with x at place j: what stands at place m. -/
def mv (P : List Int) (x : Int) (j m : Nat) : Int := if m < j then P.getD m 0 else if m = j then x else P.getD (m - 1) 0
theorem getD_mid (P : List Int) (x : Int) (j m : Nat) (hj : j ≤ P.length) : (P.take j ++ x :: P.drop j).getD m 0 = mv P x j m := by
  unfold mv
  simp only [List.getD_eq_getElem?_getD]
  by_cases h1 : m < j
  · rw [if_pos h1, List.getElem?_append_left (by simp; omega), List.getElem?_take, if_pos h1]
  · rw [if_neg h1, List.getElem?_append_right (by simp; omega)]
    have hl : (P.take j).length = j := by simp; omega
    rw [hl]
    by_cases h2 : m = j
    · subst h2; simp
    · rw [if_neg h2]
      obtain ⟨d, rfl⟩ : ∃ d, m = j + d + 1 := ⟨m - j - 1, by omega⟩
      have e1 : j + d + 1 - j = d + 1 := by omega
      have e2 : j + d + 1 - 1 = j + d := by omega
      rw [e1, e2, List.getElem?_cons_succ, List.getElem?_drop]
theorem getD_ins (P : List Int) (x : Int) (m : Nat) : (ins P x).getD m 0 = mv P x (pos P x) m := getD_mid P x _ m (pos_le P x)
theorem mv_step (P : List Int) (x : Int) (j m : Nat) : mv P x j m = if m = j + 1 then P.getD j 0 else if m = j then x else mv P x (j + 1) m := by
  unfold mv
  by_cases h1 : m < j
  · simp [h1, show m < j + 1 by omega, show ¬ m = j by omega, show ¬ m = j + 1 by omega]
  · by_cases h2 : m = j
    · simp [h2]
    · by_cases h3 : m = j + 1
      · subst h3; rw [if_neg (by omega), if_neg (by omega), if_pos rfl]; rfl
      · simp [h1, h2, h3, show ¬ m < j + 1 by omega]
theorem posTo_low (P : List Int) (x : Int) : ∀ k, posTo P x k = 0 ∨ P.getD (posTo P x k - 1) 0 ≤ x
  | 0 => .inl rfl
  | k + 1 => by
    unfold posTo
    split
    · rename_i h; exact .inr h
    · exact posTo_low P x k
theorem posTo_high (P : List Int) (x : Int) : ∀ k m, posTo P x k ≤ m → m < k → x < P.getD m 0
  | 0, m, _, h => absurd h (by omega)
  | k + 1, m, h1, h2 => by
    unfold posTo at h1
    split at h1
    · omega
    · rename_i hn
      by_cases e : m = k
      · subst e; omega
      · exact posTo_high P x k m h1 (by omega)
theorem asc_ins {P : List Int} (h : Asc P) (x : Int) : Asc (ins P x) := by
  intro j hj
  rw [length_ins] at hj
  rw [getD_ins, getD_ins]
  have hlo := posTo_low P x P.length
  have hhi := posTo_high P x P.length
  have hp := pos_le P x
  have e : posTo P x P.length = pos P x := rfl
  rw [e] at hlo hhi
  generalize pos P x = p at *
  unfold mv
  by_cases h1 : j + 1 < p
  · rw [if_pos (by omega), if_pos h1]; exact h j (by omega)
  · by_cases h2 : j + 1 = p
    · rw [if_pos (by omega), if_neg (by omega), if_pos h2]
      rcases hlo with hlo | hlo
      · omega
      · have e : p - 1 = j := by omega
        rw [e] at hlo; exact hlo
    · by_cases h3 : j = p
      · rw [if_neg (by omega), if_pos h3, if_neg (by omega), if_neg (by omega)]
        have := hhi j (by omega) (by omega)
        show x ≤ P.getD j 0
        omega
      · rw [if_neg (by omega), if_neg h3, if_neg (by omega), if_neg (by omega)]
        have := h (j - 1) (by omega)
        have e : j - 1 + 1 = j := by omega
        rw [e] at this
        exact this
theorem asc_isortTo (xs : List Int) : ∀ k, Asc (isortTo xs k)
  | 0 => fun j hj => absurd hj (by simp [isortTo])
  | k + 1 => asc_ins (asc_isortTo xs k) _
theorem asc_isort (xs : List Int) : Asc (isort xs) := asc_isortTo xs _
theorem perm_ins (P : List Int) (x : Int) : (ins P x).Perm (x :: P) := by
  unfold ins
  refine List.perm_middle.trans ?_
  rw [List.take_append_drop]
theorem perm_isortTo (xs : List Int) : ∀ k, k ≤ xs.length → (isortTo xs k).Perm (xs.take k)
  | 0, _ => by simp [isortTo]
  | k + 1, h => by
    have h1 := perm_isortTo xs k (by omega)
    have e : xs.take (k + 1) = xs.take k ++ [xs.getD k 0] := by
      rw [List.take_succ_eq_append_getElem (by omega)]; simp [List.getD_eq_getElem?_getD, show k < xs.length by omega]
    rw [isortTo, e]
    exact (perm_ins _ _).trans ((List.Perm.cons _ h1).trans (List.perm_append_comm (l₁ := [xs.getD k 0])))
theorem perm_isort (xs : List Int) : (isort xs).Perm xs := by
  have := perm_isortTo xs xs.length (Nat.le_refl _)
  rw [List.take_length] at this
  exact this
theorem length_isort (xs : List Int) : (isort xs).length = xs.length := length_isortTo xs _
theorem getD_mem {xs : List Int} {j : Nat} (h : j < xs.length) : xs.getD j 0 ∈ xs := by
  rw [List.getD_eq_getElem?_getD, List.getElem?_eq_getElem h]; exact List.getElem_mem h
theorem mem_getD {xs : List Int} {y : Int} (h : y ∈ xs) : ∃ j, j < xs.length ∧ xs.getD j 0 = y := by
  obtain ⟨j, hj, e⟩ := List.getElem_of_mem h
  exact ⟨j, hj, by rw [List.getD_eq_getElem?_getD, List.getElem?_eq_getElem hj]; exact e⟩
/-- A list sorted is a bundle just if it has as many sticks and lengths in range. -/
theorem bundle_isort (xs : List Int) : Bundle (isort xs) ↔ 1 ≤ xs.length ∧ xs.length ≤ 9 ∧ ∀ y ∈ xs, 1 ≤ y ∧ y ≤ 60 := by
  constructor
  · rintro ⟨h1, h2, h3, _⟩
    rw [length_isort] at h1 h2
    refine ⟨h1, h2, fun y hy => ?_⟩
    obtain ⟨j, hj, rfl⟩ := mem_getD ((perm_isort xs).mem_iff.2 hy)
    exact h3 j hj
  · rintro ⟨h1, h2, h3⟩
    exact ⟨by rw [length_isort]; exact h1, by rw [length_isort]; exact h2, fun j hj => h3 _ ((perm_isort xs).mem_iff.1 (getD_mem hj)), asc_isort xs⟩
theorem bundle_mem {xs : List Int} (h : Bundle xs) : ∀ y ∈ xs, 1 ≤ y ∧ y ≤ 60 := fun y hy => by
  obtain ⟨j, hj, rfl⟩ := mem_getD hy
  exact h.2.2.1 j hj
theorem bundle_put {xs : List Int} (h : Bundle xs) (x : Int) : bundleB (isort (xs ++ [x])) = (decide (xs.length < 9) && inB x 1 60) := by
  by_cases hb : Bundle (isort (xs ++ [x]))
  · have h2 := (bundle_isort _).1 hb
    rw [bundleB_mk hb, inB_mk (h2.2.2 x (by simp)).1 (h2.2.2 x (by simp)).2]
    have := h2.2.1
    simp at this
    simp; omega
  · rw [bundleB_not hb]
    by_cases h1 : xs.length < 9
    · have : inB x 1 60 = false := by
        cases hx : inB x 1 60 with
        | false => rfl
        | true =>
          have hx := inB_true hx
          refine absurd ((bundle_isort _).2 ⟨by simp, by simp; omega, fun y hy => ?_⟩) hb
          rcases List.mem_append.1 hy with hy | hy
          · exact bundle_mem h y hy
          · simp at hy; subst hy; exact hx
      simp [this]
    · simp [h1]
noncomputable def doneM (ys : List Int) : List Int := if bundleB ys then ys else []
theorem doneM_yes {ys : List Int} (h : bundleB ys = true) : doneM ys = ys := by unfold doneM; rw [if_pos h]
theorem doneM_no {ys : List Int} (h : bundleB ys = false) : doneM ys = [] := by unfold doneM; rw [h]; rfl
end Go.Proofs.Ytiadnbdefcimiaa
