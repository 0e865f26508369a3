/- The widest triangle, no triangle at all, one stick more: what holds of lists in order. Nothing of the program. -/
import Derived.Test.YtiadnbdefcimiaaCnt
namespace Go.Proofs.Ytiadnbdefcimiaa
theorem wid_max {xs : List Int} (h : Asc xs) : ∀ K, K ≤ xs.length → ∀ i j k, i < j → j < k → k < K → triB (xs.getD i 0) (xs.getD j 0) (xs.getD k 0) = true → (wid xs K).2 = true ∧ xs.getD i 0 + xs.getD j 0 + xs.getD k 0 ≤ (wid xs K).1
  | 0, _, i, j, k, _, _, h3, _ => by omega
  | 1, _, i, j, k, _, _, h3, _ => by omega
  | 2, _, i, j, k, _, _, h3, _ => by omega
  | m + 3, hK, i, j, k, h1, h2, h3, ht => by
    have hi := asc_le h (show i ≤ m by omega) (by omega)
    have hj := asc_le h (show j ≤ m + 1 by omega) (by omega)
    have hk := asc_le h (show k ≤ m + 2 by omega) (by omega)
    by_cases ht0 : triB (xs.getD m 0) (xs.getD (m + 1) 0) (xs.getD (m + 2) 0) = true
    · rw [wid_yes ht0]
      exact ⟨rfl, by show _ ≤ xs.getD m 0 + xs.getD (m + 1) 0 + xs.getD (m + 2) 0; omega⟩
    · by_cases e : k = m + 2
      · subst e
        exfalso
        refine ht0 ?_
        have a1 := asc_le h (show m ≤ m + 1 by omega) (by omega)
        have a2 := asc_le h (show m + 1 ≤ m + 2 by omega) (by omega)
        have a3 := asc_le h (show i ≤ j by omega) (by omega)
        have a4 := asc_le h (show j ≤ m + 2 by omega) (by omega)
        unfold triB at ht ⊢
        simp only [Bool.and_eq_true, decide_eq_true_eq] at ht ⊢
        omega
      · rw [wid_no (by simpa using ht0)]
        exact wid_max h (m + 2) (by omega) i j k h1 h2 (by omega) ht
theorem wid_has {xs : List Int} : ∀ K, (wid xs K).2 = true → ∃ i j k, i < j ∧ j < k ∧ k < K ∧ triB (xs.getD i 0) (xs.getD j 0) (xs.getD k 0) = true
  | 0, h => by simp [wid] at h
  | 1, h => by simp [wid] at h
  | 2, h => by simp [wid] at h
  | m + 3, h => by
    by_cases ht0 : triB (xs.getD m 0) (xs.getD (m + 1) 0) (xs.getD (m + 2) 0) = true
    · exact ⟨m, m + 1, m + 2, by omega, by omega, by omega, ht0⟩
    · rw [wid_no (by simpa using ht0)] at h
      obtain ⟨i, j, k, h1, h2, h3, h4⟩ := wid_has (m + 2) h
      exact ⟨i, j, k, h1, h2, by omega, h4⟩
theorem wid_pos {xs : List Int} (h : Asc xs) : (wid xs xs.length).2 = decide (0 < cntT xs) := by
  rw [Bool.eq_iff_iff, decide_eq_true_eq]
  constructor
  · intro hw
    obtain ⟨i, j, k, h1, h2, h3, h4⟩ := wid_has _ hw
    rcases Nat.eq_zero_or_pos (cntT xs) with h0 | h0
    · have := cnt_zero.1 h0 _ ⟨i, j, k, h1, h2, h3, rfl⟩
      unfold triT at this
      rw [h4] at this
      cases this
    · exact h0
  · intro hc
    by_cases hw : (wid xs xs.length).2 = true
    · exact hw
    · exfalso
      have : cntT xs = 0 := cnt_zero.2 fun t ⟨i, j, k, h1, h2, h3, e⟩ => by
        cases ht : triT t with
        | false => rfl
        | true =>
          subst e
          exact absurd (wid_max h _ (Nat.le_refl _) i j k h1 h2 h3 ht).1 hw
      omega
theorem free_fast {xs : List Int} (h : Bundle xs) (h0 : cntT xs = 0) {i : Nat} (hi : i + 2 < xs.length) : xs.getD i 0 + xs.getD (i + 1) 0 ≤ xs.getD (i + 2) 0 := by
  have := cnt_zero.1 h0 _ ⟨i, i + 1, i + 2, by omega, by omega, hi, rfl⟩
  have b0 := h.2.2.1 i (by omega)
  have b1 := h.2.2.1 (i + 1) (by omega)
  have a1 := h.2.2.2 i (by omega)
  have a2 := h.2.2.2 (i + 1) (by omega)
  rw [show i + 1 + 1 = i + 2 by omega] at a2
  by_cases hh : xs.getD i 0 + xs.getD (i + 1) 0 ≤ xs.getD (i + 2) 0
  rotate_left
  · exfalso
    have ht : triT (xs.getD i 0, xs.getD (i + 1) 0, xs.getD (i + 2) 0) = true := by
      unfold triT triB
      simp only [Bool.and_eq_true, decide_eq_true_eq]
      omega
    rw [ht] at this
    cases this
  · exact hh
theorem isortTo_left (xs ys : List Int) : ∀ k, k ≤ xs.length → isortTo (xs ++ ys) k = isortTo xs k
  | 0, _ => rfl
  | k + 1, h => by
    rw [isortTo, isortTo, isortTo_left xs ys k (by omega)]
    congr 1
    rw [List.getD_eq_getElem?_getD, List.getD_eq_getElem?_getD, List.getElem?_append_left (by omega)]
theorem isort_snoc (xs : List Int) (x : Int) : isort (xs ++ [x]) = ins (isort xs) x := by
  unfold isort
  rw [List.length_append, List.length_singleton, isortTo, isortTo_left xs [x] _ (Nat.le_refl _)]
  congr 1
  simp [List.getD_eq_getElem?_getD]
theorem cnt_put {xs : List Int} (h : isort xs = xs) (x : Int) : cntT xs ≤ cntT (isort (xs ++ [x])) := by
  rw [isort_snoc, h]; exact cnt_sub (sub_ins xs x)
theorem sum_put (xs : List Int) (x : Int) : sumL (isort (xs ++ [x])) = sumL xs + x := by
  rw [sumL_perm (perm_isort _), sumL_app]
theorem isort_asc {xs : List Int} (h : Asc xs) : isort xs = xs := by
  have key : ∀ k, k ≤ xs.length → isortTo xs k = xs.take k := by
    intro k
    induction k with
    | zero => intro _; rfl
    | succ k ih =>
      intro hk
      have e : xs.take (k + 1) = xs.take k ++ [xs.getD k 0] := by
        rw [List.take_succ_eq_append_getElem (by omega)]; simp [List.getD_eq_getElem?_getD, show k < xs.length by omega]
      have hl : (xs.take k).length = k := by rw [List.length_take]; omega
      have hp : pos (xs.take k) (xs.getD k 0) = k := by
        unfold pos
        rw [hl]
        cases k with
        | zero => rfl
        | succ m =>
          refine posTo_stop ?_
          have h1 := h m (by omega)
          have e2 : (xs.take (m + 1)).getD m 0 = xs.getD m 0 := by
            rw [List.getD_eq_getElem?_getD, List.getD_eq_getElem?_getD, List.getElem?_take_of_lt (by omega)]
          rw [e2]
          exact h1
      rw [isortTo, ih (by omega), e, ins, hp, List.take_of_length_le (by omega), List.drop_eq_nil_of_le (by omega)]
  have := key _ (Nat.le_refl _)
  rw [List.take_length] at this
  exact this

theorem asc_snoc {xs : List Int} {x : Int} (h : Asc xs) (hx : ∀ y ∈ xs, y ≤ x) : Asc (xs ++ [x]) := by
  intro j hj
  rw [List.length_append, List.length_singleton] at hj
  have e0 : (xs ++ [x]).getD j 0 = xs.getD j 0 := by rw [List.getD_eq_getElem?_getD, List.getD_eq_getElem?_getD, List.getElem?_append_left (by omega)]
  rw [e0]
  by_cases h1 : j + 1 < xs.length
  · have e1 : (xs ++ [x]).getD (j + 1) 0 = xs.getD (j + 1) 0 := by rw [List.getD_eq_getElem?_getD, List.getD_eq_getElem?_getD, List.getElem?_append_left h1]
    rw [e1]; exact h j h1
  · have hl : xs.length = j + 1 := by omega
    have e1 : (xs ++ [x]).getD (j + 1) 0 = x := by rw [List.getD_eq_getElem?_getD, List.getElem?_append_right (by omega), hl]; simp
    rw [e1]; exact hx _ (getD_mem (by omega))
theorem c3_six : ∀ n : Nat, n ≤ 9 → (c3 n : Int) = (n : Int) * ((n : Int) - 1) * ((n : Int) - 2) / 6
  | 0, _ | 1, _ | 2, _ | 3, _ | 4, _ | 5, _ | 6, _ | 7, _ | 8, _ | 9, _ => by decide
end Go.Proofs.Ytiadnbdefcimiaa
