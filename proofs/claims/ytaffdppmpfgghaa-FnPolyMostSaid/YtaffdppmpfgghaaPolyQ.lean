/- What bundles that close are; the most sticks that close; one stick more. Nothing of the program. -/
import Derived.Test.YtaffdppmpfgghaaPolyP
namespace Go.Proofs.Ytaffdppmpfgghaa
/-! What the bundles of a sum are -/
theorem shF_fuel : ∀ f n p, n + p < f → shF (f + 1) n p = shF f n p
  | 0, _, _, h => by omega
  | f + 1, n, p, h => by
    by_cases hn : n = 0
    · subst hn; rw [shF_end, shF_end]
    · by_cases hp : p < n
      · rw [shF_none (by omega) hp, shF_none (by omega) hp]
      · rw [shF_step (f := f + 1) (n := n) (p := p) (by omega) (by omega), shF_step (f := f) (n := n) (p := p) (by omega) (by omega), shF_fuel f (n - 1) (p - 1) (by omega), shF_fuel f n (p - n) (by omega)]
theorem shr_step {n p : Nat} (h1 : 0 < n) (h2 : n ≤ p) (h6 : n ≤ 6) (h30 : p ≤ 30) : shr n p = shr (n - 1) (p - 1) + shr n (p - n) := by
  unfold shr
  rw [shF_step (f := 39) h1 h2, ← shF_fuel 39 (n - 1) (p - 1) (by omega), ← shF_fuel 39 n (p - n) (by omega)]
theorem sumL_cons (v : Int) (r : List Int) : sumL (v :: r) = v + sumL r := by
  have h1 := sumL_app r v
  have h2 := sumL_perm (List.perm_append_comm (l₁ := r) (l₂ := [v]))
  have e : [v] ++ r = v :: r := rfl
  rw [e] at h2
  omega
theorem sumL_nil : sumL [] = 0 := rfl
theorem lst_mem : ∀ s p x, ∀ r ∈ lst s p x, sumL r = p ∧ (∀ y ∈ r, (x : Int) ≤ y ∧ y ≤ p) ∧ Asc r
  | 0, p, x, r, h => by
    rw [lst] at h
    split at h
    · rename_i hp
      simp at h; subst h
      exact ⟨by rw [hp]; rfl, by simp, fun j hj => absurd hj (by simp)⟩
    · simp at h
  | s + 1, p, x, r, h => by
    rw [lst, List.mem_flatMap] at h
    obtain ⟨k, hk, h⟩ := h
    rw [List.mem_map] at h
    obtain ⟨r', h', rfl⟩ := h
    have hk := List.mem_range.1 hk
    have hd : p / (s + 1) ≤ p := Nat.div_le_self _ _
    obtain ⟨q1, q2, q3⟩ := lst_mem s _ _ r' h'
    refine ⟨by rw [sumL_cons, q1]; omega, fun y hy => ?_, ?_⟩
    · rcases List.mem_cons.1 hy with rfl | hy
      · omega
      · have := q2 y hy; omega
    · intro j hj
      cases j with
      | zero =>
        have hj' : 0 < r'.length := by simpa using hj
        have := (q2 _ (getD_mem hj')).1
        simpa using this
      | succ j => exact q3 j (by simpa using hj)
theorem first_is {n p : Nat} (h1 : 3 ≤ n) (h2 : n ≤ 6) (h4 : p ≤ 30) {r : List Int} (h : polF n p = some r) : r.length = n ∧ sumL r = p ∧ closB r = true ∧ Bundle r ∧ 1 ≤ polN n p := by
  unfold polF at h
  have hm := List.mem_of_mem_head? h
  rw [List.mem_filter] at hm
  obtain ⟨q1, q2, q3⟩ := lst_mem _ _ _ r hm.1
  have q0 := lst_len _ _ _ r hm.1
  refine ⟨q0, q1, hm.2, ⟨by omega, by omega, fun j hj => ?_, q3⟩, ?_⟩
  · have := q2 _ (getD_mem hj); omega
  · unfold polN
    exact List.length_pos_of_mem (List.mem_filter.2 hm)
theorem first_none {n p : Nat} (h : polF n p = none) : polN n p = 0 := by
  unfold polF at h
  rw [List.head?_eq_none_iff] at h
  unfold polN; rw [h]; rfl
def polB (n p : Nat) : Bool := (polF n p).isSome
def polL (n p : Nat) : List Int := (polF n p).getD []

/-! The most sticks that close -/
def mostTo (xs : List Int) : Nat → Nat
  | 0 => 0
  | k + 1 => if 2 ≤ k ∧ closB (xs.take (k + 1)) = true then k + 1 else mostTo xs k
def mostL (xs : List Int) : Nat := mostTo xs xs.length
theorem mostTo_low {xs : List Int} : ∀ k, k ≤ 2 → mostTo xs k = 0
  | 0, _ => rfl
  | k + 1, h => by rw [mostTo, if_neg (by omega), mostTo_low k (by omega)]
theorem mostTo_yes {xs : List Int} {k : Nat} (h : 3 ≤ k) (hc : closB (xs.take k) = true) : mostTo xs k = k := by
  obtain ⟨m, rfl⟩ : ∃ m, k = m + 1 := ⟨k - 1, by omega⟩
  rw [mostTo, if_pos ⟨by omega, hc⟩]
theorem mostTo_no {xs : List Int} {k : Nat} (h : 3 ≤ k) (hc : closB (xs.take k) = false) : mostTo xs k = mostTo xs (k - 1) := by
  obtain ⟨m, rfl⟩ : ∃ m, k = m + 1 := ⟨k - 1, by omega⟩
  rw [mostTo, if_neg (by rw [hc]; simp)]; rfl
theorem mostTo_is {xs : List Int} : ∀ k, mostTo xs k = 0 ∨ 3 ≤ mostTo xs k ∧ mostTo xs k ≤ k ∧ closB (xs.take (mostTo xs k)) = true
  | 0 => .inl rfl
  | k + 1 => by
    rw [mostTo]
    split
    · rename_i h; exact .inr ⟨by omega, Nat.le_refl _, h.2⟩
    · rcases mostTo_is (xs := xs) k with h | h
      · exact .inl h
      · exact .inr ⟨h.1, by omega, h.2.2⟩
theorem mostTo_ge {xs : List Int} {j : Nat} (h3 : 3 ≤ j) (hc : closB (xs.take j) = true) : ∀ k, j ≤ k → j ≤ mostTo xs k
  | 0, h => by omega
  | k + 1, h => by
    rw [mostTo]
    split
    · omega
    · rename_i hn
      by_cases e : j = k + 1
      · subst e; exact absurd ⟨by omega, hc⟩ hn
      · exact mostTo_ge h3 hc k (by omega)
theorem most_all {xs : List Int} (h : 1 ≤ xs.length) : decide (mostL xs = xs.length) = closB xs := by
  unfold mostL
  cases hc : closB xs with
  | true =>
    have h3 : 3 ≤ xs.length := by unfold closB at hc; simp at hc; exact hc.1
    rw [mostTo_yes h3 (by rw [List.take_length]; exact hc)]; simp
  | false =>
    rw [decide_eq_false_iff_not]
    intro e
    rcases mostTo_is (xs := xs) xs.length with h0 | ⟨_, _, hh⟩
    · omega
    · rw [e, List.take_length, hc] at hh; cases hh
theorem sumTo_mono {xs : List Int} (h : ∀ j, j < xs.length → 0 ≤ xs.getD j 0) {i j : Nat} (hij : i ≤ j) (hj : j ≤ xs.length) : sumTo xs i ≤ sumTo xs j := by
  induction j with
  | zero => obtain rfl : i = 0 := by omega
            exact Int.le_refl _
  | succ j ih =>
    by_cases e : i = j + 1
    · subst e; exact Int.le_refl _
    · have h1 := ih (by omega) (by omega)
      have h2 := h j (by omega)
      rw [sumTo]; omega
theorem getD_take {xs : List Int} {n j : Nat} (h : j < n) : (xs.take n).getD j 0 = xs.getD j 0 := by
  simp [List.getD_eq_getElem?_getD, h]
theorem sumTo_take {xs : List Int} {n : Nat} : ∀ k, k ≤ n → sumTo (xs.take n) k = sumTo xs k
  | 0, _ => rfl
  | k + 1, h => by rw [sumTo, sumTo, sumTo_take k (by omega), getD_take (by omega)]
theorem sumL_take {xs : List Int} {n : Nat} (h : n ≤ xs.length) : sumL (xs.take n) = sumTo xs n := by
  unfold sumL
  rw [List.length_take, Nat.min_eq_left h, sumTo_take n (Nat.le_refl _)]
theorem gap_take {xs : List Int} {n : Nat} (h1 : 1 ≤ n) (h : n ≤ xs.length) : gapL (xs.take n) = sumTo xs n - 2 * xs.getD (n - 1) 0 := by
  unfold gapL
  rw [sumL_take h, List.length_take, Nat.min_eq_left h, getD_take (by omega)]
/-- Three sides of a triangle: the sticks up to the greatest of them close. -/
theorem tri_close {xs : List Int} (hb : Bundle xs) (h : cntT xs ≠ 0) : 3 ≤ mostL xs := by
  by_cases hx : ∃ t, Memb xs t ∧ triT t = true
  rotate_left
  · exfalso
    refine h (cnt_zero.2 fun t ht => ?_)
    cases e : triT t with
    | false => rfl
    | true => exact absurd ⟨t, ht, e⟩ hx
  obtain ⟨t, ⟨i, j, k, h1, h2, h3, rfl⟩, ht⟩ := hx
  unfold triT triB at ht
  simp only [Bool.and_eq_true, decide_eq_true_eq] at ht
  have hp : ∀ j, j < xs.length → 0 ≤ xs.getD j 0 := fun j hj => by have := hb.2.2.1 j hj; omega
  have s1 := sumTo_mono hp (show i + 1 ≤ j by omega) (by omega)
  have s2 := sumTo_mono hp (show j + 1 ≤ k by omega) (by omega)
  have s3 : 0 ≤ sumTo xs i := sumTo_mono hp (Nat.zero_le i) (by omega)
  have hc : closB (xs.take (k + 1)) = true := by
    unfold closB
    rw [gap_take (by omega) (by omega), List.length_take, Nat.min_eq_left (by omega), Nat.add_sub_cancel]
    have e1 : sumTo xs (i + 1) = sumTo xs i + xs.getD i 0 := rfl
    have e2 : sumTo xs (j + 1) = sumTo xs j + xs.getD j 0 := rfl
    have e3 : sumTo xs (k + 1) = sumTo xs k + xs.getD k 0 := rfl
    rw [Bool.and_eq_true, decide_eq_true_eq, decide_eq_true_eq]
    omega
  have := mostTo_ge (by omega) hc xs.length (by omega)
  unfold mostL; omega
theorem bundle_take {xs : List Int} (hb : Bundle xs) {n : Nat} (h1 : 1 ≤ n) (h2 : n ≤ xs.length) : Bundle (xs.take n) := by
  have hl : (xs.take n).length = n := by simp; omega
  have := hb.2.1
  refine ⟨by omega, by omega, fun j hj => ?_, fun j hj => ?_⟩
  · rw [hl] at hj; rw [getD_take hj]; exact hb.2.2.1 j (by omega)
  · rw [hl] at hj; rw [getD_take (by omega), getD_take hj]; exact hb.2.2.2 j (by omega)

/-! One stick more -/
theorem asc_last {xs : List Int} (h : Asc xs) {y : Int} (hy : y ∈ xs) : y ≤ xs.getD (xs.length - 1) 0 := by
  obtain ⟨j, hj, rfl⟩ := mem_getD hy
  exact asc_le h (by omega) (by omega)
theorem gap_put {xs : List Int} (hb : Bundle xs) {x : Int} (hx : x ≤ xs.getD (xs.length - 1) 0) : gapL (isort (xs ++ [x])) = gapL xs + x := by
  have hl : (isort (xs ++ [x])).length = xs.length + 1 := by rw [length_isort]; simp
  have h1 := hb.1
  unfold gapL
  rw [sum_put, hl, Nat.add_sub_cancel]
  have e : (isort (xs ++ [x])).getD xs.length 0 = xs.getD (xs.length - 1) 0 := by
    refine Int.le_antisymm ?_ ?_
    · have hm := (perm_isort (xs ++ [x])).mem_iff.1 (getD_mem (xs := isort (xs ++ [x])) (j := xs.length) (by omega))
      rcases List.mem_append.1 hm with hm | hm
      · exact asc_last hb.2.2.2 hm
      · rw [List.mem_singleton.1 hm]; exact hx
    · have hm := (perm_isort (xs ++ [x])).mem_iff.2 (List.mem_append_left _ (getD_mem (xs := xs) (j := xs.length - 1) (by omega)))
      have := asc_last (asc_isort _) hm
      rwa [hl, Nat.add_sub_cancel] at this
  rw [e]; omega
theorem clos_put {xs : List Int} (hb : Bundle xs) {x : Int} (hx : x ≤ xs.getD (xs.length - 1) 0) : closB (isort (xs ++ [x])) = (decide (2 ≤ xs.length) && decide (0 < gapL xs + x)) := by
  unfold closB
  rw [gap_put hb hx, length_isort, List.length_append, List.length_singleton]
  congr 1
  exact decide_eq_decide.2 (by omega)
def fixL (xs : List Int) : Int := max 1 (1 - gapL xs)
theorem last_in {xs : List Int} (hb : Bundle xs) : 1 ≤ xs.getD (xs.length - 1) 0 ∧ xs.getD (xs.length - 1) 0 ≤ 60 := hb.2.2.1 _ (by have := hb.1; omega)
theorem gap_bd {xs : List Int} (hb : Bundle xs) : sumL xs ≤ 540 ∧ xs.getD (xs.length - 1) 0 ≤ sumL xs ∧ (2 ≤ xs.length → xs.getD (xs.length - 1) 0 + 1 ≤ sumL xs) := by
  have hp : ∀ j, j < xs.length → 0 ≤ xs.getD j 0 := fun j hj => by have := hb.2.2.1 j hj; omega
  have h1 := hb.1
  have h9 := hb.2.1
  have hs : Small 60 xs := fun j hj => by have := hb.2.2.1 j hj; omega
  have hbd := sumTo_bd hs xs.length (Nat.le_refl _)
  have e : sumL xs = sumTo xs (xs.length - 1) + xs.getD (xs.length - 1) 0 := by
    unfold sumL
    obtain ⟨m, hm⟩ : ∃ m, xs.length = m + 1 := ⟨xs.length - 1, by omega⟩
    rw [hm, sumTo]; rfl
  have h0 : 0 ≤ sumTo xs (xs.length - 1) := sumTo_mono hp (Nat.zero_le _) (by omega)
  refine ⟨by unfold sumL; omega, by omega, fun h2 => ?_⟩
  have h3 := sumTo_mono hp (show 1 ≤ xs.length - 1 by omega) (by omega)
  have h4 := hb.2.2.1 0 (by omega)
  simp only [sumTo] at h3
  omega
theorem fix_bd {xs : List Int} (hb : Bundle xs) (h2 : 2 ≤ xs.length) : 1 ≤ fixL xs ∧ fixL xs ≤ xs.getD (xs.length - 1) 0 ∧ 0 < gapL xs + fixL xs ∧ (fixL xs = 1 ∨ gapL xs + fixL xs = 1) := by
  have h := gap_bd hb
  have hl := last_in hb
  unfold fixL gapL
  have := h.2.2 h2
  omega
end Go.Proofs.Ytaffdppmpfgghaa
