/- Foldings of rulers, stick by stick; the places at the end. Nothing of the program. -/
import Derived.Test.YtogmoljaiapolaaFoldP
namespace Go.Proofs.Ytogmoljaiapolaa
/-! Stick by stick -/
def plT (xs : List Int) (s : Nat) : Nat → Int
  | 0 => 0
  | i + 1 => plT xs s i + stepS (xs.getD i 0) (xs.length - 1 - i) s
def loT (xs : List Int) (s : Nat) : Nat → Int
  | 0 => 0
  | i + 1 => min (loT xs s i) (plT xs s (i + 1))
def hiT (xs : List Int) (s : Nat) : Nat → Int
  | 0 => 0
  | i + 1 => max (hiT xs s i) (plT xs s (i + 1))
theorem drop_at {xs : List Int} {i : Nat} (h : i < xs.length) : xs.drop i = xs.getD i 0 :: xs.drop (i + 1) := by
  rw [List.drop_eq_getElem_cons h, List.getD_eq_getElem?_getD, List.getElem?_eq_getElem h]
  rfl
theorem fold_split {xs : List Int} {s : Nat} : ∀ i, i ≤ xs.length → plc xs s = plT xs s i + plc (xs.drop i) s ∧ loP xs s = min (loT xs s i) (plT xs s i + loP (xs.drop i) s) ∧ hiP xs s = max (hiT xs s i) (plT xs s i + hiP (xs.drop i) s) ∧ loT xs s i ≤ plT xs s i ∧ plT xs s i ≤ hiT xs s i
  | 0, _ => by
    have g1 := loP_le xs s
    have g2 := hiP_ge xs s
    simp only [plT, loT, hiT, List.drop_zero]
    omega
  | i + 1, h => by
    obtain ⟨h1, h2, h3, h4, h5⟩ := fold_split (xs := xs) (s := s) i (by omega)
    have e := drop_at (xs := xs) (i := i) (by omega)
    have hl : (xs.drop (i + 1)).length = xs.length - 1 - i := by rw [List.length_drop]; omega
    rw [e] at h1 h2 h3
    simp only [plc, loP, hiP, hl] at h1 h2 h3
    have g1 := loP_le (xs.drop (i + 1)) s
    have g2 := hiP_ge (xs.drop (i + 1)) s
    simp only [plT, loT, hiT]
    omega
theorem fold_all {xs : List Int} {s : Nat} : plT xs s xs.length = plc xs s ∧ loT xs s xs.length = loP xs s ∧ hiT xs s xs.length = hiP xs s := by
  obtain ⟨h1, h2, h3, h4, h5⟩ := fold_split (xs := xs) (s := s) xs.length (Nat.le_refl _)
  rw [List.drop_length] at h1 h2 h3
  simp only [plc, loP, hiP] at h1 h2 h3
  omega
theorem fold_bd {xs : List Int} {s : Nat} (h : ∀ j, j < xs.length → 1 ≤ xs.getD j 0 ∧ xs.getD j 0 ≤ 60) : ∀ i, i ≤ xs.length → -(60 * (i : Int)) ≤ plT xs s i ∧ plT xs s i ≤ 60 * i ∧ -(60 * (i : Int)) ≤ loT xs s i ∧ loT xs s i ≤ 0 ∧ 0 ≤ hiT xs s i ∧ hiT xs s i ≤ 60 * i
  | 0, _ => by simp [plT, loT, hiT]
  | i + 1, hi => by
    have h1 := h i (by omega)
    have h2 := fold_bd (s := s) h i (by omega)
    have h3 : stepS (xs.getD i 0) (xs.length - 1 - i) s = xs.getD i 0 ∨ stepS (xs.getD i 0) (xs.length - 1 - i) s = -xs.getD i 0 := by
      unfold stepS
      split
      · exact .inr rfl
      · exact .inl rfl
    simp only [plT, loT, hiT]
    omega

/-! The places at the end -/
def endsTo (xs : List Int) : Nat → List Int
  | 0 => []
  | k + 1 => if 0 < wayN xs (k : Int) then endsTo xs k ++ [(k : Int)] else endsTo xs k
def endsL (xs : List Int) : List Int := endsTo xs (xs.sum.toNat + 1)
theorem endsTo_mem {xs : List Int} {p : Int} : ∀ k, p ∈ endsTo xs k ↔ (0 ≤ p ∧ p < k) ∧ 0 < wayN xs p
  | 0 => by
    simp only [endsTo, List.not_mem_nil, false_iff]
    omega
  | k + 1 => by
    rw [endsTo]
    split
    · rename_i h
      rw [List.mem_append, endsTo_mem k, List.mem_singleton]
      constructor
      · rintro (⟨h1, h2⟩ | h1)
        · exact ⟨by omega, h2⟩
        · subst h1; exact ⟨by omega, h⟩
      · rintro ⟨h1, h2⟩
        by_cases e : p = k
        · exact .inr e
        · exact .inl ⟨by omega, h2⟩
    · rename_i h
      rw [endsTo_mem k]
      constructor
      · rintro ⟨h1, h2⟩; exact ⟨by omega, h2⟩
      · rintro ⟨h1, h2⟩
        by_cases e : p = k
        · subst e; exact absurd h2 h
        · exact ⟨by omega, h2⟩
theorem endsTo_asc (xs : List Int) : ∀ k, (endsTo xs k).Pairwise (· < ·)
  | 0 => List.Pairwise.nil
  | k + 1 => by
    rw [endsTo]
    split
    · rw [List.pairwise_append]
      refine ⟨endsTo_asc xs k, List.pairwise_singleton _ _, fun a ha b hb => ?_⟩
      rw [List.mem_singleton.1 hb]
      have := ((endsTo_mem k).1 ha).1
      omega
    · exact endsTo_asc xs k
theorem ends_last {xs : List Int} (h : Len1 xs) : endsL xs = endsTo xs xs.sum.toNat ++ [xs.sum] := by
  have h1 := (way_far xs _ h (way_sum xs))
  have e : ((xs.sum.toNat : Nat) : Int) = xs.sum := by omega
  unfold endsL
  rw [endsTo, e, if_pos (way_sum xs)]
theorem ends_mem {xs : List Int} (h : Len1 xs) {p : Int} : p ∈ endsL xs ↔ 0 ≤ p ∧ 0 < wayN xs p := by
  unfold endsL
  rw [endsTo_mem]
  constructor
  · rintro ⟨h1, h2⟩; exact ⟨h1.1, h2⟩
  · rintro ⟨h1, h2⟩
    have := way_far xs p h h2
    exact ⟨by omega, h2⟩
theorem ends_back (xs : List Int) : endsL xs.reverse = endsL xs := by
  have e : ∀ k, endsTo xs.reverse k = endsTo xs k := fun k => by
    induction k with
    | zero => rfl
    | succ k ih => rw [endsTo, endsTo, ih, way_back]
  unfold endsL
  rw [e, List.sum_reverse]
theorem getD_memQ {l : List Int} {i : Nat} (h : i < l.length) : l.getD i 0 ∈ l := by
  rw [List.getD_eq_getElem?_getD, List.getElem?_eq_getElem h]
  exact List.getElem_mem h
theorem asc_getD {l : List Int} (h : l.Pairwise (· < ·)) {i j : Nat} (hij : i < j) (hj : j < l.length) : l.getD i 0 < l.getD j 0 := by
  rw [List.getD_eq_getElem?_getD, List.getD_eq_getElem?_getD, List.getElem?_eq_getElem hj, List.getElem?_eq_getElem (show i < l.length by omega)]
  exact List.pairwise_iff_getElem.1 h i j (by omega) hj hij
/-- What is held of the places at the end, one by one. -/
theorem ends_at {xs : List Int} (h : Len1 xs) {i : Nat} (hi : i < (endsL xs).length) : 0 ≤ (endsL xs).getD i 0 ∧ (xs.sum - (endsL xs).getD i 0) % 2 = 0 ∧ (endsL xs).getD i 0 ≤ xs.sum := by
  have hm := (ends_mem h).1 (getD_memQ hi)
  have := way_far xs _ h hm.2
  exact ⟨hm.1, way_odd xs _ hm.2, this.1⟩
theorem ends_up {xs : List Int} {i : Nat} (h0 : 0 < i) (hi : i < (endsL xs).length) : (endsL xs).getD (i - 1) 0 < (endsL xs).getD i 0 := asc_getD (endsTo_asc xs _) (by omega) hi
theorem ends_len {xs : List Int} (h : Len1 xs) : 1 ≤ (endsL xs).length ∧ (endsL xs).getD ((endsL xs).length - 1) 0 = xs.sum := by
  rw [ends_last h, List.length_append, List.length_singleton, Nat.add_sub_cancel, List.getD_eq_getElem?_getD, List.getElem?_append_right (Nat.le_refl _), Nat.sub_self]
  exact ⟨by omega, rfl⟩
/-- The least of them. -/
def nearL (xs : List Int) : Int := (endsL xs).getD 0 0
theorem near_is {xs : List Int} (h : Len1 xs) : 0 ≤ nearL xs ∧ 0 < wayN xs (nearL xs) ∧ ∀ p, 0 ≤ p → 0 < wayN xs p → nearL xs ≤ p := by
  have hl := (ends_len h).1
  have hm := (ends_mem h).1 (getD_memQ (show 0 < (endsL xs).length by omega))
  refine ⟨hm.1, hm.2, fun p h0 hp => ?_⟩
  have hp' := (ends_mem h).2 ⟨h0, hp⟩
  obtain ⟨j, hj, e⟩ := List.getElem_of_mem hp'
  have e' : (endsL xs).getD j 0 = p := by rw [List.getD_eq_getElem?_getD, List.getElem?_eq_getElem hj]; exact e
  by_cases hj0 : j = 0
  · subst hj0; unfold nearL; omega
  · have := asc_getD (endsTo_asc xs (xs.sum.toNat + 1)) (show 0 < j by omega) hj
    unfold nearL
    have h2 : (endsL xs).getD 0 0 < (endsL xs).getD j 0 := this
    omega
theorem near_le {xs : List Int} (h : Len1 xs) {m : Int} (hm0 : 0 ≤ m) (hm : ∀ x, x ∈ xs → x ≤ m) : nearL xs ≤ m := by
  obtain ⟨p, h1, h2, h3⟩ := way_near xs m 0 (fun x hx => ⟨(h x hx).1, hm x hx⟩) (by omega) (by omega)
  by_cases h0 : 0 ≤ p
  · have := (near_is h).2.2 p h0 h1; omega
  · have := (near_is h).2.2 (-p) (by omega) (by rw [way_neg]; exact h1)
    omega
theorem near_zero {xs : List Int} (h : Len1 xs) : nearL xs = 0 ↔ 0 < wayN xs 0 := by
  obtain ⟨h1, h2, h3⟩ := near_is h
  constructor
  · intro e; rw [← e]; exact h2
  · intro h0
    have := h3 0 (by omega) h0
    omega
theorem near_back (xs : List Int) : nearL xs.reverse = nearL xs := by unfold nearL; rw [ends_back]
/-! The greatest length; greedy foldings and backward rulers, stick by stick -/
def mxTo (xs : List Int) : Nat → Int
  | 0 => 0
  | k + 1 => max (mxTo xs k) (xs.getD k 0)
def mxL (xs : List Int) : Int := mxTo xs xs.length
theorem mxTo_ge {xs : List Int} : ∀ k j, j < k → xs.getD j 0 ≤ mxTo xs k
  | 0, j, h => by omega
  | k + 1, j, h => by
    rw [mxTo]
    by_cases e : j = k
    · subst e; omega
    · have := mxTo_ge (xs := xs) k j (by omega)
      omega
theorem mxTo_bd {xs : List Int} (h : ∀ j, j < xs.length → 1 ≤ xs.getD j 0 ∧ xs.getD j 0 ≤ 60) : ∀ k, k ≤ xs.length → 0 ≤ mxTo xs k ∧ mxTo xs k ≤ 60 ∧ (1 ≤ k → 1 ≤ mxTo xs k)
  | 0, _ => by simp [mxTo]
  | k + 1, hk => by
    have h1 := h k (by omega)
    have h2 := mxTo_bd h k (by omega)
    rw [mxTo]
    omega
theorem mx_mem {xs : List Int} {x : Int} (h : x ∈ xs) : x ≤ mxL xs := by
  obtain ⟨j, hj, e⟩ := List.getElem_of_mem h
  have := mxTo_ge (xs := xs) xs.length j hj
  rw [List.getD_eq_getElem?_getD, List.getElem?_eq_getElem hj] at this
  simp only [Option.getD_some, e] at this
  exact this
theorem mxTo_in {xs : List Int} : ∀ k, 1 ≤ k → k ≤ xs.length → (∀ j, j < k → 1 ≤ xs.getD j 0) → mxTo xs k ∈ xs
  | 0, h, _, _ => by omega
  | k + 1, _, hk, hp => by
    rw [mxTo]
    have hm := getD_memQ (l := xs) (i := k) (by omega)
    by_cases h0 : k = 0
    · subst h0
      have := hp 0 (by omega)
      rw [mxTo, show max 0 (xs.getD 0 0) = xs.getD 0 0 by omega]
      exact hm
    · have ih := mxTo_in (xs := xs) k (by omega) (by omega) (fun j hj => hp j (by omega))
      rcases (show max (mxTo xs k) (xs.getD k 0) = mxTo xs k ∨ max (mxTo xs k) (xs.getD k 0) = xs.getD k 0 by omega) with e | e <;> rw [e]
      · exact ih
      · exact hm
theorem grd_yes {m : Int} {xs : List Int} {k : Nat} {a lo hi : Int} (hk : k < xs.length) (h : a + xs.getD k 0 ≤ m) : grdT m (xs.drop k) (a, lo, hi) = grdT m (xs.drop (k + 1)) (a + xs.getD k 0, min lo (a + xs.getD k 0), max hi (a + xs.getD k 0)) := by
  rw [drop_at hk]
  simp only [grdT, if_pos h]
theorem grd_no {m : Int} {xs : List Int} {k : Nat} {a lo hi : Int} (hk : k < xs.length) (h : ¬ a + xs.getD k 0 ≤ m) : grdT m (xs.drop k) (a, lo, hi) = grdT m (xs.drop (k + 1)) (a - xs.getD k 0, min lo (a - xs.getD k 0), max hi (a - xs.getD k 0)) := by
  rw [drop_at hk]
  simp only [grdT, if_neg h]
theorem back_step {xs : List Int} {k : Nat} (hk : k < xs.length) : (xs.drop (k + 1)).reverse ++ [xs.getD k 0] = (xs.drop k).reverse := by
  rw [drop_at hk, List.reverse_cons]
theorem cntF_yes {f : Nat → Bool} {k : Nat} (h : f k = true) : cntF f (k + 1) = cntF f k + 1 := by rw [cntF, if_pos h]
theorem cntF_no {f : Nat → Bool} {k : Nat} (h : f k = false) : cntF f (k + 1) = cntF f k := by rw [cntF, h]; rfl
theorem cntF_le {f : Nat → Bool} : ∀ k, cntF f k ≤ k
  | 0 => Nat.le_refl _
  | k + 1 => by
    rw [cntF]
    have := cntF_le (f := f) k
    split <;> omega
theorem leT_yes {xs : List Int} {k : Nat} (h : k = 0 ∨ rngP xs k < (leT xs k).1) : leT xs (k + 1) = (rngP xs k, k) := by rw [leT, if_pos h]
theorem leT_no {xs : List Int} {k : Nat} (h : ¬ (k = 0 ∨ rngP xs k < (leT xs k).1)) : leT xs (k + 1) = leT xs k := by rw [leT, if_neg h]
end Go.Proofs.Ytogmoljaiapolaa
