/- Foldings from one place on; the greatest length; bundles put in order; a list reversed in place. Nothing of the program. -/
import Derived.Test.YtogmoljaiapolaaFoldR
import Derived.Test.YtogmoljaiapolaaSortP
namespace Go.Proofs.Ytogmoljaiapolaa
/-- The places that are reached from a place on. -/
def nwF (t b : Int) (xs : List Int) : Nat → Int → Bool
  | 0 => fun p => decide (p = b)
  | i + 1 => nextB t (xs.getD i 0) (nwF t b xs i)
theorem nwF_drop (t b : Int) {xs : List Int} : ∀ i, i ≤ xs.length → nowB t (xs.drop i) (nwF t b xs i) = nowB t xs (fun p => decide (p = b))
  | 0, _ => by rw [List.drop_zero]; rfl
  | i + 1, h => by
    rw [← nwF_drop t b (xs := xs) i (by omega), drop_at (xs := xs) (i := i) (by omega)]
    rfl
theorem nwF_all (t b : Int) (xs : List Int) : nwF t b xs xs.length = nowB t xs (fun p => decide (p = b)) := by
  have := nwF_drop t b (xs := xs) xs.length (Nat.le_refl _)
  rw [List.drop_length] at this
  exact this
theorem nwF_in {t b : Int} {xs : List Int} (hb : 0 ≤ b ∧ b ≤ t) : ∀ i {p : Int}, nwF t b xs i p = true → 0 ≤ p ∧ p ≤ t
  | 0, p, h => by
    have e : p = b := by simpa [nwF] using h
    rw [e]; exact hb
  | _ + 1, _, h => (nextB_iff.1 h).1
theorem nwF_pth {t b : Int} {xs : List Int} (hb : 0 ≤ b ∧ b ≤ t) (q : Int) : nwF t b xs xs.length q = true ↔ pthP t xs b q := by
  rw [nwF_all, now_pth t xs _ (fun p hp => by have e : p = b := by simpa using hp
                                              rw [e]; exact hb)]
  constructor
  · rintro ⟨p, hp, h⟩
    have e : p = b := by simpa using hp
    rw [← e]; exact h
  · intro h; exact ⟨b, by simp, h⟩
/-- Whether a folding that begins at b stays within t. -/
noncomputable def froB (t b : Int) (xs : List Int) : Bool := by classical exact decide (∃ q, pthP t xs b q)
theorem froB_iff {t b : Int} {xs : List Int} : froB t b xs = true ↔ ∃ q, pthP t xs b q := by simp [froB]
theorem fro_span {t : Int} {xs : List Int} : spanL xs ≤ t ↔ ∃ b, 0 ≤ b ∧ b ≤ t ∧ froB t b xs = true := by
  rw [fits_pth]
  constructor
  · rintro ⟨p, q, h⟩
    have := pth_ends h
    exact ⟨p, this.1, this.2, froB_iff.2 ⟨q, h⟩⟩
  · rintro ⟨b, _, _, h⟩
    obtain ⟨q, h⟩ := froB_iff.1 h
    exact ⟨b, q, h⟩
/-- One place in a row of bools. -/
theorem one_laid {N b : Nat} (hb : b < N) : HasL N (fun p => decide (p = (b : Int))) ((List.replicate N false).set b true) := by
  refine ⟨by simp, fun p hp => ?_⟩
  rw [getD_setL _ _ _ _ (by simpa using hb)]
  split
  · rename_i e; subst e; simp
  · rename_i e
    rw [List.getD_eq_getElem?_getD, List.getElem?_replicate, if_pos hp]
    simp only [Option.getD_some]
    symm
    rw [decide_eq_false_iff_not]
    omega

/-- A list, of which the first k places and the last k ones are exchanged. -/
def RevAt (xs : List Int) (k : Nat) (ys : List Int) : Prop := ys.length = xs.length ∧ ∀ p, p < xs.length → ys.getD p 0 = if p < k ∨ xs.length ≤ p + k then xs.getD (xs.length - 1 - p) 0 else xs.getD p 0
theorem rev_zero (xs : List Int) : RevAt xs 0 xs := ⟨rfl, fun p hp => by rw [if_neg (by omega)]⟩
theorem rev_lo {xs ys : List Int} {k : Nat} (h : RevAt xs k ys) (hk : k + k + 1 ≤ xs.length) : ys.getD k 0 = xs.getD k 0 := by rw [h.2 k (by omega), if_neg (by omega)]
theorem rev_hi {xs ys : List Int} {k j : Nat} (h : RevAt xs k ys) (hk : k + k + 1 ≤ xs.length) (hj : j + k + 1 = xs.length) : ys.getD j 0 = xs.getD j 0 := by rw [h.2 j (by omega), if_neg (by omega)]
theorem rev_step {xs ys : List Int} {k j : Nat} {a b : Int} (h : RevAt xs k ys) (hj : j + k + 1 = xs.length) (hkj : k < j) (ha : a = xs.getD k 0) (hb : b = xs.getD j 0) : RevAt xs (k + 1) ((ys.set k b).set j a) := by
  refine ⟨by simp [h.1], fun p hp => ?_⟩
  rw [List.getD_eq_getElem?_getD, List.getElem?_set, List.getElem?_set]
  by_cases e1 : j = p
  · subst e1
    rw [if_pos rfl, if_pos (by rw [List.length_set, h.1]; omega), if_pos (by omega), ha, show xs.length - 1 - j = k by omega]
    rfl
  · rw [if_neg e1]
    by_cases e2 : k = p
    · subst e2
      rw [if_pos rfl, if_pos (by rw [h.1]; omega), if_pos (by omega), hb, show xs.length - 1 - k = j by omega]
      rfl
    · rw [if_neg e2, ← List.getD_eq_getElem?_getD, h.2 p hp]
      by_cases e3 : p < k ∨ xs.length ≤ p + k
      · rw [if_pos e3, if_pos (by omega)]
      · rw [if_neg e3, if_neg (by omega)]
theorem rev_done {xs ys : List Int} {k : Nat} (h : RevAt xs k ys) (hk : xs.length ≤ k + k + 1) : ys = xs.reverse := by
  refine ext_getD (by rw [h.1, List.length_reverse]) fun p hp => ?_
  rw [h.1] at hp
  rw [h.2 p hp]
  have hr : xs.reverse.getD p 0 = xs.getD (xs.length - 1 - p) 0 := by
    rw [List.getD_eq_getElem?_getD, List.getElem?_reverse hp, List.getD_eq_getElem?_getD]
  rw [hr]
  by_cases e3 : p < k ∨ xs.length ≤ p + k
  · rw [if_pos e3]
  · rw [if_neg e3]
    congr 1; omega
end Go.Proofs.Ytogmoljaiapolaa
