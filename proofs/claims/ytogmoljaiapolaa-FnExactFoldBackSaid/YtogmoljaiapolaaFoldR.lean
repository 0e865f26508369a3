/- Places within a span, in a row of bools. Nothing of the program. -/
import Derived.Test.YtogmoljaiapolaaFoldQ
namespace Go.Proofs.Ytogmoljaiapolaa
/-! Places within a span, stick by stick, in a row of bools -/
def nwT (t : Int) (xs : List Int) : Nat → Int → Bool
  | 0 => onT t
  | i + 1 => nextB t (xs.getD i 0) (nwT t xs i)
theorem nw_drop (t : Int) {xs : List Int} : ∀ i, i ≤ xs.length → nowB t (xs.drop i) (nwT t xs i) = nowB t xs (onT t)
  | 0, _ => by rw [List.drop_zero]; rfl
  | i + 1, h => by
    rw [← nw_drop t (xs := xs) i (by omega), drop_at (xs := xs) (i := i) (by omega)]
    rfl
theorem nw_all (t : Int) (xs : List Int) : nwT t xs xs.length = nowB t xs (onT t) := by
  have := nw_drop t (xs := xs) xs.length (Nat.le_refl _)
  rw [List.drop_length] at this
  exact this
theorem nw_in {t : Int} {xs : List Int} : ∀ i {p : Int}, nwT t xs i p = true → 0 ≤ p ∧ p ≤ t
  | 0, _, h => onT_iff.1 h
  | _ + 1, _, h => (nextB_iff.1 h).1
theorem nw_fits {t : Int} {xs : List Int} : (∃ y, nwT t xs xs.length y = true) ↔ spanL xs ≤ t := by
  rw [nw_all]
  exact fits_iff
/-- A row of bools holds a set of places. -/
def HasL (N : Nat) (S : Int → Bool) (bs : List Bool) : Prop := bs.length = N ∧ ∀ p : Nat, p < N → bs.getD p false = S (p : Int)
theorem getD_setL (bs : List Bool) (k j : Nat) (u : Bool) (hk : k < bs.length) : (bs.set k u).getD j false = if j = k then u else bs.getD j false := by
  by_cases h : j = k
  · subst h; simp [hk]
  · simp [h, Ne.symm h, List.getD_eq_getElem?_getD]
/-- The first k places are laid. -/
def firB (k : Nat) (p : Int) : Bool := decide (p < (k : Int))
theorem fir_zero (N : Nat) : HasL N (firB 0) (List.replicate N false) := by
  refine ⟨by simp, fun p hp => ?_⟩
  rw [List.getD_eq_getElem?_getD, List.getElem?_replicate, if_pos hp]
  unfold firB
  simp
theorem fir_step {N k : Nat} {bs : List Bool} (h : HasL N (firB k) bs) (hk : k < N) : HasL N (firB (k + 1)) (bs.set k true) := by
  refine ⟨by rw [List.length_set]; exact h.1, fun p hp => ?_⟩
  rw [getD_setL _ _ _ _ (by rw [h.1]; exact hk)]
  split
  · rename_i e; subst e; unfold firB; simp; omega
  · rename_i e
    rw [h.2 p hp]
    unfold firB
    rw [Bool.eq_iff_iff, decide_eq_true_iff, decide_eq_true_iff]
    omega
theorem fir_all {N t : Nat} {bs : List Bool} (hN : N = t + 1) (h : HasL N (firB N) bs) : HasL N (onT t) bs := by
  refine ⟨h.1, fun p hp => ?_⟩
  rw [h.2 p hp]
  unfold firB onT
  rw [Bool.eq_iff_iff, Bool.and_eq_true, decide_eq_true_iff, decide_eq_true_iff, decide_eq_true_iff]
  omega
/-- What the first x places of a set lead to. -/
def midB (S : Int → Bool) (a : Int) (x : Nat) (p : Int) : Bool := (S (p - a) && decide (p - a < (x : Int))) || (S (p + a) && decide (p + a < (x : Int)))
theorem mid_zero {N t : Nat} {S : Int → Bool} (hS : ∀ p, S p = true → 0 ≤ p ∧ p ≤ (t : Int)) (a : Int) : HasL N (midB S a 0) (List.replicate N false) := by
  refine ⟨by simp, fun p hp => ?_⟩
  rw [List.getD_eq_getElem?_getD, List.getElem?_replicate, if_pos hp]
  symm
  show midB S a 0 p = false
  rw [Bool.eq_false_iff]
  intro h
  unfold midB at h
  simp only [Bool.or_eq_true, Bool.and_eq_true, decide_eq_true_iff] at h
  rcases h with ⟨h1, h2⟩ | ⟨h1, h2⟩
  · have := hS _ h1; omega
  · have := hS _ h1; omega
theorem mid_iff {S : Int → Bool} {a : Int} {x : Nat} {p : Int} : midB S a x p = true ↔ (S (p - a) = true ∧ p - a < (x : Int)) ∨ (S (p + a) = true ∧ p + a < (x : Int)) := by
  unfold midB
  simp only [Bool.or_eq_true, Bool.and_eq_true, decide_eq_true_iff]
theorem mid_skip {N x : Nat} {S : Int → Bool} {a : Int} {bs : List Bool} (h : HasL N (midB S a x) bs) (hx : S (x : Int) = false) : HasL N (midB S a (x + 1)) bs := by
  refine ⟨h.1, fun p hp => ?_⟩
  rw [h.2 p hp, Bool.eq_iff_iff, mid_iff, mid_iff]
  constructor
  · rintro (⟨h1, h2⟩ | ⟨h1, h2⟩)
    · exact .inl ⟨h1, by omega⟩
    · exact .inr ⟨h1, by omega⟩
  · rintro (⟨h1, h2⟩ | ⟨h1, h2⟩)
    · by_cases e : (p : Int) - a = x
      · rw [e, hx] at h1; cases h1
      · exact .inl ⟨h1, by omega⟩
    · by_cases e : (p : Int) + a = x
      · rw [e, hx] at h1; cases h1
      · exact .inr ⟨h1, by omega⟩
/-- A place of the set: it leads to two. -/
theorem mid_take {N x : Nat} {S : Int → Bool} {a : Int} {bs bs' : List Bool} (h : HasL N (midB S a x) bs) (hx : S (x : Int) = true) (hl : bs'.length = N)
    (hb : ∀ p : Nat, p < N → bs'.getD p false = if (p : Int) = x + a ∨ (p : Int) = x - a then true else bs.getD p false) : HasL N (midB S a (x + 1)) bs' := by
  refine ⟨hl, fun p hp => ?_⟩
  rw [hb p hp]
  split
  · rename_i e
    symm
    rw [mid_iff]
    rcases e with e | e
    · exact .inl ⟨by rw [show (p : Int) - a = x by omega]; exact hx, by omega⟩
    · exact .inr ⟨by rw [show (p : Int) + a = x by omega]; exact hx, by omega⟩
  · rename_i e
    rw [h.2 p hp, Bool.eq_iff_iff, mid_iff, mid_iff]
    constructor
    · rintro (⟨h1, h2⟩ | ⟨h1, h2⟩)
      · exact .inl ⟨h1, by omega⟩
      · exact .inr ⟨h1, by omega⟩
    · rintro (⟨h1, h2⟩ | ⟨h1, h2⟩)
      · exact .inl ⟨h1, by omega⟩
      · exact .inr ⟨h1, by omega⟩
theorem mid_both {N x i j : Nat} {S : Int → Bool} {a : Int} {bs : List Bool} (h : HasL N (midB S a x) bs) (hx : S (x : Int) = true) (hi : (i : Int) = x + a) (hj : (j : Int) = x - a) (hiN : i < N) (hjN : j < N) :
    HasL N (midB S a (x + 1)) ((bs.set i true).set j true) :=
  mid_take h hx (by rw [List.length_set, List.length_set]; exact h.1) fun p hp => by
    rw [getD_setL _ _ _ _ (by rw [List.length_set, h.1]; exact hjN), getD_setL _ _ _ _ (by rw [h.1]; exact hiN)]
    by_cases e1 : p = j
    · rw [if_pos e1, if_pos (by omega)]
    · rw [if_neg e1]
      by_cases e2 : p = i
      · rw [if_pos e2, if_pos (by omega)]
      · rw [if_neg e2, if_neg (by omega)]
theorem mid_up {N x i : Nat} {S : Int → Bool} {a : Int} {bs : List Bool} (h : HasL N (midB S a x) bs) (hx : S (x : Int) = true) (hi : (i : Int) = x + a) (hiN : i < N) (hj : (x : Int) < a) :
    HasL N (midB S a (x + 1)) (bs.set i true) :=
  mid_take h hx (by rw [List.length_set]; exact h.1) fun p hp => by
    rw [getD_setL _ _ _ _ (by rw [h.1]; exact hiN)]
    by_cases e2 : p = i
    · rw [if_pos e2, if_pos (by omega)]
    · rw [if_neg e2, if_neg (by omega)]
theorem mid_down {N x j : Nat} {S : Int → Bool} {a : Int} {bs : List Bool} (h : HasL N (midB S a x) bs) (hx : S (x : Int) = true) (hi : (N : Int) ≤ x + a) (hj : (j : Int) = x - a) (hjN : j < N) :
    HasL N (midB S a (x + 1)) (bs.set j true) :=
  mid_take h hx (by rw [List.length_set]; exact h.1) fun p hp => by
    rw [getD_setL _ _ _ _ (by rw [h.1]; exact hjN)]
    by_cases e2 : p = j
    · rw [if_pos e2, if_pos (by omega)]
    · rw [if_neg e2, if_neg (by omega)]
theorem mid_none {N x : Nat} {S : Int → Bool} {a : Int} {bs : List Bool} (h : HasL N (midB S a x) bs) (hx : S (x : Int) = true) (hi : (N : Int) ≤ x + a) (hj : (x : Int) < a) :
    HasL N (midB S a (x + 1)) bs :=
  mid_take h hx h.1 fun p hp => by rw [if_neg (by omega)]
theorem mid_all {N t : Nat} {S : Int → Bool} {a : Int} {bs : List Bool} (hN : N = t + 1) (hS : ∀ p, S p = true → 0 ≤ p ∧ p ≤ (t : Int)) (h : HasL N (midB S a N) bs) : HasL N (nextB t a S) bs := by
  refine ⟨h.1, fun p hp => ?_⟩
  rw [h.2 p hp, Bool.eq_iff_iff, mid_iff, nextB_iff]
  constructor
  · rintro (⟨h1, h2⟩ | ⟨h1, h2⟩)
    · exact ⟨by omega, .inl h1⟩
    · exact ⟨by omega, .inr h1⟩
  · rintro ⟨h0, h1 | h1⟩
    · have := hS _ h1; exact .inl ⟨h1, by omega⟩
    · have := hS _ h1; exact .inr ⟨h1, by omega⟩
end Go.Proofs.Ytogmoljaiapolaa
