/- Pure facts of parting: threes of places, exact covers. Nothing of the program. -/
import Derived.Test.YtaffdppmpfgghaaThreeP
namespace Go.Proofs.Ytaffdppmpfgghaa

theorem S_bnd {f : Nat → Nat} {b : Nat} : ∀ n, (∀ i, i < n → f i ≤ b) → S n f ≤ n * b
  | 0, _ => by simp [S]
  | n + 1, h => by rw [S, Nat.succ_mul]; have := S_bnd n (fun i hi => h i (by omega)); have := h n (by omega); omega

/-- Three places. -/
abbrev Tri := Nat × Nat × Nat
def q3 (i j : Nat) : Nat → List Tri
  | 0 => []
  | c + 1 => q3 i j c ++ [(i, j, j + 1 + c)]
def q2 (n i : Nat) : Nat → List Tri
  | 0 => []
  | c + 1 => q2 n i c ++ q3 i (i + 1 + c) (n - (i + 1 + c + 1))
def q1 (n : Nat) : Nat → List Tri
  | 0 => []
  | m + 1 => q1 n m ++ q2 n m (n - (m + 1))
/-- All threes of places. -/
def allQ (n : Nat) : List Tri := q1 n n
def ltT (a b : Tri) : Prop := a.1 < b.1 ∨ (a.1 = b.1 ∧ (a.2.1 < b.2.1 ∨ (a.2.1 = b.2.1 ∧ a.2.2 < b.2.2)))
theorem q3_mem {i j : Nat} {t : Tri} : ∀ c, t ∈ q3 i j c ↔ t.1 = i ∧ t.2.1 = j ∧ j < t.2.2 ∧ t.2.2 < j + 1 + c
  | 0 => by simp [q3]; omega
  | c + 1 => by
    rw [q3, List.mem_append, q3_mem c, List.mem_singleton]
    obtain ⟨x, y, z⟩ := t
    simp only [Prod.mk.injEq]
    omega
theorem q2_mem {n i : Nat} {t : Tri} : ∀ c, t ∈ q2 n i c ↔ t.1 = i ∧ i < t.2.1 ∧ t.2.1 < i + 1 + c ∧ t.2.1 < t.2.2 ∧ t.2.2 < n
  | 0 => by simp [q2]; omega
  | c + 1 => by
    rw [q2, List.mem_append, q2_mem c, q3_mem]
    omega
theorem q1_mem {n : Nat} {t : Tri} : ∀ m, t ∈ q1 n m ↔ t.1 < m ∧ t.1 < t.2.1 ∧ t.2.1 < t.2.2 ∧ t.2.2 < n
  | 0 => by simp [q1]
  | m + 1 => by
    rw [q1, List.mem_append, q1_mem m, q2_mem]
    omega
theorem allQ_mem {n : Nat} {t : Tri} : t ∈ allQ n ↔ t.1 < t.2.1 ∧ t.2.1 < t.2.2 ∧ t.2.2 < n := by
  unfold allQ
  rw [q1_mem]
  omega
theorem q3_srt (i j : Nat) : ∀ c, (q3 i j c).Pairwise ltT
  | 0 => List.Pairwise.nil
  | c + 1 => by
    rw [q3, List.pairwise_append]
    refine ⟨q3_srt i j c, List.pairwise_singleton _ _, fun a ha b hb => ?_⟩
    rw [q3_mem] at ha
    rw [List.mem_singleton] at hb
    subst hb
    unfold ltT
    simp only
    omega
theorem q2_srt (n i : Nat) : ∀ c, (q2 n i c).Pairwise ltT
  | 0 => List.Pairwise.nil
  | c + 1 => by
    rw [q2, List.pairwise_append]
    refine ⟨q2_srt n i c, q3_srt _ _ _, fun a ha b hb => ?_⟩
    rw [q2_mem] at ha
    rw [q3_mem] at hb
    unfold ltT
    omega
theorem q1_srt (n : Nat) : ∀ m, (q1 n m).Pairwise ltT
  | 0 => List.Pairwise.nil
  | m + 1 => by
    rw [q1, List.pairwise_append]
    refine ⟨q1_srt n m, q2_srt _ _ _, fun a ha b hb => ?_⟩
    rw [q1_mem] at ha
    rw [q2_mem] at hb
    unfold ltT
    omega
theorem q1_split (n i : Nat) : ∀ d, ∃ R, q1 n (i + 1 + d) = q1 n (i + 1) ++ R ∧ ∀ t ∈ R, i < t.1 ∧ t.1 < t.2.1 ∧ t.2.1 < t.2.2
  | 0 => ⟨[], by simp, by simp⟩
  | d + 1 => by
    obtain ⟨R, h1, h2⟩ := q1_split n i d
    refine ⟨R ++ q2 n (i + 1 + d) (n - (i + 1 + d + 1)), ?_, fun t ht => ?_⟩
    · rw [show i + 1 + (d + 1) = (i + 1 + d) + 1 by omega, q1, h1, List.append_assoc]
    · rw [List.mem_append] at ht
      rcases ht with ht | ht
      · exact h2 t ht
      · rw [q2_mem] at ht
        omega

/-! Covers. A set of places is a number, a bit for each. -/
def fitU (U : Nat) (t : Tri) : Bool := U.testBit t.1 && U.testBit t.2.1 && U.testBit t.2.2
def thrU (t : Tri) : Nat := 2 ^ t.1 ||| 2 ^ t.2.1 ||| 2 ^ t.2.2
theorem thr_bit (t : Tri) (p : Nat) : (thrU t).testBit p = (decide (t.1 = p) || decide (t.2.1 = p) || decide (t.2.2 = p)) := by
  unfold thrU
  simp only [Nat.testBit_or, Nat.testBit_two_pow]
theorem xor_bit (U : Nat) (t : Tri) (p : Nat) : (U ^^^ thrU t).testBit p = (U.testBit p != (decide (t.1 = p) || decide (t.2.1 = p) || decide (t.2.2 = p))) := by
  rw [Nat.testBit_xor, thr_bit]
theorem xor_off {U : Nat} {t : Tri} {p : Nat} (h1 : t.1 ≠ p) (h2 : t.2.1 ≠ p) (h3 : t.2.2 ≠ p) : (U ^^^ thrU t).testBit p = U.testBit p := by
  rw [xor_bit, decide_eq_false h1, decide_eq_false h2, decide_eq_false h3]
  cases U.testBit p <;> rfl
theorem xor_on {U : Nat} {t : Tri} {p : Nat} (hf : fitU U t = true) (h : t.1 = p ∨ t.2.1 = p ∨ t.2.2 = p) : (U ^^^ thrU t).testBit p = false := by
  have hU : U.testBit p = true := by
    unfold fitU at hf
    simp only [Bool.and_eq_true] at hf
    rcases h with h | h | h
    · rw [← h]; exact hf.1.1
    · rw [← h]; exact hf.1.2
    · rw [← h]; exact hf.2
  have hd : (decide (t.1 = p) || decide (t.2.1 = p) || decide (t.2.2 = p)) = true := by
    simp only [Bool.or_eq_true, decide_eq_true_eq]
    rcases h with h | h | h
    · exact .inl (.inl h)
    · exact .inl (.inr h)
    · exact .inr h
  rw [xor_bit, hU, hd]
  rfl
/-- The number of ways to cover a set by threes of a list. -/
def covN : List Tri → Nat → Nat
  | [], U => if U = 0 then 1 else 0
  | t :: T, U => covN T U + if fitU U t = true then covN T (U ^^^ thrU t) else 0
theorem fit_zero (t : Tri) : fitU 0 t = false := by simp [fitU]
theorem cov_zero : ∀ T, covN T 0 = 1
  | [] => rfl
  | t :: T => by rw [covN, cov_zero T, fit_zero]; rfl
theorem cov_skip {A B : List Tri} {U : Nat} (h : ∀ t ∈ A, fitU U t = false) : covN (A ++ B) U = covN B U := by
  induction A with
  | nil => rfl
  | cons t A ih => rw [List.cons_append, covN, h t (by simp), ih fun s hs => h s (by simp [hs])]; rfl
theorem cov_none {i : Nat} : ∀ (T : List Tri) (U : Nat), U.testBit i = true → (∀ t ∈ T, t.1 ≠ i ∧ t.2.1 ≠ i ∧ t.2.2 ≠ i) → covN T U = 0
  | [], U, hU, _ => by
    rw [covN, if_neg]
    rintro rfl
    simp at hU
  | t :: T, U, hU, h => by
    obtain ⟨h1, h2, h3⟩ := h t (by simp)
    rw [covN, cov_none T U hU fun s hs => h s (by simp [hs]), cov_none T _ (by rw [xor_off h1 h2 h3]; exact hU) fun s hs => h s (by simp [hs])]
    simp
theorem fit_no {U : Nat} {t : Tri} {i : Nat} (hi : t.1 = i) (h : U.testBit i = false) : fitU U t = false := by
  unfold fitU
  rw [hi, h]; rfl
theorem cov_head {i : Nat} {B : List Tri} {U : Nat} : ∀ (A : List Tri), (∀ t ∈ A, t.1 = i) → covN (A ++ B) U = covN B U + (A.map fun t => if fitU U t = true then covN B (U ^^^ thrU t) else 0).sum
  | [], _ => by simp
  | t :: A, h => by
    rw [List.cons_append, covN, cov_head A fun s hs => h s (by simp [hs]), List.map_cons, List.sum_cons]
    by_cases hf : fitU U t = true
    · rw [if_pos hf, if_pos hf, cov_skip (A := A) fun s hs => fit_no (h s (by simp [hs])) (xor_on hf (.inl (h t (by simp))))]
      omega
    · rw [if_neg hf, if_neg hf]; omega
theorem sum_filter (Q : Tri → Bool) (f : Tri → Nat) : ∀ A : List Tri, ((A.filter Q).map f).sum = (A.map fun t => if Q t = true then f t else 0).sum
  | [] => rfl
  | t :: A => by
    rw [List.filter_cons]
    by_cases h : Q t = true
    · rw [if_pos h, List.map_cons, List.sum_cons, sum_filter Q f A, List.map_cons, List.sum_cons, if_pos h]
    · rw [if_neg h, sum_filter Q f A, List.map_cons, List.sum_cons, if_neg h, Nat.zero_add]
theorem sum_q3 (f : Tri → Nat) (i j : Nat) : ∀ c, ((q3 i j c).map f).sum = S c (fun e => f (i, j, j + 1 + e))
  | 0 => rfl
  | c + 1 => by rw [q3, List.map_append, List.sum_append, sum_q3 f i j c, S]; simp
theorem sum_q2 (f : Tri → Nat) (n i : Nat) : ∀ c, ((q2 n i c).map f).sum = S c (fun d => S (n - (i + 1 + d + 1)) (fun e => f (i, i + 1 + d, i + 1 + d + 1 + e)))
  | 0 => rfl
  | c + 1 => by rw [q2, List.map_append, List.sum_append, sum_q2 f n i c, S, sum_q3]
/-- What one three of places gives on the way of the model. -/
def srT (n : Nat) (Q : Tri → Bool) (U : Nat) (i j k : Nat) : Nat := if fitU U (i, j, k) = true ∧ Q (i, j, k) = true then covN ((allQ n).filter Q) (U ^^^ thrU (i, j, k)) else 0
def srK (n : Nat) (Q : Tri → Bool) (U : Nat) (i j c : Nat) : Nat := S c (fun e => srT n Q U i j (j + 1 + e))
def srJ (n : Nat) (Q : Tri → Bool) (U : Nat) (i c : Nat) : Nat := S c (fun d => srK n Q U i (i + 1 + d) (n - (i + 1 + d + 1)))
theorem cov_low {n : Nat} {Q : Tri → Bool} {U i : Nat} (hi : i < n) (hU : U.testBit i = true) (hlow : ∀ p, p < i → U.testBit p = false) :
    covN ((allQ n).filter Q) U = srJ n Q U i (n - (i + 1)) := by
  obtain ⟨R, hR, hRm⟩ := q1_split n i (n - (i + 1))
  rw [show i + 1 + (n - (i + 1)) = n by omega] at hR
  have hall : (allQ n).filter Q = (q1 n i).filter Q ++ ((q2 n i (n - (i + 1))).filter Q ++ R.filter Q) := by
    unfold allQ
    rw [hR, q1, List.filter_append, List.filter_append, List.append_assoc]
  have h1 : ∀ t ∈ (q1 n i).filter Q, fitU U t = false := fun t ht => by
    have := (q1_mem i).1 (List.mem_filter.1 ht).1
    exact fit_no rfl (hlow t.1 this.1)
  have h0 : covN (R.filter Q) U = 0 := cov_none (i := i) _ U hU fun t ht => by
    have := hRm t (List.mem_filter.1 ht).1
    omega
  rw [hall, cov_skip h1, cov_head (i := i) _ (fun t ht => ((q2_mem _).1 (List.mem_filter.1 ht).1).1), h0, Nat.zero_add, sum_filter, sum_q2]
  unfold srJ srK srT
  refine S_ext _ fun d hd => S_ext _ fun e he => ?_
  by_cases hf : fitU U (i, i + 1 + d, i + 1 + d + 1 + e) = true
  · by_cases hq : Q (i, i + 1 + d, i + 1 + d + 1 + e) = true
    · rw [if_pos hq, if_pos hf, if_pos ⟨hf, hq⟩]
      have hx : ∀ p, p ≤ i → (U ^^^ thrU (i, i + 1 + d, i + 1 + d + 1 + e)).testBit p = false := fun p hp => by
        rcases Nat.lt_or_eq_of_le hp with hp | hp
        · rw [xor_off (by simp only; omega) (by simp only; omega) (by simp only; omega)]; exact hlow p hp
        · exact xor_on hf (.inl hp.symm)
      rw [hall, cov_skip (fun t ht => fit_no rfl (hx t.1 (Nat.le_of_lt ((q1_mem i).1 (List.mem_filter.1 ht).1).1))), cov_skip (fun t ht => fit_no rfl (hx t.1 (by have := ((q2_mem _).1 (List.mem_filter.1 ht).1).1; omega)))]
    · rw [if_neg hq, if_neg fun h => hq h.2]
  · have hf' : ¬ (fitU U (i, i + 1 + d, i + 1 + d + 1 + e) = true ∧ Q (i, i + 1 + d, i + 1 + d + 1 + e) = true) := fun h => hf h.1
    rw [if_neg hf', if_neg hf, ite_self]
theorem low_none {n U : Nat} (h : U < 2 ^ n) (h0 : ∀ p, p < n → U.testBit p = false) : U = 0 := by
  refine Nat.eq_of_testBit_eq fun p => ?_
  rw [Nat.zero_testBit]
  rcases Nat.lt_or_ge p n with hp | hp
  · exact h0 p hp
  · exact Nat.testBit_lt_two_pow (Nat.lt_of_lt_of_le h (Nat.pow_le_pow_right (by omega) hp))
theorem srT_le {n : Nat} {Q : Tri → Bool} {U i j k M : Nat} (h : fitU U (i, j, k) = true → covN ((allQ n).filter Q) (U ^^^ thrU (i, j, k)) ≤ M) : srT n Q U i j k ≤ M := by
  unfold srT
  split
  · exact h (by rename_i h; exact h.1)
  · exact Nat.zero_le _
theorem xor_lt {n U : Nat} {t : Tri} (h : U < 2 ^ n) (h1 : t.1 < n) (h2 : t.2.1 < n) (h3 : t.2.2 < n) : U ^^^ thrU t < 2 ^ n := by
  refine Nat.xor_lt_two_pow h ?_
  unfold thrU
  refine Nat.or_lt_two_pow (Nat.or_lt_two_pow ?_ ?_) ?_
  · exact Nat.pow_lt_pow_right (by omega) h1
  · exact Nat.pow_lt_pow_right (by omega) h2
  · exact Nat.pow_lt_pow_right (by omega) h3
theorem cov_few {n : Nat} (hn : n ≤ 9) (Q : Tri → Bool) : ∀ d, d ≤ n → ∀ U, U < 2 ^ n → (∀ p, p < n - d → U.testBit p = false) → covN ((allQ n).filter Q) U ≤ 81 ^ d
  | 0, _, U, hU, h0 => by rw [low_none hU h0, cov_zero]; exact Nat.le_refl _
  | d + 1, hd, U, hU, h0 => by
    cases hb : U.testBit (n - (d + 1)) with
    | false =>
      refine Nat.le_trans (cov_few hn Q d (by omega) U hU fun p hp => ?_) (Nat.pow_le_pow_right (by omega) (by omega))
      by_cases e : p = n - (d + 1)
      · rw [e]; exact hb
      · exact h0 p (by omega)
    | true =>
      rw [cov_low (i := n - (d + 1)) (by omega) hb h0]
      have hone : ∀ j k, n - (d + 1) < j → j < k → k < n → srT n Q U (n - (d + 1)) j k ≤ 81 ^ d := fun j k h1 h2 h3 => srT_le fun hf => by
        refine cov_few hn Q d (by omega) _ (xor_lt hU (by simp only; omega) (by simp only; omega) h3) fun p hp => ?_
        by_cases e : n - (d + 1) = p
        · exact xor_on hf (.inl e)
        · rw [xor_off e (by simp only; omega) (by simp only; omega)]
          exact h0 p (by omega)
      have hK : ∀ e, e < n - (n - (d + 1) + 1) → srK n Q U (n - (d + 1)) (n - (d + 1) + 1 + e) (n - (n - (d + 1) + 1 + e + 1)) ≤ 9 * 81 ^ d := fun e he => by
        refine Nat.le_trans (S_bnd _ fun x hx => hone _ _ (by omega) (by omega) (by omega)) (Nat.mul_le_mul_right _ (by omega))
      refine Nat.le_trans (S_bnd _ hK) ?_
      rw [Nat.pow_succ, Nat.mul_comm (81 ^ d) 81, show 81 * 81 ^ d = 9 * (9 * 81 ^ d) by rw [← Nat.mul_assoc]]
      exact Nat.mul_le_mul_right _ (by omega)
theorem cov_lt {n : Nat} (hn : n ≤ 9) (Q : Tri → Bool) {U : Nat} (hU : U < 2 ^ n) : covN ((allQ n).filter Q) U ≤ 81 ^ 9 :=
  Nat.le_trans (cov_few hn Q n (Nat.le_refl _) U hU fun p hp => by omega) (Nat.pow_le_pow_right (by omega) hn)
theorem cov_sub {T T' : List Tri} (h : T.Sublist T') : ∀ U, covN T U ≤ covN T' U := by
  induction h with
  | slnil => exact fun _ => Nat.le_refl _
  | cons t _ ih => intro U; rw [covN]; exact Nat.le_trans (ih U) (Nat.le_add_right _ _)
  | cons_cons t _ ih =>
    intro U
    rw [covN, covN]
    have h1 := ih U
    split
    · have h2 := ih (U ^^^ thrU t); omega
    · omega
theorem cov_280 : ∀ n, n < 10 → covN (allQ n) (2 ^ n - 1) ≤ 280 := by decide +kernel
theorem cov_le280 {n : Nat} (hn : n ≤ 9) (Q : Tri → Bool) : covN ((allQ n).filter Q) (2 ^ n - 1) ≤ 280 := Nat.le_trans (cov_sub (List.filter_sublist) _) (cov_280 n (by omega))
theorem S_mono (f : Nat → Nat) {a : Nat} : ∀ b, a ≤ b → S a f ≤ S b f
  | 0, h => by obtain rfl : a = 0 := by omega
               exact Nat.le_refl _
  | b + 1, h => by
    by_cases e : a = b + 1
    · rw [e]; exact Nat.le_refl _
    · rw [S]; exact Nat.le_trans (S_mono f b (by omega)) (Nat.le_add_right _ _)
end Go.Proofs.Ytaffdppmpfgghaa
