/- Joined: PartP, PartQ, PartR, PartL, PartT. -/
import Derived.Test.YtiadnbdefcimiaaThreeP
import Derived.Test.YtiadnbdefcimiaaSolP
import Derived.Test.YtiadnbdefcimiaaCnt
/- Pure facts of parting: threes of places, exact covers. Nothing of the program. -/
namespace Go.Proofs.Ytiadnbdefcimiaa

theorem S_bnd {f : Nat → Nat} {b : Nat} : ∀ n, (∀ i, i < n → f i ≤ b) → S n f ≤ n * b
  | 0, _ => by simp [S]
  | n + 1, h => by rw [S, Nat.succ_mul]; have := S_bnd n (fun i hi => h i (by omega)); have := h n (by omega); omega

/-- Three places. -/
abbrev Tri := Nat × Nat × Nat
def q3 (i j : Nat) : Nat → List Tri
  | 0 => []
  | c + 1 => q3 i j c ++ [(i, j, j + 1 + c)]
def q2 (n i : Nat) : Nat → List Tri
  | 0 => []
  | c + 1 => q2 n i c ++ q3 i (i + 1 + c) (n - (i + 1 + c + 1))
def q1 (n : Nat) : Nat → List Tri
  | 0 => []
  | m + 1 => q1 n m ++ q2 n m (n - (m + 1))
/-- All threes of places. -/
def allQ (n : Nat) : List Tri := q1 n n
def ltT (a b : Tri) : Prop := a.1 < b.1 ∨ (a.1 = b.1 ∧ (a.2.1 < b.2.1 ∨ (a.2.1 = b.2.1 ∧ a.2.2 < b.2.2)))
theorem q3_mem {i j : Nat} {t : Tri} : ∀ c, t ∈ q3 i j c ↔ t.1 = i ∧ t.2.1 = j ∧ j < t.2.2 ∧ t.2.2 < j + 1 + c
  | 0 => by simp [q3]; omega
  | c + 1 => by
    rw [q3, List.mem_append, q3_mem c, List.mem_singleton]
    obtain ⟨x, y, z⟩ := t
    simp only [Prod.mk.injEq]
    omega
theorem q2_mem {n i : Nat} {t : Tri} : ∀ c, t ∈ q2 n i c ↔ t.1 = i ∧ i < t.2.1 ∧ t.2.1 < i + 1 + c ∧ t.2.1 < t.2.2 ∧ t.2.2 < n
  | 0 => by simp [q2]; omega
  | c + 1 => by
    rw [q2, List.mem_append, q2_mem c, q3_mem]
    omega
theorem q1_mem {n : Nat} {t : Tri} : ∀ m, t ∈ q1 n m ↔ t.1 < m ∧ t.1 < t.2.1 ∧ t.2.1 < t.2.2 ∧ t.2.2 < n
  | 0 => by simp [q1]
  | m + 1 => by
    rw [q1, List.mem_append, q1_mem m, q2_mem]
    omega
theorem allQ_mem {n : Nat} {t : Tri} : t ∈ allQ n ↔ t.1 < t.2.1 ∧ t.2.1 < t.2.2 ∧ t.2.2 < n := by
  unfold allQ
  rw [q1_mem]
  omega
theorem q3_srt (i j : Nat) : ∀ c, (q3 i j c).Pairwise ltT
  | 0 => List.Pairwise.nil
  | c + 1 => by
    rw [q3, List.pairwise_append]
    refine ⟨q3_srt i j c, List.pairwise_singleton _ _, fun a ha b hb => ?_⟩
    rw [q3_mem] at ha
    rw [List.mem_singleton] at hb
    subst hb
    unfold ltT
    simp only
    omega
theorem q2_srt (n i : Nat) : ∀ c, (q2 n i c).Pairwise ltT
  | 0 => List.Pairwise.nil
  | c + 1 => by
    rw [q2, List.pairwise_append]
    refine ⟨q2_srt n i c, q3_srt _ _ _, fun a ha b hb => ?_⟩
    rw [q2_mem] at ha
    rw [q3_mem] at hb
    unfold ltT
    omega
theorem q1_srt (n : Nat) : ∀ m, (q1 n m).Pairwise ltT
  | 0 => List.Pairwise.nil
  | m + 1 => by
    rw [q1, List.pairwise_append]
    refine ⟨q1_srt n m, q2_srt _ _ _, fun a ha b hb => ?_⟩
    rw [q1_mem] at ha
    rw [q2_mem] at hb
    unfold ltT
    omega
theorem q1_split (n i : Nat) : ∀ d, ∃ R, q1 n (i + 1 + d) = q1 n (i + 1) ++ R ∧ ∀ t ∈ R, i < t.1 ∧ t.1 < t.2.1 ∧ t.2.1 < t.2.2
  | 0 => ⟨[], by simp, by simp⟩
  | d + 1 => by
    obtain ⟨R, h1, h2⟩ := q1_split n i d
    refine ⟨R ++ q2 n (i + 1 + d) (n - (i + 1 + d + 1)), ?_, fun t ht => ?_⟩
    · rw [show i + 1 + (d + 1) = (i + 1 + d) + 1 by omega, q1, h1, List.append_assoc]
    · rw [List.mem_append] at ht
      rcases ht with ht | ht
      · exact h2 t ht
      · rw [q2_mem] at ht
        omega

/-! Covers. A set of places is a number, a bit for each. -/
def fitU (U : Nat) (t : Tri) : Bool := U.testBit t.1 && U.testBit t.2.1 && U.testBit t.2.2
def thrU (t : Tri) : Nat := 2 ^ t.1 ||| 2 ^ t.2.1 ||| 2 ^ t.2.2
theorem thr_bit (t : Tri) (p : Nat) : (thrU t).testBit p = (decide (t.1 = p) || decide (t.2.1 = p) || decide (t.2.2 = p)) := by
  unfold thrU
  simp only [Nat.testBit_or, Nat.testBit_two_pow]
theorem xor_bit (U : Nat) (t : Tri) (p : Nat) : (U ^^^ thrU t).testBit p = (U.testBit p != (decide (t.1 = p) || decide (t.2.1 = p) || decide (t.2.2 = p))) := by
  rw [Nat.testBit_xor, thr_bit]
theorem xor_off {U : Nat} {t : Tri} {p : Nat} (h1 : t.1 ≠ p) (h2 : t.2.1 ≠ p) (h3 : t.2.2 ≠ p) : (U ^^^ thrU t).testBit p = U.testBit p := by
  rw [xor_bit, decide_eq_false h1, decide_eq_false h2, decide_eq_false h3]
  cases U.testBit p <;> rfl
theorem xor_on {U : Nat} {t : Tri} {p : Nat} (hf : fitU U t = true) (h : t.1 = p ∨ t.2.1 = p ∨ t.2.2 = p) : (U ^^^ thrU t).testBit p = false := by
  have hU : U.testBit p = true := by
    unfold fitU at hf
    simp only [Bool.and_eq_true] at hf
    rcases h with h | h | h
    · rw [← h]; exact hf.1.1
    · rw [← h]; exact hf.1.2
    · rw [← h]; exact hf.2
  have hd : (decide (t.1 = p) || decide (t.2.1 = p) || decide (t.2.2 = p)) = true := by
    simp only [Bool.or_eq_true, decide_eq_true_eq]
    rcases h with h | h | h
    · exact .inl (.inl h)
    · exact .inl (.inr h)
    · exact .inr h
  rw [xor_bit, hU, hd]
  rfl
/-- The number of ways to cover a set by threes of a list. -/
def covN : List Tri → Nat → Nat
  | [], U => if U = 0 then 1 else 0
  | t :: T, U => covN T U + if fitU U t = true then covN T (U ^^^ thrU t) else 0
theorem fit_zero (t : Tri) : fitU 0 t = false := by simp [fitU]
theorem cov_zero : ∀ T, covN T 0 = 1
  | [] => rfl
  | t :: T => by rw [covN, cov_zero T, fit_zero]; rfl
theorem cov_skip {A B : List Tri} {U : Nat} (h : ∀ t ∈ A, fitU U t = false) : covN (A ++ B) U = covN B U := by
  induction A with
  | nil => rfl
  | cons t A ih => rw [List.cons_append, covN, h t (by simp), ih fun s hs => h s (by simp [hs])]; rfl
theorem cov_none {i : Nat} : ∀ (T : List Tri) (U : Nat), U.testBit i = true → (∀ t ∈ T, t.1 ≠ i ∧ t.2.1 ≠ i ∧ t.2.2 ≠ i) → covN T U = 0
  | [], U, hU, _ => by
    rw [covN, if_neg]
    rintro rfl
    simp at hU
  | t :: T, U, hU, h => by
    obtain ⟨h1, h2, h3⟩ := h t (by simp)
    rw [covN, cov_none T U hU fun s hs => h s (by simp [hs]), cov_none T _ (by rw [xor_off h1 h2 h3]; exact hU) fun s hs => h s (by simp [hs])]
    simp
theorem fit_no {U : Nat} {t : Tri} {i : Nat} (hi : t.1 = i) (h : U.testBit i = false) : fitU U t = false := by
  unfold fitU
  rw [hi, h]; rfl
theorem cov_head {i : Nat} {B : List Tri} {U : Nat} : ∀ (A : List Tri), (∀ t ∈ A, t.1 = i) → covN (A ++ B) U = covN B U + (A.map fun t => if fitU U t = true then covN B (U ^^^ thrU t) else 0).sum
  | [], _ => by simp
  | t :: A, h => by
    rw [List.cons_append, covN, cov_head A fun s hs => h s (by simp [hs]), List.map_cons, List.sum_cons]
    by_cases hf : fitU U t = true
    · rw [if_pos hf, if_pos hf, cov_skip (A := A) fun s hs => fit_no (h s (by simp [hs])) (xor_on hf (.inl (h t (by simp))))]
      omega
    · rw [if_neg hf, if_neg hf]; omega
theorem sum_filter (Q : Tri → Bool) (f : Tri → Nat) : ∀ A : List Tri, ((A.filter Q).map f).sum = (A.map fun t => if Q t = true then f t else 0).sum
  | [] => rfl
  | t :: A => by
    rw [List.filter_cons]
    by_cases h : Q t = true
    · rw [if_pos h, List.map_cons, List.sum_cons, sum_filter Q f A, List.map_cons, List.sum_cons, if_pos h]
    · rw [if_neg h, sum_filter Q f A, List.map_cons, List.sum_cons, if_neg h, Nat.zero_add]
theorem sum_q3 (f : Tri → Nat) (i j : Nat) : ∀ c, ((q3 i j c).map f).sum = S c (fun e => f (i, j, j + 1 + e))
  | 0 => rfl
  | c + 1 => by rw [q3, List.map_append, List.sum_append, sum_q3 f i j c, S]; simp
theorem sum_q2 (f : Tri → Nat) (n i : Nat) : ∀ c, ((q2 n i c).map f).sum = S c (fun d => S (n - (i + 1 + d + 1)) (fun e => f (i, i + 1 + d, i + 1 + d + 1 + e)))
  | 0 => rfl
  | c + 1 => by rw [q2, List.map_append, List.sum_append, sum_q2 f n i c, S, sum_q3]
/-- What one three of places gives on the way of the model. -/
def srT (n : Nat) (Q : Tri → Bool) (U : Nat) (i j k : Nat) : Nat := if fitU U (i, j, k) = true ∧ Q (i, j, k) = true then covN ((allQ n).filter Q) (U ^^^ thrU (i, j, k)) else 0
def srK (n : Nat) (Q : Tri → Bool) (U : Nat) (i j c : Nat) : Nat := S c (fun e => srT n Q U i j (j + 1 + e))
def srJ (n : Nat) (Q : Tri → Bool) (U : Nat) (i c : Nat) : Nat := S c (fun d => srK n Q U i (i + 1 + d) (n - (i + 1 + d + 1)))
theorem cov_low {n : Nat} {Q : Tri → Bool} {U i : Nat} (hi : i < n) (hU : U.testBit i = true) (hlow : ∀ p, p < i → U.testBit p = false) :
    covN ((allQ n).filter Q) U = srJ n Q U i (n - (i + 1)) := by
  obtain ⟨R, hR, hRm⟩ := q1_split n i (n - (i + 1))
  rw [show i + 1 + (n - (i + 1)) = n by omega] at hR
  have hall : (allQ n).filter Q = (q1 n i).filter Q ++ ((q2 n i (n - (i + 1))).filter Q ++ R.filter Q) := by
    unfold allQ
    rw [hR, q1, List.filter_append, List.filter_append, List.append_assoc]
  have h1 : ∀ t ∈ (q1 n i).filter Q, fitU U t = false := fun t ht => by
    have := (q1_mem i).1 (List.mem_filter.1 ht).1
    exact fit_no rfl (hlow t.1 this.1)
  have h0 : covN (R.filter Q) U = 0 := cov_none (i := i) _ U hU fun t ht => by
    have := hRm t (List.mem_filter.1 ht).1
    omega
  rw [hall, cov_skip h1, cov_head (i := i) _ (fun t ht => ((q2_mem _).1 (List.mem_filter.1 ht).1).1), h0, Nat.zero_add, sum_filter, sum_q2]
  unfold srJ srK srT
  refine S_ext _ fun d hd => S_ext _ fun e he => ?_
  by_cases hf : fitU U (i, i + 1 + d, i + 1 + d + 1 + e) = true
  · by_cases hq : Q (i, i + 1 + d, i + 1 + d + 1 + e) = true
    · rw [if_pos hq, if_pos hf, if_pos ⟨hf, hq⟩]
      have hx : ∀ p, p ≤ i → (U ^^^ thrU (i, i + 1 + d, i + 1 + d + 1 + e)).testBit p = false := fun p hp => by
        rcases Nat.lt_or_eq_of_le hp with hp | hp
        · rw [xor_off (by simp only; omega) (by simp only; omega) (by simp only; omega)]; exact hlow p hp
        · exact xor_on hf (.inl hp.symm)
      rw [hall, cov_skip (fun t ht => fit_no rfl (hx t.1 (Nat.le_of_lt ((q1_mem i).1 (List.mem_filter.1 ht).1).1))), cov_skip (fun t ht => fit_no rfl (hx t.1 (by have := ((q2_mem _).1 (List.mem_filter.1 ht).1).1; omega)))]
    · rw [if_neg hq, if_neg fun h => hq h.2]
  · have hf' : ¬ (fitU U (i, i + 1 + d, i + 1 + d + 1 + e) = true ∧ Q (i, i + 1 + d, i + 1 + d + 1 + e) = true) := fun h => hf h.1
    rw [if_neg hf', if_neg hf, ite_self]
theorem low_none {n U : Nat} (h : U < 2 ^ n) (h0 : ∀ p, p < n → U.testBit p = false) : U = 0 := by
  refine Nat.eq_of_testBit_eq fun p => ?_
  rw [Nat.zero_testBit]
  rcases Nat.lt_or_ge p n with hp | hp
  · exact h0 p hp
  · exact Nat.testBit_lt_two_pow (Nat.lt_of_lt_of_le h (Nat.pow_le_pow_right (by omega) hp))
theorem srT_le {n : Nat} {Q : Tri → Bool} {U i j k M : Nat} (h : fitU U (i, j, k) = true → covN ((allQ n).filter Q) (U ^^^ thrU (i, j, k)) ≤ M) : srT n Q U i j k ≤ M := by
  unfold srT
  split
  · exact h (by rename_i h; exact h.1)
  · exact Nat.zero_le _
theorem xor_lt {n U : Nat} {t : Tri} (h : U < 2 ^ n) (h1 : t.1 < n) (h2 : t.2.1 < n) (h3 : t.2.2 < n) : U ^^^ thrU t < 2 ^ n := by
  refine Nat.xor_lt_two_pow h ?_
  unfold thrU
  refine Nat.or_lt_two_pow (Nat.or_lt_two_pow ?_ ?_) ?_
  · exact Nat.pow_lt_pow_right (by omega) h1
  · exact Nat.pow_lt_pow_right (by omega) h2
  · exact Nat.pow_lt_pow_right (by omega) h3
theorem cov_few {n : Nat} (hn : n ≤ 9) (Q : Tri → Bool) : ∀ d, d ≤ n → ∀ U, U < 2 ^ n → (∀ p, p < n - d → U.testBit p = false) → covN ((allQ n).filter Q) U ≤ 81 ^ d
  | 0, _, U, hU, h0 => by rw [low_none hU h0, cov_zero]; exact Nat.le_refl _
  | d + 1, hd, U, hU, h0 => by
    cases hb : U.testBit (n - (d + 1)) with
    | false =>
      refine Nat.le_trans (cov_few hn Q d (by omega) U hU fun p hp => ?_) (Nat.pow_le_pow_right (by omega) (by omega))
      by_cases e : p = n - (d + 1)
      · rw [e]; exact hb
      · exact h0 p (by omega)
    | true =>
      rw [cov_low (i := n - (d + 1)) (by omega) hb h0]
      have hone : ∀ j k, n - (d + 1) < j → j < k → k < n → srT n Q U (n - (d + 1)) j k ≤ 81 ^ d := fun j k h1 h2 h3 => srT_le fun hf => by
        refine cov_few hn Q d (by omega) _ (xor_lt hU (by simp only; omega) (by simp only; omega) h3) fun p hp => ?_
        by_cases e : n - (d + 1) = p
        · exact xor_on hf (.inl e)
        · rw [xor_off e (by simp only; omega) (by simp only; omega)]
          exact h0 p (by omega)
      have hK : ∀ e, e < n - (n - (d + 1) + 1) → srK n Q U (n - (d + 1)) (n - (d + 1) + 1 + e) (n - (n - (d + 1) + 1 + e + 1)) ≤ 9 * 81 ^ d := fun e he => by
        refine Nat.le_trans (S_bnd _ fun x hx => hone _ _ (by omega) (by omega) (by omega)) (Nat.mul_le_mul_right _ (by omega))
      refine Nat.le_trans (S_bnd _ hK) ?_
      rw [Nat.pow_succ, Nat.mul_comm (81 ^ d) 81, show 81 * 81 ^ d = 9 * (9 * 81 ^ d) by rw [← Nat.mul_assoc]]
      exact Nat.mul_le_mul_right _ (by omega)
theorem cov_lt {n : Nat} (hn : n ≤ 9) (Q : Tri → Bool) {U : Nat} (hU : U < 2 ^ n) : covN ((allQ n).filter Q) U ≤ 81 ^ 9 :=
  Nat.le_trans (cov_few hn Q n (Nat.le_refl _) U hU fun p hp => by omega) (Nat.pow_le_pow_right (by omega) hn)
theorem cov_sub {T T' : List Tri} (h : T.Sublist T') : ∀ U, covN T U ≤ covN T' U := by
  induction h with
  | slnil => exact fun _ => Nat.le_refl _
  | cons t _ ih => intro U; rw [covN]; exact Nat.le_trans (ih U) (Nat.le_add_right _ _)
  | cons_cons t _ ih =>
    intro U
    rw [covN, covN]
    have h1 := ih U
    split
    · have h2 := ih (U ^^^ thrU t); omega
    · omega
theorem cov_280 : ∀ n, n < 10 → covN (allQ n) (2 ^ n - 1) ≤ 280 := by decide +kernel
theorem cov_le280 {n : Nat} (hn : n ≤ 9) (Q : Tri → Bool) : covN ((allQ n).filter Q) (2 ^ n - 1) ≤ 280 := Nat.le_trans (cov_sub (List.filter_sublist) _) (cov_280 n (by omega))
theorem S_mono (f : Nat → Nat) {a : Nat} : ∀ b, a ≤ b → S a f ≤ S b f
  | 0, h => by obtain rfl : a = 0 := by omega
               exact Nat.le_refl _
  | b + 1, h => by
    by_cases e : a = b + 1
    · rw [e]; exact Nat.le_refl _
    · rw [S]; exact Nat.le_trans (S_mono f b (by omega)) (Nat.le_add_right _ _)
end Go.Proofs.Ytiadnbdefcimiaa

/- Pure facts of parting: part lists, the program's way through them. Nothing of the program. -/
namespace Go.Proofs.Ytiadnbdefcimiaa

/-- The places that have a number. -/
def ofP (l : List Int) (s : Int) : List Nat := (List.range l.length).filter fun p => l.getD p 0 == s
theorem ofP_mem {l : List Int} {s : Int} {p : Nat} : p ∈ ofP l s ↔ p < l.length ∧ l.getD p 0 = s := by
  unfold ofP
  rw [List.mem_filter, List.mem_range, beq_iff_eq]
theorem ofP_srt (l : List Int) (s : Int) : (ofP l s).Pairwise (· < ·) := List.Pairwise.filter _ List.pairwise_lt_range
theorem eq_of_srt : ∀ {a b : List Nat}, a.Pairwise (· < ·) → b.Pairwise (· < ·) → (∀ p, p ∈ a ↔ p ∈ b) → a = b
  | [], [], _, _, _ => rfl
  | [], y :: b, _, _, h => absurd ((h y).2 (by simp)) (by simp)
  | x :: a, [], _, _, h => absurd ((h x).1 (by simp)) (by simp)
  | x :: a, y :: b, ha, hb, h => by
    rw [List.pairwise_cons] at ha hb
    have e : x = y := by
      have h1 := (h x).1 (by simp)
      have h2 := (h y).2 (by simp)
      rw [List.mem_cons] at h1 h2
      rcases h1 with h1 | h1
      · exact h1
      · rcases h2 with h2 | h2
        · exact h2.symm
        · have := hb.1 x h1; have := ha.1 y h2; omega
    subst e
    rw [eq_of_srt ha.2 hb.2 fun p => ?_]
    have h3 := h p
    rw [List.mem_cons, List.mem_cons] at h3
    constructor
    · intro hp
      rcases h3.1 (.inr hp) with h4 | h4
      · have := ha.1 p hp; omega
      · exact h4
    · intro hp
      rcases h3.2 (.inr hp) with h4 | h4
      · have := hb.1 p hp; omega
      · exact h4
theorem ofP_app (l : List Int) (x s : Int) : ofP (l ++ [x]) s = ofP l s ++ if x = s then [l.length] else [] := by
  unfold ofP
  rw [List.length_append, List.length_singleton, List.range_succ, List.filter_append]
  congr 1
  · refine List.filter_congr fun p hp => ?_
    rw [List.mem_range] at hp
    rw [List.getD_eq_getElem?_getD, List.getD_eq_getElem?_getD, List.getElem?_append_left hp]
  · rw [List.filter_cons, List.filter_nil]
    by_cases h : x = s
    · rw [if_pos h, if_pos]; simp [h]
    · rw [if_neg h, if_neg]; simp [h]
theorem getD_app_lt {l e : List Int} {p : Nat} (h : p < l.length) : (l ++ e).getD p 0 = l.getD p 0 := by
  rw [List.getD_eq_getElem?_getD, List.getD_eq_getElem?_getD, List.getElem?_append_left h]
theorem getD_app_at (l : List Int) (x : Int) (e : List Int) : (l ++ x :: e).getD l.length 0 = x := by
  rw [List.getD_eq_getElem?_getD, List.getElem?_append_right (Nat.le_refl _)]; simp

/-- A part list: M threes, numbered from 0 on by their least places, each as told. -/
structure PL (Q : Tri → Bool) (n : Nat) (l : List Int) (M : Nat) : Prop where
  len : l.length = n
  rng : ∀ p, p < n → -1 ≤ l.getD p 0 ∧ l.getD p 0 < M
  num : ∀ q, q < n → ∀ s : Nat, (s : Int) < l.getD q 0 → ∃ p, p < q ∧ l.getD p 0 = s
  thr : ∀ s : Nat, s < M → ∃ t : Tri, ofP l s = [t.1, t.2.1, t.2.2] ∧ Q t = true
/-- The three with a number. -/
def triOf (l : List Int) (s : Int) : Tri := ((ofP l s).getD 0 0, (ofP l s).getD 1 0, (ofP l s).getD 2 0)
theorem PL.tri {Q : Tri → Bool} {n M : Nat} {l : List Int} (h : PL Q n l M) {s : Nat} (hs : s < M) : ofP l s = [(triOf l s).1, (triOf l s).2.1, (triOf l s).2.2] ∧ Q (triOf l s) = true := by
  obtain ⟨t, h1, h2⟩ := h.thr s hs
  have e : triOf l s = t := by unfold triOf; rw [h1]; rfl
  rw [e]
  exact ⟨h1, h2⟩
theorem inc_of {l : List Int} {s : Int} {t : Tri} (h : ofP l s = [t.1, t.2.1, t.2.2]) : t.1 < t.2.1 ∧ t.2.1 < t.2.2 ∧ t.2.2 < l.length := by
  have h1 := ofP_srt l s
  rw [h] at h1
  simp only [List.pairwise_cons, List.mem_cons, List.not_mem_nil, or_false, forall_eq_or_imp, forall_eq] at h1
  have h2 : t.2.2 ∈ ofP l s := by rw [h]; simp
  exact ⟨h1.1.1, h1.2.1, (ofP_mem.1 h2).1⟩

/-! The program's way. -/
def okT (l : List Int) (t : Tri) : Bool := (l.getD t.1 0 == -1) && (l.getD t.2.1 0 == -1) && (l.getD t.2.2 0 == -1)
def putT (l : List Int) (t : Tri) (m : Nat) : List Int := ((l.set t.1 m).set t.2.1 m).set t.2.2 m
def visT (m : Nat) (l : List Int) : List Tri → List (List Int)
  | [] => []
  | t :: T => (if okT l t = true then putT l t m :: visT (m + 1) (putT l t m) T else []) ++ visT m l T
def visP (m : Nat) (l : List Int) (T : List Tri) : List (List Int) := l :: visT m l T
theorem getD_setI (l : List Int) (k j : Nat) (u : Int) (hk : k < l.length) : (l.set k u).getD j 0 = if j = k then u else l.getD j 0 := by
  by_cases h : j = k
  · subst h; simp [hk]
  · simp [h, Ne.symm h, List.getD_eq_getElem?_getD]
theorem put_len (l : List Int) (t : Tri) (m : Nat) : (putT l t m).length = l.length := by simp [putT]
theorem put_get {l : List Int} {t : Tri} {m : Nat} (h1 : t.1 < l.length) (h2 : t.2.1 < l.length) (h3 : t.2.2 < l.length) (p : Nat) :
    (putT l t m).getD p 0 = if p = t.1 ∨ p = t.2.1 ∨ p = t.2.2 then (m : Int) else l.getD p 0 := by
  unfold putT
  rw [getD_setI _ _ _ _ (by simpa using h3), getD_setI _ _ _ _ (by simpa using h2), getD_setI _ _ _ _ h1]
  by_cases e3 : p = t.2.2
  · rw [if_pos e3, if_pos (.inr (.inr e3))]
  · rw [if_neg e3]
    by_cases e2 : p = t.2.1
    · rw [if_pos e2, if_pos (.inr (.inl e2))]
    · rw [if_neg e2]
      by_cases e1 : p = t.1
      · rw [if_pos e1, if_pos (.inl e1)]
      · rw [if_neg e1, if_neg (by rintro (h | h | h) <;> contradiction)]
theorem okT_true {l : List Int} {t : Tri} (h : okT l t = true) : l.getD t.1 0 = -1 ∧ l.getD t.2.1 0 = -1 ∧ l.getD t.2.2 0 = -1 := by
  unfold okT at h
  simp only [Bool.and_eq_true, beq_iff_eq] at h
  exact ⟨h.1.1, h.1.2, h.2⟩
theorem okT_mk {l : List Int} {t : Tri} (h1 : l.getD t.1 0 = -1) (h2 : l.getD t.2.1 0 = -1) (h3 : l.getD t.2.2 0 = -1) : okT l t = true := by
  unfold okT; simp only [h1, h2, h3]; rfl
/-- What the way knows on its way. -/
structure PV (Q : Tri → Bool) (n : Nat) (l : List Int) (m : Nat) (T : List Tri) : Prop where
  pl : PL Q n l m
  srt : T.Pairwise ltT
  inT : ∀ t ∈ T, t.1 < t.2.1 ∧ t.2.1 < t.2.2 ∧ t.2.2 < n ∧ Q t = true
  beh : ∀ t ∈ T, ∀ s : Nat, s < m → ∃ p, p ≤ t.1 ∧ l.getD p 0 = s
theorem PV.skip {Q : Tri → Bool} {n m : Nat} {l : List Int} {t : Tri} {T : List Tri} (h : PV Q n l m (t :: T)) : PV Q n l m T :=
  ⟨h.pl, (List.pairwise_cons.1 h.srt).2, fun s hs => h.inT s (by simp [hs]), fun s hs => h.beh s (by simp [hs])⟩
theorem ofP_put {l : List Int} {t : Tri} {m : Nat} {k : Int} (h1 : t.1 < t.2.1) (h2 : t.2.1 < t.2.2) (h3 : t.2.2 < l.length) (hok : okT l t = true) (hk : k ≠ m) (hk1 : k ≠ -1) : ofP (putT l t m) k = ofP l k := by
  obtain ⟨o1, o2, o3⟩ := okT_true hok
  refine eq_of_srt (ofP_srt _ _) (ofP_srt _ _) fun p => ?_
  rw [ofP_mem, ofP_mem, put_len, put_get (by omega) (by omega) h3]
  by_cases e : p = t.1 ∨ p = t.2.1 ∨ p = t.2.2
  · rw [if_pos e]
    constructor
    · rintro ⟨_, h⟩; exact absurd h.symm hk
    · rintro ⟨_, h⟩
      exfalso
      rcases e with e | e | e
      · rw [e, o1] at h; exact hk1 h.symm
      · rw [e, o2] at h; exact hk1 h.symm
      · rw [e, o3] at h; exact hk1 h.symm
  · rw [if_neg e]
theorem ofP_putm {l : List Int} {t : Tri} {m : Nat} (h1 : t.1 < t.2.1) (h2 : t.2.1 < t.2.2) (h3 : t.2.2 < l.length) (hno : ∀ p, p < l.length → l.getD p 0 ≠ (m : Int)) : ofP (putT l t m) m = [t.1, t.2.1, t.2.2] := by
  refine eq_of_srt (ofP_srt _ _) (by simp only [List.pairwise_cons, List.mem_cons, List.not_mem_nil, or_false, forall_eq_or_imp, forall_eq]; simp; omega) fun p => ?_
  rw [ofP_mem, put_len, put_get (by omega) (by omega) h3]
  simp only [List.mem_cons, List.not_mem_nil, or_false]
  by_cases e : p = t.1 ∨ p = t.2.1 ∨ p = t.2.2
  · rw [if_pos e]
    exact ⟨fun _ => e, fun _ => ⟨by omega, rfl⟩⟩
  · rw [if_neg e]
    exact ⟨fun h => absurd h.2 (hno p h.1), fun h => absurd h e⟩
theorem PV.put {Q : Tri → Bool} {n m : Nat} {l : List Int} {t : Tri} {T : List Tri} (h : PV Q n l m (t :: T)) (hok : okT l t = true) : PV Q n (putT l t m) (m + 1) T := by
  obtain ⟨h1, h2, h3, hQ⟩ := h.inT t (by simp)
  obtain ⟨o1, o2, o3⟩ := okT_true hok
  have hl := h.pl.len
  have hs := List.pairwise_cons.1 h.srt
  have hg := fun p => put_get (l := l) (t := t) (m := m) (by omega) (by omega) (by omega) p
  -- what has a number below m keeps it
  have hkeep : ∀ p (s : Nat), l.getD p 0 = (s : Int) → (putT l t m).getD p 0 = s := fun p s hp => by
    rw [hg p, if_neg]
    · exact hp
    · rintro (e | e | e) <;> rw [e] at hp <;> omega
  refine ⟨⟨by rw [put_len]; exact hl, fun p hp => ?_, fun q hq s hs' => ?_, fun s hs' => ?_⟩, hs.2, fun s hs' => h.inT s (by simp [hs']), fun u hu s hs' => ?_⟩
  · rw [hg p]
    have := h.pl.rng p hp
    split <;> omega
  · rw [hg q] at hs'
    by_cases e : q = t.1 ∨ q = t.2.1 ∨ q = t.2.2
    · rw [if_pos e] at hs'
      obtain ⟨p, hp, hp2⟩ := h.beh t (by simp) s (by omega)
      refine ⟨p, ?_, hkeep p s hp2⟩
      have : p ≠ t.1 := fun e => by rw [e] at hp2; omega
      omega
    · rw [if_neg e] at hs'
      obtain ⟨p, hp, hp2⟩ := h.pl.num q hq s hs'
      exact ⟨p, hp, hkeep p s hp2⟩
  · by_cases e : s = m
    · subst e
      exact ⟨t, ofP_putm h1 h2 (by omega) (fun p hp => by have := h.pl.rng p (by omega); omega), hQ⟩
    · obtain ⟨u, hu⟩ := h.pl.thr s (by omega)
      refine ⟨u, ?_, hu.2⟩
      rw [ofP_put h1 h2 (by omega) hok (by omega) (by omega)]
      exact hu.1
  · by_cases e : s = m
    · subst e
      refine ⟨t.1, ?_, ?_⟩
      · have := hs.1 u hu
        unfold ltT at this
        omega
      · rw [hg, if_pos (.inl rfl)]
    · obtain ⟨p, hp, hp2⟩ := h.beh u (by simp [hu]) s (by omega)
      exact ⟨p, hp, hkeep p s hp2⟩
theorem vis_pl {Q : Tri → Bool} {n : Nat} : ∀ (T : List Tri) (m : Nat) (l : List Int), PV Q n l m T → ∀ l' ∈ visT m l T, ∃ M, m < M ∧ PL Q n l' M
  | [], _, _, _, _, h => by simp [visT] at h
  | t :: T, m, l, hv, l', h => by
    rw [visT, List.mem_append] at h
    rcases h with h | h
    · by_cases hok : okT l t = true
      · rw [if_pos hok, List.mem_cons] at h
        have hp := hv.put hok
        rcases h with h | h
        · subst h; exact ⟨m + 1, by omega, hp.pl⟩
        · obtain ⟨M, h1, h2⟩ := vis_pl T (m + 1) _ hp l' h
          exact ⟨M, by omega, h2⟩
      · rw [if_neg hok] at h; simp at h
    · exact vis_pl T m l hv.skip l' h
/-- What has a number on the way keeps its places. -/
theorem vis_keep {Q : Tri → Bool} {n : Nat} : ∀ (T : List Tri) (m : Nat) (l : List Int), PV Q n l m T → ∀ l' ∈ visT m l T, ∀ k : Nat, k < m → ofP l' k = ofP l k
  | [], _, _, _, _, h, _, _ => by simp [visT] at h
  | t :: T, m, l, hv, l', h, k, hk => by
    rw [visT, List.mem_append] at h
    rcases h with h | h
    · by_cases hok : okT l t = true
      · rw [if_pos hok, List.mem_cons] at h
        have hp := hv.put hok
        obtain ⟨h1, h2, h3, _⟩ := hv.inT t (by simp)
        have e := ofP_put h1 h2 (by rw [hv.pl.len]; exact h3) hok (m := m) (k := (k : Int)) (by omega) (by omega)
        rcases h with h | h
        · subst h; exact e
        · rw [vis_keep T (m + 1) _ hp l' h k (by omega)]; exact e
      · rw [if_neg hok] at h; simp at h
    · exact vis_keep T m l hv.skip l' h k hk
/-- No part. -/
def noP (n : Nat) : List Int := List.replicate n (-1)
def triP (Q : Tri → Bool) (n : Nat) : List Tri := (allQ n).filter Q
theorem noP_get {n p : Nat} (h : p < n) : (noP n).getD p 0 = -1 := by unfold noP; simp [List.getD_eq_getElem?_getD, h]
theorem noP_pv (Q : Tri → Bool) (n : Nat) : PV Q n (noP n) 0 (triP Q n) :=
  ⟨⟨by simp [noP], fun p hp => by rw [noP_get hp]; omega, fun q hq s hs => by rw [noP_get hq] at hs; omega, fun s hs => by omega⟩,
   List.Pairwise.filter _ (q1_srt n n), fun t ht => by
     have h := List.mem_filter.1 ht
     have h2 := allQ_mem.1 h.1
     exact ⟨h2.1, h2.2.1, h2.2.2, h.2⟩, fun t ht s hs => by omega⟩
theorem visP_pl {Q : Tri → Bool} {n : Nat} {l : List Int} (h : l ∈ visP 0 (noP n) (triP Q n)) : ∃ M, PL Q n l M := by
  unfold visP at h
  rw [List.mem_cons] at h
  rcases h with h | h
  · subst h; exact ⟨0, (noP_pv Q n).pl⟩
  · obtain ⟨M, _, h2⟩ := vis_pl _ 0 _ (noP_pv Q n) l h
    exact ⟨M, h2⟩

/-! All part lists come. -/
def putA : List Int → Nat → List Tri → List Int
  | l, _, [] => l
  | l, m, t :: ts => putA (putT l t m) (m + 1) ts
def okA : List Int → Nat → List Tri → Prop
  | _, _, [] => True
  | l, m, t :: ts => okT l t = true ∧ okA (putT l t m) (m + 1) ts
theorem vis_has {ts T : List Tri} (h : ts.Sublist T) : ∀ (m : Nat) (l : List Int), okA l m ts → putA l m ts ∈ visP m l T := by
  induction h with
  | slnil => intro m l _; simp [putA, visP]
  | cons t _ ih =>
    intro m l hok
    have := ih m l hok
    unfold visP at this ⊢
    rw [List.mem_cons] at this ⊢
    rw [visT, List.mem_append]
    rcases this with h | h
    · exact .inl h
    · exact .inr (.inr h)
  | cons_cons t _ ih =>
    intro m l hok
    have := ih (m + 1) (putT l t m) hok.2
    unfold visP at this ⊢
    rw [putA, List.mem_cons, visT, List.mem_append, if_pos hok.1]
    exact .inr (.inl this)
theorem sub_of_srt : ∀ {T ts : List Tri}, T.Pairwise ltT → ts.Pairwise ltT → (∀ t ∈ ts, t ∈ T) → ts.Sublist T
  | [], [], _, _, _ => .slnil
  | [], t :: ts, _, _, h => absurd (h t (by simp)) (by simp)
  | a :: T, [], _, _, _ => List.nil_sublist _
  | a :: T, t :: ts, hT, hs, h => by
    rw [List.pairwise_cons] at hT hs
    by_cases e : t = a
    · subst e
      refine .cons_cons t (sub_of_srt hT.2 hs.2 fun u hu => ?_)
      rcases List.mem_cons.1 (h u (by simp [hu])) with e | e
      · have := hs.1 u hu; rw [e] at this; unfold ltT at this; omega
      · exact e
    · refine .cons a (sub_of_srt hT.2 (List.pairwise_cons.2 hs) fun u hu => ?_)
      rcases List.mem_cons.1 (h u hu) with e2 | e2
      · exfalso
        rcases List.mem_cons.1 (h t (by simp)) with e3 | e3
        · exact e e3
        · have h1 := hT.1 t e3
          rcases List.mem_cons.1 hu with e4 | e4
          · rw [← e4, e2] at e3; exact e (e4.symm.trans e2)
          · have h2 := hs.1 u e4
            rw [e2] at h2
            unfold ltT at h1 h2
            omega
      · exact e2
/-- A part list's first threes alone. -/
def cutL (l : List Int) (m : Nat) : List Int := l.map fun x : Int => if x < (m : Int) then x else -1
theorem cut_len (l : List Int) (m : Nat) : (cutL l m).length = l.length := by simp [cutL]
theorem cut_get {l : List Int} {m p : Nat} (h : p < l.length) : (cutL l m).getD p 0 = if l.getD p 0 < m then l.getD p 0 else -1 := by
  unfold cutL
  simp [List.getD_eq_getElem?_getD, h]
def tsF (l : List Int) : Nat → Nat → List Tri
  | _, 0 => []
  | m, k + 1 => triOf l m :: tsF l (m + 1) k
theorem tsF_mem {l : List Int} {t : Tri} : ∀ (k m : Nat), t ∈ tsF l m k → ∃ s : Nat, m ≤ s ∧ s < m + k ∧ t = triOf l s
  | 0, m, h => by simp [tsF] at h
  | k + 1, m, h => by
    rw [tsF, List.mem_cons] at h
    rcases h with h | h
    · exact ⟨m, Nat.le_refl _, by omega, h⟩
    · obtain ⟨s, h1, h2, h3⟩ := tsF_mem k (m + 1) h
      exact ⟨s, by omega, by omega, h3⟩
theorem PL.cut {Q : Tri → Bool} {n M : Nat} {l : List Int} (h : PL Q n l M) {m : Nat} (hm : m < M) : okT (cutL l m) (triOf l m) = true ∧ putT (cutL l m) (triOf l m) m = cutL l (m + 1) := by
  obtain ⟨h1, _⟩ := h.tri hm
  obtain ⟨i1, i2, i3⟩ := inc_of h1
  have hin : ∀ p, p < l.length → (l.getD p 0 = (m : Int) ↔ p = (triOf l m).1 ∨ p = (triOf l m).2.1 ∨ p = (triOf l m).2.2) := fun p hp => by
    have : p ∈ ofP l (m : Int) ↔ p ∈ [(triOf l m).1, (triOf l m).2.1, (triOf l m).2.2] := by rw [h1]
    rw [ofP_mem] at this
    simp only [List.mem_cons, List.not_mem_nil, or_false] at this
    exact ⟨fun h => this.1 ⟨hp, h⟩, fun h => (this.2 h).2⟩
  constructor
  · refine okT_mk ?_ ?_ ?_
    · rw [cut_get (by omega), (hin _ (by omega)).2 (.inl rfl), if_neg (by omega)]
    · rw [cut_get (by omega), (hin _ (by omega)).2 (.inr (.inl rfl)), if_neg (by omega)]
    · rw [cut_get (by omega), (hin _ (by omega)).2 (.inr (.inr rfl)), if_neg (by omega)]
  · refine ext_getD (by rw [put_len, cut_len, cut_len]) fun p hp => ?_
    rw [put_len, cut_len] at hp
    rw [put_get (by rw [cut_len]; omega) (by rw [cut_len]; omega) (by rw [cut_len]; omega), cut_get hp, cut_get hp]
    have := hin p hp
    by_cases e : p = (triOf l m).1 ∨ p = (triOf l m).2.1 ∨ p = (triOf l m).2.2
    · rw [if_pos e, this.2 e, if_pos (by omega)]
    · rw [if_neg e]
      have hne : l.getD p 0 ≠ (m : Int) := fun h => e (this.1 h)
      by_cases g : l.getD p 0 < m
      · rw [if_pos g, if_pos (by omega)]
      · rw [if_neg g, if_neg (by omega)]
theorem PL.putA {Q : Tri → Bool} {n M : Nat} {l : List Int} (h : PL Q n l M) : ∀ (k m : Nat), m + k ≤ M → okA (cutL l m) m (tsF l m k) ∧ putA (cutL l m) m (tsF l m k) = cutL l (m + k)
  | 0, m, _ => ⟨trivial, rfl⟩
  | k + 1, m, hm => by
    obtain ⟨h1, h2⟩ := h.cut (m := m) (by omega)
    obtain ⟨h3, h4⟩ := h.putA k (m + 1) (by omega)
    rw [tsF, okA, Go.Proofs.Ytiadnbdefcimiaa.putA, h2]
    exact ⟨⟨h1, h3⟩, by rw [h4]; congr 1; omega⟩
theorem PL.asc {Q : Tri → Bool} {n M : Nat} {l : List Int} (h : PL Q n l M) {a b : Nat} (hab : a < b) (hb : b < M) : (triOf l a).1 < (triOf l b).1 := by
  obtain ⟨h1, _⟩ := h.tri (s := a) (by omega)
  obtain ⟨h2, _⟩ := h.tri hb
  have m2 : (triOf l b).1 ∈ ofP l (b : Int) := by rw [h2]; simp
  rw [ofP_mem] at m2
  obtain ⟨p, hp, hp2⟩ := h.num (triOf l b).1 (by rw [← h.len]; exact m2.1) a (by rw [m2.2]; omega)
  have hp3 : p ∈ ofP l (a : Int) := ofP_mem.2 ⟨by omega, hp2⟩
  rw [h1] at hp3
  obtain ⟨i1, i2, i3⟩ := inc_of h1
  simp only [List.mem_cons, List.not_mem_nil, or_false] at hp3
  omega
theorem PL.tsF {Q : Tri → Bool} {n M : Nat} {l : List Int} (h : PL Q n l M) : ∀ (k m : Nat), m + k ≤ M → (tsF l m k).Pairwise ltT
  | 0, m, _ => List.Pairwise.nil
  | k + 1, m, hm => by
    rw [Go.Proofs.Ytiadnbdefcimiaa.tsF, List.pairwise_cons]
    refine ⟨fun t ht => ?_, h.tsF k (m + 1) (by omega)⟩
    obtain ⟨s, h1, h2, rfl⟩ := tsF_mem k (m + 1) ht
    exact .inl (h.asc (by omega) (by omega))
theorem PL.vis {Q : Tri → Bool} {n M : Nat} {l : List Int} (h : PL Q n l M) : l ∈ visP 0 (noP n) (triP Q n) := by
  obtain ⟨h1, h2⟩ := h.putA M 0 (by omega)
  have e0 : cutL l 0 = noP n := ext_getD (by rw [cut_len, h.len]; simp [noP]) fun p hp => by
    rw [cut_len] at hp
    have := h.rng p (by rw [← h.len]; exact hp)
    rw [cut_get hp, noP_get (by rw [← h.len]; exact hp)]
    split <;> omega
  have e1 : cutL l (0 + M) = l := ext_getD (cut_len _ _) fun p hp => by
    rw [cut_len] at hp
    have := h.rng p (by rw [← h.len]; exact hp)
    rw [cut_get hp, if_pos (by rw [Nat.zero_add]; exact this.2)]
  rw [e0] at h1 h2
  rw [e1] at h2
  rw [← h2]
  refine vis_has (sub_of_srt (noP_pv Q n).srt (h.tsF M 0 (by omega)) fun t ht => ?_) 0 _ h1
  obtain ⟨s, _, hs, rfl⟩ := tsF_mem M 0 ht
  obtain ⟨k1, k2⟩ := h.tri (s := s) (by omega)
  obtain ⟨i1, i2, i3⟩ := inc_of k1
  exact List.mem_filter.2 ⟨allQ_mem.2 ⟨i1, i2, by rw [← h.len]; exact i3⟩, k2⟩
theorem vis_iff {Q : Tri → Bool} {n : Nat} {l : List Int} : l ∈ visP 0 (noP n) (triP Q n) ↔ ∃ M, PL Q n l M :=
  ⟨visP_pl, fun ⟨_, h⟩ => h.vis⟩
end Go.Proofs.Ytiadnbdefcimiaa

/- Pure facts of parting: counting ways, sums, greatest ones. Nothing of the program. -/
namespace Go.Proofs.Ytiadnbdefcimiaa

/-- All sticks are in threes. -/
def whlB (l : List Int) : Bool := !decide ((-1 : Int) ∈ l)
/-- The free places as a set. -/
def Rl (l : List Int) (U : Nat) : Prop := ∀ p, U.testBit p = (decide (p < l.length) && (l.getD p 0 == -1))
theorem Rl.ok {l : List Int} {U : Nat} (h : Rl l U) {t : Tri} (h1 : t.1 < l.length) (h2 : t.2.1 < l.length) (h3 : t.2.2 < l.length) : okT l t = fitU U t := by
  unfold okT fitU
  rw [h t.1, h t.2.1, h t.2.2, decide_eq_true h1, decide_eq_true h2, decide_eq_true h3]
  simp
theorem Rl.put {l : List Int} {U m : Nat} {t : Tri} (h : Rl l U) (h1 : t.1 < l.length) (h2 : t.2.1 < l.length) (h3 : t.2.2 < l.length) (hok : fitU U t = true) : Rl (putT l t m) (U ^^^ thrU t) := by
  intro p
  rw [put_len, put_get h1 h2 h3]
  by_cases e : p = t.1 ∨ p = t.2.1 ∨ p = t.2.2
  · rw [if_pos e, xor_on hok (by rcases e with e | e | e <;> simp [e])]
    have : ((m : Int) == -1) = false := by simp
    rw [this, Bool.and_false]
  · rw [if_neg e, xor_off (fun g => e (.inl g.symm)) (fun g => e (.inr (.inl g.symm))) (fun g => e (.inr (.inr g.symm)))]
    exact h p
theorem Rl.whole {l : List Int} {U : Nat} (h : Rl l U) : (U = 0) ↔ whlB l = true := by
  unfold whlB
  rw [Bool.not_eq_true', decide_eq_false_iff_not]
  constructor
  · rintro rfl hm
    obtain ⟨p, hp, e⟩ := List.getElem_of_mem hm
    have := h p
    rw [Nat.zero_testBit, decide_eq_true hp, List.getD_eq_getElem?_getD, List.getElem?_eq_getElem hp, Option.getD_some, e] at this
    exact absurd this (by decide)
  · intro hm
    refine Nat.eq_of_testBit_eq fun p => ?_
    rw [h p, Nat.zero_testBit]
    by_cases hp : p < l.length
    · have : (l.getD p 0 == -1) = false := by
        rw [beq_eq_false_iff_ne]
        intro e
        refine hm ?_
        rw [List.getD_eq_getElem?_getD, List.getElem?_eq_getElem hp, Option.getD_some] at e
        rw [← e]
        exact List.getElem_mem _
      rw [this, Bool.and_false]
    · rw [decide_eq_false hp]; rfl
theorem noP_rl (n : Nat) : Rl (noP n) (2 ^ n - 1) := fun p => by
  rw [Nat.testBit_two_pow_sub_one]
  by_cases h : p < n
  · rw [noP_get h, show (noP n).length = n by simp [noP]]; simp
  · rw [show (noP n).length = n by simp [noP], decide_eq_false h]; rfl
theorem count_vis (f : List Int → Bool) (m : Nat) (l : List Int) (t : Tri) (T : List Tri) :
    (visP m l (t :: T)).countP f = (visP m l T).countP f + if okT l t = true then (visP (m + 1) (putT l t m) T).countP f else 0 := by
  unfold visP
  rw [List.countP_cons, List.countP_cons, visT, List.countP_append]
  by_cases h : okT l t = true
  · rw [if_pos h, if_pos h]; omega
  · rw [if_neg h, if_neg h, List.countP_nil]; omega
theorem ways_cov : ∀ (T : List Tri) (m : Nat) (l : List Int) (U : Nat), Rl l U → (∀ t ∈ T, t.1 < l.length ∧ t.2.1 < l.length ∧ t.2.2 < l.length) → (visP m l T).countP whlB = covN T U
  | [], m, l, U, hr, _ => by
    unfold visP visT
    rw [covN, List.countP_cons, List.countP_nil, Nat.zero_add]
    by_cases e : U = 0
    · rw [if_pos e, if_pos (hr.whole.1 e)]
    · rw [if_neg e, if_neg fun h => e (hr.whole.2 h)]
  | t :: T, m, l, U, hr, hT => by
    obtain ⟨h1, h2, h3⟩ := hT t (by simp)
    rw [count_vis, covN, ways_cov T m l U hr fun s hs => hT s (by simp [hs]), hr.ok h1 h2 h3]
    by_cases e : fitU U t = true
    · rw [if_pos e, if_pos e, ways_cov T (m + 1) _ _ (hr.put h1 h2 h3 e) fun s hs => by rw [put_len]; exact hT s (by simp [hs])]
    · rw [if_neg e, if_neg e]
theorem tri_in {Q : Tri → Bool} {n : Nat} : ∀ t ∈ triP Q n, t.1 < (noP n).length ∧ t.2.1 < (noP n).length ∧ t.2.2 < (noP n).length := fun t ht => by
  have := allQ_mem.1 (List.mem_filter.1 ht).1
  rw [show (noP n).length = n by simp [noP]]
  omega
/-- The number of ways. -/
def wayP (Q : Tri → Bool) (n : Nat) : Nat := covN (triP Q n) (2 ^ n - 1)
theorem ways_is (Q : Tri → Bool) (n : Nat) : (visP 0 (noP n) (triP Q n)).countP whlB = wayP Q n := ways_cov _ 0 _ _ (noP_rl n) tri_in
theorem wayP_le {Q : Tri → Bool} {n : Nat} (hn : n ≤ 9) : wayP Q n ≤ 280 := cov_le280 hn Q
theorem wayP_pos {Q : Tri → Bool} {n : Nat} : 0 < wayP Q n ↔ ∃ l M, PL Q n l M ∧ whlB l = true := by
  rw [← ways_is, List.countP_pos_iff]
  constructor
  · rintro ⟨l, hl, hw⟩
    obtain ⟨M, h⟩ := visP_pl hl
    exact ⟨l, M, h, hw⟩
  · rintro ⟨l, M, h, hw⟩
    exact ⟨l, h.vis, hw⟩

/-! Sums of weights. -/
def sI (n : Nat) (f : Nat → Int) : Int := match n with
  | 0 => 0
  | n + 1 => sI n f + f n
theorem sI_ext {f g : Nat → Int} : ∀ n, (∀ i, i < n → f i = g i) → sI n f = sI n g
  | 0, _ => rfl
  | n + 1, h => by rw [sI, sI, sI_ext n (fun i hi => h i (by omega)), h n (by omega)]
theorem sI_add (f g : Nat → Int) : ∀ n, sI n (fun i => f i + g i) = sI n f + sI n g
  | 0 => rfl
  | n + 1 => by rw [sI, sI, sI, sI_add f g n]; omega
theorem sI_zero : ∀ n, sI n (fun _ => 0) = 0
  | 0 => rfl
  | n + 1 => by rw [sI, sI_zero n]; rfl
theorem sI_const (c : Int) : ∀ n, sI n (fun _ => c) = n * c
  | 0 => by simp [sI]
  | n + 1 => by rw [sI, sI_const c n, Int.natCast_succ, Int.add_mul]; omega
theorem sI_swap (f : Nat → Nat → Int) (m : Nat) : ∀ n, sI n (fun i => sI m (fun j => f i j)) = sI m (fun j => sI n (fun i => f i j))
  | 0 => (sI_zero m).symm
  | n + 1 => by
    rw [sI, sI_swap f m n, ← sI_add]
    exact sI_ext m fun j _ => by rw [sI]
theorem sI_one (g : Nat → Int) {k : Nat} : ∀ {n : Nat}, k < n → sI n (fun i => if i = k then g i else 0) = g k
  | 0, h => by omega
  | n + 1, h => by
    rw [sI]
    by_cases e : n = k
    · subst e
      rw [if_pos rfl, sI_ext n (g := fun _ => 0) fun i hi => if_neg (by omega), sI_zero]; omega
    · rw [if_neg e, sI_one g (by omega)]; omega
theorem sI_none (g : Nat → Int) {x : Int} (hx : x < 0) (n : Nat) : sI n (fun i => if (i : Int) = x then g i else 0) = 0 := by
  rw [sI_ext n (g := fun _ => 0) fun i _ => if_neg (by omega), sI_zero]
/-- The sum of the weights of the places that have a number. -/
def sumW (f : Nat → Int) (l : List Int) (k : Int) : Int := sI l.length fun p => if l.getD p 0 = k then f p else 0
theorem sumW_of (f : Nat → Int) (l : List Int) (k : Int) : ((ofP l k).map f).sum = sumW f l k := by
  unfold ofP sumW
  have : ∀ n, (((List.range n).filter fun p => l.getD p 0 == k).map f).sum = sI n fun p => if l.getD p 0 = k then f p else 0 := by
    intro n
    induction n with
    | zero => rfl
    | succ n ih =>
      rw [List.range_succ, List.filter_append, List.map_append, List.sum_append, ih, sI, List.filter_cons, List.filter_nil]
      by_cases h : l.getD n 0 = k
      · rw [if_pos h, if_pos (by simpa using h)]; simp
      · rw [if_neg h, if_neg (by simpa using h)]; simp
  exact this _
/-- All places together. -/
theorem PL.sum {Q : Tri → Bool} {n M : Nat} {l : List Int} (h : PL Q n l M) (f : Nat → Int) : sI M (fun k => sumW f l k) + sumW f l (-1) = sI n f := by
  unfold sumW
  rw [h.len, sI_swap, ← sI_add]
  refine sI_ext n fun p hp => ?_
  have hr := h.rng p hp
  rcases Int.lt_or_le (l.getD p 0) 0 with g | g
  · have e : l.getD p 0 = -1 := by omega
    rw [if_pos e, sI_ext M (g := fun _ => 0) fun i _ => if_neg (by omega), sI_zero]; omega
  · obtain ⟨k, hk⟩ : ∃ k : Nat, l.getD p 0 = k := ⟨(l.getD p 0).toNat, by omega⟩
    rw [hk, if_neg (by omega), sI_ext M (g := fun i => if i = k then f p else 0) fun i _ => by
      by_cases e : i = k
      · rw [e, if_pos rfl, if_pos rfl]
      · rw [if_neg e, if_neg (by omega)], sI_one (fun _ => f p) (by omega)]
    omega
theorem PL.three {Q : Tri → Bool} {n M : Nat} {l : List Int} (h : PL Q n l M) (f : Nat → Int) {k : Nat} (hk : k < M) : sumW f l k = f (triOf l k).1 + f (triOf l k).2.1 + f (triOf l k).2.2 := by
  obtain ⟨h1, _⟩ := h.tri hk
  rw [← sumW_of, h1]
  simp
  omega
theorem sumW_nn {f : Nat → Int} {l : List Int} {k : Int} (hf : ∀ p, p < l.length → 0 ≤ f p) : 0 ≤ sumW f l k := by
  unfold sumW
  have : ∀ n, n ≤ l.length → 0 ≤ sI n fun p => if l.getD p 0 = k then f p else 0 := by
    intro n
    induction n with
    | zero => exact fun _ => Int.le_refl _
    | succ n ih =>
      intro hn
      rw [sI]
      have := ih (by omega)
      have := hf n (by omega)
      split <;> omega
  exact this _ (Nat.le_refl _)
theorem PL.cnt {Q : Tri → Bool} {n M : Nat} {l : List Int} (h : PL Q n l M) : 3 * (M : Int) + sumW (fun _ => 1) l (-1) = n := by
  have h1 := h.sum (fun _ => 1)
  rw [sI_const, sI_ext M (g := fun _ => 3) fun k hk => h.three _ hk, sI_const] at h1
  omega
theorem PL.le {Q : Tri → Bool} {n M : Nat} {l : List Int} (h : PL Q n l M) : 3 * M ≤ n := by
  have h1 := h.cnt
  have h2 := sumW_nn (f := fun _ => 1) (l := l) (k := -1) fun _ _ => by decide
  omega
theorem whole_none {f : Nat → Int} {l : List Int} (h : whlB l = true) : sumW f l (-1) = 0 := by
  unfold sumW
  rw [sI_ext l.length (g := fun _ => 0), sI_zero]
  intro p hp
  rw [if_neg]
  intro e
  unfold whlB at h
  rw [Bool.not_eq_true', decide_eq_false_iff_not] at h
  refine h ?_
  rw [List.getD_eq_getElem?_getD, List.getElem?_eq_getElem hp, Option.getD_some] at e
  rw [← e]; exact List.getElem_mem _
theorem whole_of {Q : Tri → Bool} {n M : Nat} {l : List Int} (h : PL Q n l M) (hM : 3 * M = n) : whlB l = true := by
  unfold whlB
  rw [Bool.not_eq_true', decide_eq_false_iff_not]
  intro hm
  have h1 := h.cnt
  have h0 : sumW (fun _ => 1) l (-1) = 0 := by omega
  obtain ⟨p, hp, e⟩ := List.getElem_of_mem hm
  have hq : p ∈ ofP l (-1) := ofP_mem.2 ⟨hp, by rw [List.getD_eq_getElem?_getD, List.getElem?_eq_getElem hp, Option.getD_some, e]⟩
  rw [← sumW_of] at h0
  have h2 : ((ofP l (-1)).map fun _ => (1 : Int)).sum = (ofP l (-1)).length := by
    generalize ofP l (-1) = L
    induction L with
    | nil => rfl
    | cons x t ih => rw [List.map_cons, List.sum_cons, ih, List.length_cons]; omega
  rw [h2] at h0
  have := List.length_pos_of_mem hq
  omega

/-! Threes of one sum. -/
/-- All threes of a list have a sum. -/
def evP (f : Nat → Int) (s : Int) (l : List Int) : Bool := (List.range l.length).all fun p => decide (l.getD p 0 < 0) || (sumW f l (l.getD p 0) == s)
theorem evP_iff {Q : Tri → Bool} {n M : Nat} {l : List Int} (h : PL Q n l M) (f : Nat → Int) (s : Int) : evP f s l = true ↔ ∀ k : Nat, k < M → sumW f l k = s := by
  unfold evP
  rw [List.all_eq_true]
  constructor
  · intro ha k hk
    obtain ⟨h1, _⟩ := h.tri hk
    obtain ⟨i1, i2, i3⟩ := inc_of h1
    have hm : (triOf l k).1 ∈ ofP l (k : Int) := by rw [h1]; simp
    have := ha (triOf l k).1 (List.mem_range.2 (by omega))
    rw [(ofP_mem.1 hm).2] at this
    simp only [Bool.or_eq_true, decide_eq_true_eq, beq_iff_eq] at this
    rcases this with g | g
    · omega
    · exact g
  · intro ha p hp
    rw [List.mem_range] at hp
    have hr := h.rng p (by rw [← h.len]; exact hp)
    simp only [Bool.or_eq_true, decide_eq_true_eq, beq_iff_eq]
    rcases Int.lt_or_le (l.getD p 0) 0 with g | g
    · exact .inl g
    · right
      obtain ⟨k, hk⟩ : ∃ k : Nat, l.getD p 0 = k := ⟨(l.getD p 0).toNat, by omega⟩
      rw [hk]
      exact ha k (by omega)
def sumT (f : Nat → Int) (t : Tri) : Int := f t.1 + f t.2.1 + f t.2.2
theorem even_cov {Q : Tri → Bool} {n : Nat} (f : Nat → Int) (s : Int) : ∀ (T : List Tri) (m : Nat) (l : List Int) (U : Nat), PV Q n l m T → Rl l U → (∀ k : Nat, k < m → sumW f l k = s) →
    (visP m l T).countP (fun l => whlB l && evP f s l) = covN (T.filter fun t => sumT f t == s) U
  | [], m, l, U, hv, hr, he => by
    unfold visP visT
    rw [List.filter_nil, covN, List.countP_cons, List.countP_nil, Nat.zero_add, (evP_iff hv.pl f s).2 he, Bool.and_true]
    by_cases e : U = 0
    · rw [if_pos e, if_pos (hr.whole.1 e)]
    · rw [if_neg e, if_neg fun h => e (hr.whole.2 h)]
  | t :: T, m, l, U, hv, hr, he => by
    obtain ⟨h1, h2, h3, _⟩ := hv.inT t (by simp)
    have hl := hv.pl.len
    rw [count_vis, List.filter_cons, even_cov f s T m l U hv.skip hr he, hr.ok (by omega) (by omega) (by omega)]
    by_cases e : fitU U t = true
    · have hok : okT l t = true := by rw [hr.ok (by omega) (by omega) (by omega)]; exact e
      have hp := hv.put hok
      have hnew : sumW f (putT l t m) m = sumT f t := by
        rw [← sumW_of, ofP_putm h1 h2 (by omega) fun p hp => by have := hv.pl.rng p (by omega); omega]
        simp [sumT]; omega
      rw [if_pos e]
      by_cases g : (sumT f t == s) = true
      · rw [if_pos g, covN, if_pos e, even_cov f s T (m + 1) _ _ hp (hr.put (by omega) (by omega) (by omega) e) fun k hk => ?_]
        by_cases ek : k = m
        · rw [ek, hnew]; simpa using g
        · rw [← sumW_of, ofP_put h1 h2 (by omega) hok (by omega) (by omega), sumW_of]; exact he k (by omega)
      · rw [if_neg g, List.countP_eq_zero.2 fun l' hl' => ?_, Nat.add_zero]
        rw [Bool.and_eq_true, not_and]
        intro _
        have hkey : ∃ M, m < M ∧ PL Q n l' M ∧ sumW f l' m = sumT f t := by
          unfold visP at hl'
          rw [List.mem_cons] at hl'
          rcases hl' with hl' | hl'
          · subst hl'; exact ⟨m + 1, by omega, hp.pl, hnew⟩
          · obtain ⟨M, hM, hpl⟩ := vis_pl T (m + 1) _ hp l' hl'
            refine ⟨M, by omega, hpl, ?_⟩
            rw [← sumW_of, vis_keep T (m + 1) _ hp l' hl' m (by omega), sumW_of]; exact hnew
        obtain ⟨M, hM, hpl, hs⟩ := hkey
        rw [evP_iff hpl]
        intro hall
        have := hall m hM
        rw [hs] at this
        exact g (by simpa using this)
    · rw [if_neg e]
      by_cases g : (sumT f t == s) = true
      · rw [if_pos g, covN, if_neg e]
      · rw [if_neg g, Nat.add_zero]
theorem even_is {Q : Tri → Bool} {n : Nat} (f : Nat → Int) (s : Int) : (visP 0 (noP n) (triP Q n)).countP (fun l => whlB l && evP f s l) = wayP (fun t => Q t && (sumT f t == s)) n := by
  rw [even_cov f s _ 0 _ _ (noP_pv Q n) (noP_rl n) fun k hk => by omega]
  unfold wayP triP
  rw [List.filter_filter]
  congr 1
  refine List.filter_congr fun t _ => ?_
  rw [Bool.and_comm]
/-- All threes have the sum of the first one. -/
def evnB (f : Nat → Int) (l : List Int) : Bool := evP f (sumW f l 0) l
/-- The number of ways with equal sums. -/
def evnP (Q : Tri → Bool) (f : Nat → Int) (n : Nat) : Nat :=
  if n % 3 = 0 ∧ sI n f % ((n / 3 : Nat) : Int) = 0 then wayP (fun t => Q t && (sumT f t == sI n f / ((n / 3 : Nat) : Int))) n else 0
theorem evn_is {Q : Tri → Bool} {n : Nat} (h1 : 1 ≤ n) (f : Nat → Int) : (visP 0 (noP n) (triP Q n)).countP (fun l => whlB l && evnB f l) = evnP Q f n := by
  have key : ∀ l M, PL Q n l M → whlB l = true → 3 * M = n ∧ sI M (fun k => sumW f l k) = sI n f := fun l M h hw => by
    have g1 := h.cnt
    have g2 := h.sum f
    rw [whole_none hw] at g1 g2
    exact ⟨by omega, by omega⟩
  have evn : ∀ l M, PL Q n l M → whlB l = true → evnB f l = true → sI n f = M * sumW f l 0 := fun l M h hw he => by
    rw [← (key l M h hw).2, ← sI_const]
    exact sI_ext M fun k hk => (evP_iff h f _).1 he k hk
  unfold evnP
  by_cases hc : n % 3 = 0 ∧ sI n f % ((n / 3 : Nat) : Int) = 0
  · rw [if_pos hc, ← even_is]
    refine List.countP_congr fun l hl => ?_
    obtain ⟨M, h⟩ := visP_pl hl
    rw [Bool.and_eq_true, Bool.and_eq_true]
    constructor
    · rintro ⟨hw, he⟩
      refine ⟨hw, ?_⟩
      have k1 := (key l M h hw).1
      have k2 := evn l M h hw he
      rw [show n / 3 = M by omega, k2, Int.mul_ediv_cancel_left _ (by omega)]
      exact he
    · rintro ⟨hw, he⟩
      refine ⟨hw, ?_⟩
      have k1 := (key l M h hw).1
      have k2 := (evP_iff h f _).1 he 0 (by omega)
      unfold evnB
      rw [show ((0 : Nat) : Int) = 0 from rfl] at k2
      rw [k2]
      exact he
  · rw [if_neg hc, List.countP_eq_zero]
    intro l hl hn
    rw [Bool.and_eq_true] at hn
    obtain ⟨M, h⟩ := visP_pl hl
    have k1 := (key l M h hn.1).1
    have k2 := evn l M h hn.1 hn.2
    refine hc ⟨by omega, ?_⟩
    rw [show n / 3 = M by omega, k2, Int.mul_emod_right]
theorem evnP_le {Q : Tri → Bool} {n : Nat} (h1 : 1 ≤ n) (f : Nat → Int) : evnP Q f n ≤ wayP Q n := by
  rw [← evn_is h1, ← ways_is]
  refine List.countP_mono_left fun l _ hl => ?_
  rw [Bool.and_eq_true] at hl
  exact hl.1
theorem evnP_three {Q : Tri → Bool} (f : Nat → Int) : evnP Q f 3 = wayP Q 3 := by
  rw [← evn_is (by omega), ← ways_is]
  refine List.countP_congr fun l hl => ?_
  obtain ⟨M, h⟩ := visP_pl hl
  rw [Bool.and_eq_true]
  refine ⟨fun g => g.1, fun g => ⟨g, ?_⟩⟩
  have hM := h.le
  unfold evnB
  rw [evP_iff h]
  intro k hk
  obtain rfl : k = 0 := by omega
  rfl

/-! Greatest ones. -/
def mxR (f : List Int → Int) (L : List (List Int)) (b : Int) : Int := L.foldl (fun m l => max m (f l)) b
theorem mxR_le {f : List Int → Int} {c : Int} : ∀ (L : List (List Int)) (b : Int), mxR f L b ≤ c ↔ b ≤ c ∧ ∀ l ∈ L, f l ≤ c
  | [], b => by simp [mxR]
  | x :: L, b => by
    show mxR f L (max b (f x)) ≤ c ↔ _
    rw [mxR_le L]
    simp only [List.mem_cons, forall_eq_or_imp]
    rw [Int.max_le, and_assoc]
theorem mxR_eq {f g : List Int → Int} {A B : List (List Int)} (h : ∀ l, l ∈ A ↔ l ∈ B) (hf : ∀ l ∈ A, f l = g l) (b : Int) : mxR f A b = mxR g B b := by
  have h1 : mxR f A b ≤ mxR g B b := by
    rw [mxR_le]
    have := (mxR_le (f := g) (c := mxR g B b) B b).1 (Int.le_refl _)
    exact ⟨this.1, fun l hl => by rw [hf l hl]; exact this.2 l ((h l).1 hl)⟩
  have h2 : mxR g B b ≤ mxR f A b := by
    rw [mxR_le]
    have := (mxR_le (f := f) (c := mxR f A b) A b).1 (Int.le_refl _)
    exact ⟨this.1, fun l hl => by rw [← hf l ((h l).2 hl)]; exact this.2 l ((h l).2 hl)⟩
  omega
theorem mxR_ge {f : List Int → Int} {L : List (List Int)} {b : Int} : b ≤ mxR f L b ∧ ∀ l ∈ L, f l ≤ mxR f L b := (mxR_le L b).1 (Int.le_refl _)
theorem mxR_at {f : List Int → Int} : ∀ (L : List (List Int)) (b : Int), mxR f L b = b ∨ ∃ l ∈ L, mxR f L b = f l
  | [], b => .inl rfl
  | x :: L, b => by
    have h : mxR f (x :: L) b = mxR f L (max b (f x)) := rfl
    rw [h]
    rcases mxR_at (f := f) L (max b (f x)) with e | ⟨l, hl, e⟩
    · rcases Int.le_total b (f x) with g | g
      · exact .inr ⟨x, by simp, by rw [e]; omega⟩
      · exact .inl (by rw [e]; omega)
    · exact .inr ⟨l, by simp [hl], e⟩
/-- The number of threes of a list. -/
def thrL (l : List Int) : Int := l.foldl (fun m x => max m (x + 1)) 0
theorem thrL_le {c : Int} : ∀ (l : List Int) (b : Int), l.foldl (fun m x => max m (x + 1)) b ≤ c ↔ b ≤ c ∧ ∀ x ∈ l, x + 1 ≤ c
  | [], b => by simp
  | x :: l, b => by
    rw [List.foldl_cons, thrL_le l]
    simp only [List.mem_cons, forall_eq_or_imp]
    rw [Int.max_le, and_assoc]
theorem PL.threes {Q : Tri → Bool} {n M : Nat} {l : List Int} (h : PL Q n l M) : thrL l = M := by
  have h1 : thrL l ≤ M := by
    unfold thrL
    rw [thrL_le]
    refine ⟨by omega, fun x hx => ?_⟩
    obtain ⟨p, hp, e⟩ := List.getElem_of_mem hx
    have := h.rng p (by rw [← h.len]; exact hp)
    rw [List.getD_eq_getElem?_getD, List.getElem?_eq_getElem hp, Option.getD_some, e] at this
    omega
  have h2 : (M : Int) ≤ thrL l := by
    have hall := (thrL_le (c := thrL l) l 0).1 (Int.le_refl _)
    rcases Nat.eq_zero_or_pos M with e | e
    · rw [e]; exact hall.1
    · obtain ⟨k1, _⟩ := h.tri (s := M - 1) (by omega)
      have hm : (triOf l ((M - 1 : Nat) : Int)).1 ∈ ofP l ((M - 1 : Nat) : Int) := by rw [k1]; simp
      obtain ⟨hp, he⟩ := ofP_mem.1 hm
      have hx : ((M - 1 : Nat) : Int) ∈ l := by
        rw [← he, List.getD_eq_getElem?_getD, List.getElem?_eq_getElem hp, Option.getD_some]
        exact List.getElem_mem _
      have := hall.2 _ hx
      omega
  omega
/-- The greatest number of threes. -/
def mstP (Q : Tri → Bool) (n : Nat) : Int := mxR thrL (visP 0 (noP n) (triP Q n)) 0
theorem mstP_at (Q : Tri → Bool) (n : Nat) : ∃ l M, PL Q n l M ∧ mstP Q n = (M : Int) := by
  rcases mxR_at (f := thrL) (visP 0 (noP n) (triP Q n)) 0 with h | ⟨l, hl, h⟩
  · exact ⟨noP n, 0, (noP_pv Q n).pl, h⟩
  · obtain ⟨M, hM⟩ := visP_pl hl
    exact ⟨l, M, hM, by unfold mstP; rw [h, hM.threes]⟩
theorem mstP_ge {Q : Tri → Bool} {n M : Nat} {l : List Int} (h : PL Q n l M) : (M : Int) ≤ mstP Q n := by
  have := mxR_ge (f := thrL) (b := 0) (L := visP 0 (noP n) (triP Q n)) |>.2 l h.vis
  rw [h.threes] at this
  exact this
theorem mstP_le (Q : Tri → Bool) (n : Nat) : 3 * mstP Q n ≤ n ∧ 0 ≤ mstP Q n := by
  obtain ⟨l, M, h, e⟩ := mstP_at Q n
  have := h.le
  omega
/-- One three alone. -/
theorem one_pl {Q : Tri → Bool} {n : Nat} {t : Tri} (h : t ∈ triP Q n) : PL Q n (putT (noP n) t 0) 1 := by
  have hm := List.mem_filter.1 h
  have hi := allQ_mem.1 hm.1
  have hv : PV Q n (noP n) 0 [t] := ⟨(noP_pv Q n).pl, List.pairwise_singleton _ _, fun s hs => by
    rw [List.mem_singleton] at hs; subst hs; exact ⟨hi.1, hi.2.1, hi.2.2, hm.2⟩, fun s _ k hk => by omega⟩
  exact (hv.put (okT_mk (noP_get (by omega)) (noP_get (by omega)) (noP_get (by omega)))).pl
theorem mstP_zero {Q : Tri → Bool} {n : Nat} : mstP Q n = 0 ↔ triP Q n = [] := by
  constructor
  · intro h
    rcases ht : triP Q n with _ | ⟨t, T⟩
    · rfl
    · exfalso
      have := mstP_ge (one_pl (Q := Q) (n := n) (t := t) (by rw [ht]; simp))
      omega
  · intro h
    unfold mstP
    rw [h]
    have e : thrL (noP n) = 0 := (noP_pv Q n).pl.threes
    show max 0 (thrL (noP n)) = 0
    rw [e]; rfl
/-- The greatest sum of sticks in threes. -/
def rndL (f : Nat → Int) (n : Nat) (l : List Int) : Int := sI n f - sumW f l (-1)
def rndP (Q : Tri → Bool) (f : Nat → Int) (n : Nat) : Int := mxR (rndL f n) (visP 0 (noP n) (triP Q n)) 0
theorem rndP_le {Q : Tri → Bool} {f : Nat → Int} {n : Nat} (hf : ∀ p, p < n → 0 ≤ f p) (h0 : 0 ≤ sI n f) : 0 ≤ rndP Q f n ∧ rndP Q f n ≤ sI n f := by
  refine ⟨mxR_ge.1, (mxR_le _ _).2 ⟨h0, fun l hl => ?_⟩⟩
  obtain ⟨M, h⟩ := visP_pl hl
  have := sumW_nn (f := f) (l := l) (k := -1) fun p hp => hf p (by rw [← h.len]; exact hp)
  unfold rndL
  omega
theorem rndP_ge {Q : Tri → Bool} {f : Nat → Int} {n M : Nat} {l : List Int} (h : PL Q n l M) : rndL f n l ≤ rndP Q f n := mxR_ge.2 l h.vis
theorem rndP_one {Q : Tri → Bool} {f : Nat → Int} {n : Nat} {t : Tri} (h : t ∈ triP Q n) : sumT f t ≤ rndP Q f n := by
  have hp := one_pl h
  have h1 := rndP_ge (f := f) hp
  have h2 := hp.sum f
  have hm := List.mem_filter.1 h
  have hi := allQ_mem.1 hm.1
  have h3 : sumW f (putT (noP n) t 0) ((0 : Nat) : Int) = sumT f t := by
    rw [← sumW_of, ofP_putm hi.1 hi.2.1 (by simp [noP]; omega) fun p hp => by
      rw [noP_get (by simpa [noP] using hp)]; decide]
    simp [sumT]; omega
  have h4 : sI 1 (fun k => sumW f (putT (noP n) t 0) k) = 0 + sumW f (putT (noP n) t 0) ((0 : Nat) : Int) := rfl
  unfold rndL at h1
  omega
theorem rndP_zero {Q : Tri → Bool} {f : Nat → Int} {n : Nat} (h : triP Q n = []) (hn : sI n f = sumW f (noP n) (-1)) : rndP Q f n = 0 := by
  unfold rndP
  rw [h]
  show max 0 (rndL f n (noP n)) = 0
  unfold rndL
  rw [hn]
  omega
theorem sumW_noP (f : Nat → Int) (n : Nat) : sI n f = sumW f (noP n) (-1) := by
  have := (noP_pv (fun _ => true) n).pl.sum f
  rw [← this]
  show 0 + _ = _
  omega
end Go.Proofs.Ytiadnbdefcimiaa

/- Pure facts of parting: the model's lists, the first one of most. Nothing of the program. -/
namespace Go.Proofs.Ytiadnbdefcimiaa

/-- A three can't take one more place. -/
def badP (Q : Tri → Bool) (l : List Int) (s : Int) : Bool :=
  ((ofP l s).length == 3) || (((ofP l s).length == 2) && !Q ((ofP l s).getD 0 0, (ofP l s).getD 1 0, l.length))
def allThree (l : List Int) (M : Nat) : Bool := (List.range M).all fun (s : Nat) => (ofP l (s : Int)).length == 3
def lisF (rec : List Int → Nat → List (List Int)) (Q : Tri → Bool) (l : List Int) (M : Nat) : Nat → List (List Int)
  | 0 => rec (l ++ [-1]) M
  | c + 1 => lisF rec Q l M c ++ if badP Q l c = true then [] else rec (l ++ [(c : Int)]) (max M (c + 1))
/-- The model's lists: those that begin so, so many places left. -/
def lisP (Q : Tri → Bool) : Nat → List Int → Nat → List (List Int)
  | 0, l, M => if allThree l M = true then [l] else []
  | r + 1, l, M => lisF (lisP Q r) Q l M (M + 1)
theorem lisF_mem {rec : List Int → Nat → List (List Int)} {Q : Tri → Bool} {l l' : List Int} {M : Nat} : ∀ c, l' ∈ lisF rec Q l M c ↔ l' ∈ rec (l ++ [-1]) M ∨ ∃ s, s < c ∧ badP Q l s = false ∧ l' ∈ rec (l ++ [(s : Int)]) (max M (s + 1))
  | 0 => by simp [lisF]
  | c + 1 => by
    rw [lisF, List.mem_append, lisF_mem c]
    constructor
    · rintro ((h | ⟨s, h1, h2, h3⟩) | h)
      · exact .inl h
      · exact .inr ⟨s, by omega, h2, h3⟩
      · by_cases hb : badP Q l c = true
        · rw [if_pos hb] at h; simp at h
        · rw [if_neg hb] at h
          rw [Bool.not_eq_true] at hb
          exact .inr ⟨c, by omega, hb, h⟩
    · rintro (h | ⟨s, h1, h2, h3⟩)
      · exact .inl (.inl h)
      · by_cases e : s = c
        · subst e
          refine .inr ?_
          rw [if_neg (by rw [h2]; exact Bool.false_ne_true)]
          exact h3
        · exact .inl (.inr ⟨s, by omega, h2, h3⟩)
/-- A beginning of part lists. -/
structure GP (Q : Tri → Bool) (l : List Int) (M : Nat) : Prop where
  rng : ∀ p, p < l.length → -1 ≤ l.getD p 0 ∧ l.getD p 0 < M
  num : ∀ q, q < l.length → ∀ s : Nat, (s : Int) < l.getD q 0 → ∃ p, p < q ∧ l.getD p 0 = s
  few : ∀ s : Nat, s < M → (ofP l s).length ≤ 3
  ful : ∀ s : Nat, s < M → ∀ t : Tri, ofP l s = [t.1, t.2.1, t.2.2] → Q t = true
theorem GP.nil (Q : Tri → Bool) : GP Q [] 0 := ⟨fun p hp => absurd hp (by simp), fun q hq => absurd hq (by simp), fun s hs => absurd hs (by omega), fun s hs => absurd hs (by omega)⟩
theorem get_snoc (l : List Int) (x : Int) (p : Nat) : (l ++ [x]).getD p 0 = if p < l.length then l.getD p 0 else if p = l.length then x else 0 := by
  by_cases h : p < l.length
  · rw [if_pos h, getD_app_lt h]
  · rw [if_neg h]
    by_cases e : p = l.length
    · subst e; rw [if_pos rfl, getD_app_at]
    · rw [if_neg e, List.getD_eq_getElem?_getD, List.getElem?_eq_none (by simp; omega)]; rfl
theorem GP.none {Q : Tri → Bool} {l : List Int} {M : Nat} (h : GP Q l M) : GP Q (l ++ [-1]) M := by
  have ho : ∀ s : Nat, ofP (l ++ [-1]) (s : Int) = ofP l s := fun s => by rw [ofP_app, if_neg (by omega), List.append_nil]
  refine ⟨fun p hp => ?_, fun q hq s hs => ?_, fun s hs => by rw [ho]; exact h.few s hs, fun s hs t ht => h.ful s hs t (by rw [← ho]; exact ht)⟩
  · rw [get_snoc]
    rw [List.length_append, List.length_singleton] at hp
    split
    · exact h.rng p (by assumption)
    · rw [if_pos (by omega)]; omega
  · rw [get_snoc] at hs
    split at hs
    · rename_i hlt
      obtain ⟨p, hp, hp2⟩ := h.num q hlt s hs
      exact ⟨p, hp, by rw [getD_app_lt (by omega)]; exact hp2⟩
    · split at hs <;> omega
theorem GP.more {Q : Tri → Bool} {l : List Int} {M : Nat} (h : GP Q l M) (has : ∀ s : Nat, s < M → ∃ p, p < l.length ∧ l.getD p 0 = s) {x : Nat} (hx : x ≤ M) (hb : badP Q l x = false) : GP Q (l ++ [(x : Int)]) (max M (x + 1)) := by
  have hM : ∀ s : Nat, s < max M (x + 1) → s ≠ x → s < M := fun s h1 h2 => by omega
  have hbad : (ofP l (x : Int)).length ≠ 3 ∧ ((ofP l (x : Int)).length = 2 → Q ((ofP l (x : Int)).getD 0 0, (ofP l (x : Int)).getD 1 0, l.length) = true) := by
    unfold badP at hb
    rw [Bool.or_eq_false_iff, beq_eq_false_iff_ne] at hb
    refine ⟨hb.1, fun h2 => ?_⟩
    have := hb.2
    rw [h2] at this
    simpa using this
  have ho : ∀ s : Nat, s ≠ x → ofP (l ++ [(x : Int)]) (s : Int) = ofP l s := fun s hs => by rw [ofP_app, if_neg (by omega), List.append_nil]
  have hox : ofP (l ++ [(x : Int)]) (x : Int) = ofP l x ++ [l.length] := by rw [ofP_app, if_pos rfl]
  have hx3 : (ofP l (x : Int)).length ≤ 2 := by
    by_cases e : x = M
    · have : ofP l (x : Int) = [] := by
        rcases hL : ofP l (x : Int) with _ | ⟨p, t⟩
        · rfl
        · exfalso
          have hp : p ∈ ofP l (x : Int) := by rw [hL]; simp
          obtain ⟨h1, h2⟩ := ofP_mem.1 hp
          have := h.rng p h1
          omega
      rw [this]; simp
    · have := h.few x (by omega)
      have := hbad.1
      omega
  refine ⟨fun p hp => ?_, fun q hq s hs => ?_, fun s hs => ?_, fun s hs t ht => ?_⟩
  · rw [get_snoc]
    split
    · have := h.rng p (by assumption)
      omega
    · split <;> omega
  · rw [get_snoc] at hs
    split at hs
    · rename_i hlt
      obtain ⟨p, hp, hp2⟩ := h.num q hlt s hs
      exact ⟨p, hp, by rw [getD_app_lt (by omega)]; exact hp2⟩
    · split at hs
      · rename_i hq2
        obtain ⟨p, hp, hp2⟩ := has s (by omega)
        exact ⟨p, by omega, by rw [getD_app_lt (by omega)]; exact hp2⟩
      · simp at hq; omega
  · by_cases e : s = x
    · rw [e, hox, List.length_append, List.length_singleton]; omega
    · rw [ho s e]; exact h.few s (hM s hs e)
  · by_cases e : s = x
    · rw [e, hox] at ht
      have h2 : (ofP l (x : Int)).length = 2 := by
        have := congrArg List.length ht
        simp at this
        omega
      have h3 := hbad.2 h2
      match hL : ofP l (x : Int), h2 with
      | [a, b], _ =>
        rw [hL] at ht h3
        simp only [List.cons_append, List.nil_append, List.cons.injEq, and_true] at ht
        obtain ⟨e1, e2, e3⟩ := ht
        have : t = (a, b, l.length) := by rw [e1, e2, e3]
        rw [this]
        simpa using h3
    · rw [ho s e] at ht
      exact h.ful s (hM s hs e) t ht
theorem allThree_iff {l : List Int} {M : Nat} : allThree l M = true ↔ ∀ s : Nat, s < M → (ofP l s).length = 3 := by
  unfold allThree
  rw [List.all_eq_true]
  constructor
  · intro h s hs; simpa using h s (List.mem_range.2 hs)
  · intro h s hs; simpa using h s (List.mem_range.1 hs)
theorem GP.pl {Q : Tri → Bool} {l : List Int} {M : Nat} (h : GP Q l M) (h3 : allThree l M = true) : PL Q l.length l M := by
  rw [allThree_iff] at h3
  refine ⟨rfl, h.rng, h.num, fun s hs => ?_⟩
  have := h3 s hs
  match hL : ofP l (s : Int), this with
  | [a, b, c], _ => exact ⟨(a, b, c), rfl, h.ful s hs (a, b, c) hL⟩
theorem ofP_len_mono (l e : List Int) (s : Int) : ∃ r, ofP (l ++ e) s = ofP l s ++ r := by
  induction e generalizing l with
  | nil => exact ⟨[], by simp⟩
  | cons x e ih =>
    obtain ⟨r, hr⟩ := ih (l ++ [x])
    rw [List.append_assoc] at hr
    exact ⟨_, by rw [show l ++ x :: e = l ++ ([x] ++ e) by simp, hr, ofP_app, List.append_assoc]⟩
theorem lis_mem {Q : Tri → Bool} : ∀ (r : Nat) (l : List Int) (M : Nat), GP Q l M → (∀ s : Nat, s < M → ∃ p, p < l.length ∧ l.getD p 0 = s) → ∀ l', l' ∈ lisP Q r l M ↔ ∃ e, l' = l ++ e ∧ e.length = r ∧ ∃ M', PL Q (l.length + r) l' M'
  | 0, l, M, hG, has, l' => by
    rw [lisP]
    constructor
    · intro h
      by_cases h3 : allThree l M = true
      · rw [if_pos h3, List.mem_singleton] at h
        subst h
        exact ⟨[], by simp, rfl, M, hG.pl h3⟩
      · rw [if_neg h3] at h; simp at h
    · rintro ⟨e, rfl, he, M', hp⟩
      obtain rfl := List.eq_nil_of_length_eq_zero he
      rw [List.append_nil] at hp ⊢
      rw [if_pos, List.mem_singleton]
      rw [allThree_iff]
      intro s hs
      obtain ⟨p, hp1, hp2⟩ := has s hs
      have := (hp.rng p (by omega)).2
      obtain ⟨t, ht, _⟩ := hp.thr s (by omega)
      rw [ht]; rfl
  | r + 1, l, M, hG, has, l' => by
    rw [lisP, lisF_mem]
    have has1 : ∀ x : Int, ∀ s : Nat, s < M → ∃ p, p < (l ++ [x]).length ∧ (l ++ [x]).getD p 0 = s := fun x s hs => by
      obtain ⟨p, h1, h2⟩ := has s hs
      exact ⟨p, by simp; omega, by rw [getD_app_lt h1]; exact h2⟩
    have has2 : ∀ x s : Nat, s < max M (x + 1) → x ≤ M → ∃ p, p < (l ++ [(x : Int)]).length ∧ (l ++ [(x : Int)]).getD p 0 = s := fun x s hs hx => by
      by_cases e : s = x
      · exact ⟨l.length, by simp, by rw [getD_app_at, e]⟩
      · exact has1 _ s (by omega)
    have hsum : ∀ x : Int, (l ++ [x]).length + r = l.length + (r + 1) := fun x => by simp; omega
    constructor
    · rintro (h | ⟨s, h1, h2, h3⟩)
      · obtain ⟨e, he, hl, hM⟩ := (lis_mem r _ M hG.none (has1 _) l').1 h
        rw [hsum] at hM
        exact ⟨-1 :: e, by rw [he]; simp, by simp [hl], hM⟩
      · obtain ⟨e, he, hl, hM⟩ := (lis_mem r _ _ (hG.more has (by omega) h2) (fun u hu => has2 s u hu (by omega)) l').1 h3
        rw [hsum] at hM
        exact ⟨(s : Int) :: e, by rw [he]; simp, by simp [hl], hM⟩
    · rintro ⟨e, rfl, he, M', hp⟩
      match e, he with
      | x :: e, he =>
        have hx : (l ++ x :: e).getD l.length 0 = x := getD_app_at l x e
        have hr := hp.rng l.length (by omega)
        rw [hx] at hr
        have happ : l ++ x :: e = (l ++ [x]) ++ e := by simp
        have hel : e.length = r := by simpa using he
        rcases Int.lt_or_le x 0 with g | g
        · obtain rfl : x = -1 := by omega
          exact .inl ((lis_mem r _ M hG.none (has1 _) _).2 ⟨e, happ, hel, M', by rw [hsum]; exact hp⟩)
        · obtain ⟨s, rfl⟩ : ∃ s : Nat, x = s := ⟨x.toNat, by omega⟩
          have hsM : s ≤ M := by
            rcases Nat.lt_or_ge M s with g2 | g2
            · exfalso
              obtain ⟨p, hp1, hp2⟩ := hp.num l.length (by omega) M (by rw [hx]; omega)
              rw [getD_app_lt hp1] at hp2
              have := (hG.rng p hp1).2
              omega
            · exact g2
          obtain ⟨t, ht, hQ⟩ := hp.thr s (by omega)
          obtain ⟨u, hu⟩ := ofP_len_mono (l ++ [(s : Int)]) e (s : Int)
          rw [← happ, ht, ofP_app, if_pos rfl] at hu
          have hb : badP Q l s = false := by
            have hlen := congrArg List.length hu
            simp only [List.length_append, List.length_cons, List.length_nil] at hlen
            unfold badP
            rw [Bool.or_eq_false_iff, beq_eq_false_iff_ne]
            refine ⟨by omega, ?_⟩
            by_cases h2 : (ofP l (s : Int)).length = 2
            · match hL : ofP l (s : Int), h2 with
              | [a, b], _ =>
                rw [hL] at hu
                have : u = [] := by
                  rw [hL] at hlen
                  simp at hlen
                  exact hlen
                subst this
                simp only [List.cons_append, List.nil_append, List.append_nil, List.cons.injEq, and_true] at hu
                obtain ⟨e1, e2, e3⟩ := hu
                have e4 : t = (a, b, l.length) := by rw [← e1, ← e2, ← e3]
                rw [e4] at hQ
                simp [hQ]
            · rw [beq_eq_false_iff_ne.2 h2]; rfl
          exact .inr ⟨s, by omega, hb, (lis_mem r _ _ (hG.more has hsM hb) (fun u hu => has2 s u hu hsM) _).2 ⟨e, happ, hel, M', by rw [hsum]; exact hp⟩⟩
/-- All part lists, as the model makes them. -/
def allPL (Q : Tri → Bool) (n : Nat) : List (List Int) := lisP Q n [] 0
theorem allPL_mem {Q : Tri → Bool} {n : Nat} {l : List Int} : l ∈ allPL Q n ↔ l ∈ visP 0 (noP n) (triP Q n) := by
  unfold allPL
  rw [lis_mem n [] 0 (GP.nil Q) (fun s hs => absurd hs (by omega)) l, vis_iff]
  constructor
  · rintro ⟨e, rfl, _, M, h⟩
    exact ⟨M, by simpa using h⟩
  · rintro ⟨M, h⟩
    exact ⟨l, by simp, h.len, M, by simpa using h⟩

/-! The order of lists. -/
theorem lessB_cons (x : Int) (a b : List Int) : lessB (x :: a) (x :: b) = lessB a b := by rw [lessB, if_pos rfl]
theorem lessB_app (l a b : List Int) : lessB (l ++ a) (l ++ b) = lessB a b := by
  induction l with
  | nil => rfl
  | cons x l ih => rw [List.cons_append, List.cons_append, lessB_cons, ih]
theorem lessB_head {x y : Int} (h : x < y) (a b : List Int) : lessB (x :: a) (y :: b) = true := by
  rw [lessB, if_neg (by omega)]; simpa using h
theorem lessB_irr : ∀ a : List Int, lessB a a = false
  | [] => rfl
  | x :: a => by rw [lessB_cons]; exact lessB_irr a
theorem lessB_asymm : ∀ a b : List Int, lessB a b = true → lessB b a = false
  | [], b, h => by simp [lessB] at h
  | x :: a, [], h => by simp [lessB] at h
  | x :: a, y :: b, h => by
    rw [lessB] at h ⊢
    by_cases e : x = y
    · subst e
      rw [if_pos rfl] at h ⊢
      exact lessB_asymm a b h
    · rw [if_neg e] at h
      rw [if_neg fun g => e g.symm]
      simp at h ⊢; omega
theorem lessB_trans : ∀ a b c : List Int, lessB a b = true → lessB b c = true → lessB a c = true
  | [], b, c, h, _ => by simp [lessB] at h
  | x :: a, [], c, h, _ => by simp [lessB] at h
  | x :: a, y :: b, [], _, h => by simp [lessB] at h
  | x :: a, y :: b, z :: c, h1, h2 => by
    rw [lessB] at h1 h2 ⊢
    by_cases e1 : x = y
    · subst e1
      rw [if_pos rfl] at h1
      by_cases e2 : x = z
      · rw [if_pos e2] at h2 ⊢; exact lessB_trans a b c h1 h2
      · rw [if_neg e2] at h2 ⊢; exact h2
    · rw [if_neg e1] at h1
      by_cases e2 : y = z
      · subst e2; rw [if_neg e1]; exact h1
      · rw [if_neg e2] at h2
        simp at h1 h2
        rw [if_neg (by omega)]; simp; omega
theorem lessB_total : ∀ a b : List Int, a.length = b.length → a ≠ b → lessB a b = false → lessB b a = true
  | [], [], _, h, _ => absurd rfl h
  | [], y :: b, h, _, _ => by simp at h
  | x :: a, [], h, _, _ => by simp at h
  | x :: a, y :: b, hl, hne, h => by
    rw [lessB] at h ⊢
    by_cases e : x = y
    · subst e
      rw [if_pos rfl] at h ⊢
      exact lessB_total a b (by simpa using hl) (fun g => hne (by rw [g])) h
    · rw [if_neg e] at h
      rw [if_neg fun g => e g.symm]
      simp at h ⊢; omega
theorem lis_pre {Q : Tri → Bool} : ∀ (r : Nat) (l : List Int) (M : Nat), ∀ l' ∈ lisP Q r l M, ∃ e, l' = l ++ e
  | 0, l, M, l', h => by
    rw [lisP] at h
    by_cases h3 : allThree l M = true
    · rw [if_pos h3, List.mem_singleton] at h; exact ⟨[], by simp [h]⟩
    · rw [if_neg h3] at h; simp at h
  | r + 1, l, M, l', h => by
    rw [lisP, lisF_mem] at h
    rcases h with h | ⟨s, _, _, h⟩
    · obtain ⟨e, he⟩ := lis_pre r _ _ l' h; exact ⟨-1 :: e, by rw [he]; simp⟩
    · obtain ⟨e, he⟩ := lis_pre r _ _ l' h; exact ⟨(s : Int) :: e, by rw [he]; simp⟩
theorem lis_srt {Q : Tri → Bool} : ∀ (r : Nat) (l : List Int) (M : Nat), (lisP Q r l M).Pairwise fun a b => lessB a b = true
  | 0, l, M => by
    rw [lisP]
    split
    · exact List.pairwise_singleton _ _
    · exact List.Pairwise.nil
  | r + 1, l, M => by
    rw [lisP]
    generalize M + 1 = c
    induction c with
    | zero => rw [lisF]; exact lis_srt r _ M
    | succ c ih =>
      rw [lisF, List.pairwise_append]
      refine ⟨ih, ?_, fun a ha b hb => ?_⟩
      · split
        · exact List.Pairwise.nil
        · exact lis_srt r _ _
      · by_cases hbad : badP Q l c = true
        · rw [if_pos hbad] at hb; simp at hb
        · rw [if_neg hbad] at hb
          obtain ⟨e, rfl⟩ := lis_pre r _ _ b hb
          rw [lisF_mem] at ha
          rw [List.append_assoc]
          rcases ha with ha | ⟨s, h1, _, ha⟩
          · obtain ⟨e', rfl⟩ := lis_pre r _ _ a ha
            rw [List.append_assoc, lessB_app]
            exact lessB_head (by omega) _ _
          · obtain ⟨e', rfl⟩ := lis_pre r _ _ a ha
            rw [List.append_assoc, lessB_app]
            exact lessB_head (by omega) _ _
/-- The first one of most threes. -/
def bstL (b : List Int) (L : List (List Int)) : List Int := L.foldl (fun b l => if thrL b < thrL l then l else b) b
theorem bst_is : ∀ (L : List (List Int)) (b : List Int), (b :: L).Pairwise (fun a c => lessB a c = true) →
    bstL b L ∈ b :: L ∧ (∀ l ∈ b :: L, thrL l ≤ thrL (bstL b L)) ∧ ∀ l ∈ b :: L, thrL l = thrL (bstL b L) → l = bstL b L ∨ lessB (bstL b L) l = true
  | [], b, _ => ⟨by simp [bstL], fun l hl => by rw [List.mem_singleton] at hl; rw [hl]; exact Int.le_refl _, fun l hl _ => by rw [List.mem_singleton] at hl; exact .inl hl⟩
  | x :: L, b, h => by
    rw [List.pairwise_cons] at h
    have hx := List.pairwise_cons.1 h.2
    have e : bstL b (x :: L) = bstL (if thrL b < thrL x then x else b) L := rfl
    rw [e]
    by_cases g : thrL b < thrL x
    · rw [if_pos g]
      obtain ⟨h1, h2, h3⟩ := bst_is L x h.2
      refine ⟨by simp at h1 ⊢; exact .inr h1, fun l hl => ?_, fun l hl he => ?_⟩
      · rcases List.mem_cons.1 hl with rfl | hl
        · have := h2 x (by simp); omega
        · exact h2 l hl
      · rcases List.mem_cons.1 hl with rfl | hl
        · have := h2 x (by simp); omega
        · exact h3 l hl he
    · rw [if_neg g]
      obtain ⟨h1, h2, h3⟩ := bst_is L b (List.pairwise_cons.2 ⟨fun l hl => h.1 l (by simp [hl]), hx.2⟩)
      refine ⟨?_, fun l hl => ?_, fun l hl he => ?_⟩
      · rcases List.mem_cons.1 h1 with h1 | h1
        · rw [h1]; simp
        · simp [h1]
      · rcases List.mem_cons.1 hl with rfl | hl
        · exact h2 l (by simp)
        · rcases List.mem_cons.1 hl with rfl | hl
          · have := h2 b (by simp); omega
          · exact h2 l (by simp [hl])
      · rcases List.mem_cons.1 hl with rfl | hl
        · exact h3 l (by simp) he
        · rcases List.mem_cons.1 hl with rfl | hl
          · have hb := h2 b (by simp)
            right
            rcases List.mem_cons.1 h1 with h4 | h4
            · rw [h4]; exact h.1 l (by simp)
            · exfalso
              have hbb := h3 b (by simp) (by omega)
              rcases hbb with hbb | hbb
              · rw [← hbb] at h4
                have := h.1 b (by simp [h4])
                rw [lessB_irr] at this; cases this
              · have := h.1 (bstL b L) (by simp [h4])
                rw [lessB_asymm _ _ this] at hbb; cases hbb
          · exact h3 l (by simp [hl]) he
/-- The model's best one. -/
def bstP (Q : Tri → Bool) (n : Nat) : List Int := bstL ((allPL Q n).headD []) ((allPL Q n).drop 1)
/-- What the program keeps. -/
def fstL9 (most : Int) (b : List Int) (L : List (List Int)) : List Int := L.foldl (fun b l => if thrL l = most ∧ (b.length = 0 ∨ lessB l b = true) then l else b) b
theorem fst9_is (most : Int) {n : Nat} (hn : 1 ≤ n) : ∀ (L : List (List Int)) (b : List Int), (∀ l ∈ L, l.length = n) → (b.length = 0 ∨ (b.length = n ∧ thrL b = most)) →
    ((∃ l ∈ L, thrL l = most) ∨ b.length = n) → (fstL9 most b L).length = n ∧ thrL (fstL9 most b L) = most ∧ (fstL9 most b L ∈ L ∨ fstL9 most b L = b) ∧ (∀ l ∈ L, thrL l = most → l = fstL9 most b L ∨ lessB (fstL9 most b L) l = true) ∧ (b.length = n → b = fstL9 most b L ∨ lessB (fstL9 most b L) b = true)
  | [], b, _, hb, hs => by
    rcases hs with ⟨l, hl, _⟩ | hs
    · simp at hl
    · refine ⟨hs, ?_, .inr rfl, fun l hl => by simp at hl, fun _ => .inl rfl⟩
      rcases hb with hb | hb
      · omega
      · exact hb.2
  | x :: L, b, hL, hb, hs => by
    have e : fstL9 most b (x :: L) = fstL9 most (if thrL x = most ∧ (b.length = 0 ∨ lessB x b = true) then x else b) L := rfl
    rw [e]
    have hLx := hL x (by simp)
    by_cases g : thrL x = most ∧ (b.length = 0 ∨ lessB x b = true)
    · rw [if_pos g]
      obtain ⟨h1, h2, h3, h4, h5⟩ := fst9_is most hn L x (fun l hl => hL l (by simp [hl])) (.inr ⟨hLx, g.1⟩) (.inr hLx)
      refine ⟨h1, h2, ?_, fun l hl he => ?_, fun hbn => ?_⟩
      · rcases h3 with h3 | h3
        · exact .inl (by simp [h3])
        · exact .inl (by rw [h3]; simp)
      · rcases List.mem_cons.1 hl with rfl | hl
        · exact h5 hLx
        · exact h4 l hl he
      · rcases g.2 with g2 | g2
        · omega
        · rcases h5 hLx with h6 | h6
          · rw [← h6]; exact .inr g2
          · exact .inr (lessB_trans _ _ _ h6 g2)
    · rw [if_neg g]
      have hs' : (∃ l ∈ L, thrL l = most) ∨ b.length = n := by
        rcases hs with ⟨l, hl, he⟩ | hs
        · rcases List.mem_cons.1 hl with rfl | hl
          · rcases hb with hb | hb
            · exact absurd ⟨he, .inl hb⟩ g
            · exact .inr hb.1
          · exact .inl ⟨l, hl, he⟩
        · exact .inr hs
      obtain ⟨h1, h2, h3, h4, h5⟩ := fst9_is most hn L b (fun l hl => hL l (by simp [hl])) hb hs'
      refine ⟨h1, h2, ?_, fun l hl he => ?_, h5⟩
      · rcases h3 with h3 | h3
        · exact .inl (by simp [h3])
        · exact .inr h3
      · rcases List.mem_cons.1 hl with rfl | hl
        · have hb0 : b.length ≠ 0 := fun h => g ⟨he, .inl h⟩
          have hbn : b.length = n := by
            rcases hb with hb | hb
            · exact absurd hb hb0
            · exact hb.1
          have hnl : lessB l b = false := by
            cases hc : lessB l b with
            | false => rfl
            | true => exact absurd ⟨he, .inr hc⟩ g
          by_cases ee : l = b
          · rw [ee]; exact h5 hbn
          · have h7 := lessB_total l b (by rw [hLx, hbn]) ee hnl
            rcases h5 hbn with h6 | h6
            · rw [← h6]; exact .inr h7
            · exact .inr (lessB_trans _ _ _ h6 h7)
        · exact h4 l hl he
/-- The first part list of most threes: program and model take the same. -/
def fstP (Q : Tri → Bool) (n : Nat) : List Int := fstL9 (mstP Q n) [] (visP 0 (noP n) (triP Q n))
theorem bstP_mem {Q : Tri → Bool} {n : Nat} : bstP Q n ∈ allPL Q n ∧ (∀ l ∈ allPL Q n, thrL l ≤ thrL (bstP Q n)) ∧ ∀ l ∈ allPL Q n, thrL l = thrL (bstP Q n) → l = bstP Q n ∨ lessB (bstP Q n) l = true := by
  have hne : noP n ∈ allPL Q n := allPL_mem.2 (by simp [visP])
  have hs : (allPL Q n).Pairwise fun a b => lessB a b = true := lis_srt n [] 0
  unfold bstP
  rcases hA : allPL Q n with _ | ⟨b, L⟩
  · rw [hA] at hne; simp at hne
  · rw [hA] at hs
    exact bst_is L b hs
theorem bst_thr {Q : Tri → Bool} {n : Nat} : thrL (bstP Q n) = mstP Q n := by
  obtain ⟨h1, h2, _⟩ := bstP_mem (Q := Q) (n := n)
  have h3 : mstP Q n ≤ thrL (bstP Q n) := (mxR_le _ _).2 ⟨by
    have := h2 (noP n) (allPL_mem.2 (by simp [visP]))
    rw [(noP_pv Q n).pl.threes] at this; exact this, fun l hl => h2 l (allPL_mem.2 hl)⟩
  have h4 : thrL (bstP Q n) ≤ mstP Q n := mxR_ge.2 _ (allPL_mem.1 h1)
  omega
theorem fst_bst {Q : Tri → Bool} {n : Nat} (hn : 1 ≤ n) : fstP Q n = bstP Q n := by
  obtain ⟨h1, h2, h3⟩ := bstP_mem (Q := Q) (n := n)
  have hlen : ∀ l ∈ visP 0 (noP n) (triP Q n), l.length = n := fun l hl => by
    obtain ⟨M, h⟩ := visP_pl hl
    exact h.len
  have hb := allPL_mem.1 h1
  obtain ⟨k1, k2, k3, k4, _⟩ := fst9_is (mstP Q n) hn (visP 0 (noP n) (triP Q n)) [] hlen (.inl rfl) (.inl ⟨_, hb, bst_thr⟩)
  have k5 : fstP Q n ∈ visP 0 (noP n) (triP Q n) := by
    rcases k3 with k3 | k3
    · exact k3
    · exfalso
      rw [k3] at k1
      simp at k1; omega
  have k6 := k4 _ hb bst_thr
  have k7 := h3 _ (allPL_mem.2 k5) (by rw [bst_thr]; exact k2)
  rcases k7 with k7 | k7
  · exact k7
  · rcases k6 with k6 | k6
    · exact k6.symm
    · rw [show fstL9 (mstP Q n) [] (visP 0 (noP n) (triP Q n)) = fstP Q n from rfl, lessB_asymm _ _ k7] at k6
      cases k6
theorem fst_pl {Q : Tri → Bool} {n : Nat} (hn : 1 ≤ n) : ∃ M, PL Q n (fstP Q n) M ∧ mstP Q n = (M : Int) := by
  have h1 := allPL_mem.1 (bstP_mem (Q := Q) (n := n)).1
  rw [← fst_bst hn] at h1
  obtain ⟨M, h⟩ := visP_pl h1
  refine ⟨M, h, ?_⟩
  rw [← bst_thr, ← fst_bst hn, h.threes]
/-- The sum of a list's sticks in threes, as the model takes it. -/
def inL (f : Nat → Int) (l : List Int) : Int := sI l.length fun p => if 0 ≤ l.getD p 0 then f p else 0
theorem PL.inL {Q : Tri → Bool} {n M : Nat} {l : List Int} (h : PL Q n l M) (f : Nat → Int) : rndL f n l = inL f l := by
  have : sI n f = Go.Proofs.Ytiadnbdefcimiaa.inL f l + sumW f l (-1) := by
    unfold Go.Proofs.Ytiadnbdefcimiaa.inL sumW
    rw [h.len, ← sI_add]
    refine sI_ext n fun p hp => ?_
    have := h.rng p hp
    by_cases g : 0 ≤ l.getD p 0
    · rw [if_pos g, if_neg (by omega)]; omega
    · rw [if_neg g, if_pos (by omega)]; omega
  unfold rndL
  omega
theorem rnd_all {Q : Tri → Bool} {f : Nat → Int} {n : Nat} : rndP Q f n = mxR (inL f) (allPL Q n) 0 := by
  refine mxR_eq (fun l => allPL_mem.symm) (fun l hl => ?_) 0
  obtain ⟨M, h⟩ := visP_pl hl
  exact h.inL f
end Go.Proofs.Ytiadnbdefcimiaa

/- Pure facts of parting: sets with half of the sum; threes of a bundle's sticks; one stick more. Nothing of the program. -/
namespace Go.Proofs.Ytiadnbdefcimiaa

/-- The number of sets with a sum. -/
def setN : List Int → Int → Nat
  | [], s => if s = 0 then 1 else 0
  | x :: r, s => setN r s + setN r (s - x)
theorem setN_le : ∀ (r : List Int) (s : Int), setN r s ≤ 2 ^ r.length
  | [], s => by rw [setN]; split <;> simp
  | x :: r, s => by
    rw [setN, List.length_cons, Nat.pow_succ]
    have h1 := setN_le r s
    have h2 := setN_le r (s - x)
    omega
/-- The sum of a set. -/
def bitS (r : List Int) (t : Nat) : Int := sI r.length fun i => if t.testBit i = true then r.getD i 0 else 0
theorem sI_head (f : Nat → Int) : ∀ n, sI (n + 1) f = f 0 + sI n (fun i => f (i + 1))
  | 0 => by simp [sI]
  | n + 1 => by rw [sI, sI_head f n, sI]; omega
theorem bitS_cons (x : Int) (r : List Int) (t : Nat) : bitS (x :: r) t = (if t % 2 = 1 then x else 0) + bitS r (t / 2) := by
  unfold bitS
  rw [List.length_cons, sI_head]
  congr 1
  · rw [Nat.testBit_zero]
    by_cases h : t % 2 = 1
    · rw [if_pos h, if_pos (by simpa using h)]; rfl
    · rw [if_neg h, if_neg (by simpa using h)]
  · refine sI_ext _ fun i _ => ?_
    rw [Nat.testBit_succ]; rfl
def oneIf (p : Bool) : Nat := if p = true then 1 else 0
theorem S_two (f : Nat → Nat) : ∀ K, S (2 * K) f = S K (fun u => f (2 * u) + f (2 * u + 1))
  | 0 => rfl
  | K + 1 => by
    show S (2 * K + 1 + 1) f = _
    rw [S, S, S_two f K, S]; omega
theorem set_count : ∀ (r : List Int) (s : Int), S (2 ^ r.length) (fun t => oneIf (bitS r t == s)) = setN r s
  | [], s => by
    show 0 + oneIf ((0 : Int) == s) = _
    rw [setN]
    unfold oneIf
    by_cases h : s = 0
    · subst h; rfl
    · rw [if_neg h, if_neg]; simp; omega
  | x :: r, s => by
    rw [List.length_cons, Nat.pow_succ, Nat.mul_comm, S_two, S_add, setN, ← set_count r s, ← set_count r (s - x)]
    congr 1
    · refine S_ext _ fun u _ => ?_
      rw [bitS_cons, if_neg (by omega), show 2 * u / 2 = u by omega, Int.zero_add]
    · refine S_ext _ fun u _ => ?_
      rw [bitS_cons, if_pos (by omega), show (2 * u + 1) / 2 = u by omega]
      congr 1
      rw [Bool.eq_iff_iff, beq_iff_eq, beq_iff_eq]
      omega
/-- The number of sets with half of the sum. -/
def twoP (zs : List Int) : Nat := if zs.sum % 2 = 0 then setN (zs.drop 1) (zs.sum / 2 - zs.getD 0 0) else 0
def twoM (zs : List Int) (k : Nat) : Nat := S k fun t => oneIf (2 * bitS zs (2 * t + 1) == zs.sum)
theorem two_is {zs : List Int} (h : 1 ≤ zs.length) : twoM zs (2 ^ (zs.length - 1)) = twoP zs := by
  match zs, h with
  | x :: r, _ =>
    unfold twoM twoP
    rw [show (x :: r).length - 1 = r.length by simp, show (x :: r).drop 1 = r from rfl, show (x :: r).getD 0 0 = x from rfl]
    by_cases he : (x :: r).sum % 2 = 0
    · rw [if_pos he, ← set_count]
      refine S_ext _ fun t _ => ?_
      rw [bitS_cons, if_pos (by omega), show (2 * t + 1) / 2 = t by omega]
      congr 1
      rw [Bool.eq_iff_iff, beq_iff_eq, beq_iff_eq]
      omega
    · rw [if_neg he, S_ext _ (g := fun _ => 0), S_zero]
      intro t _
      unfold oneIf
      rw [if_neg]
      rw [beq_iff_eq]
      omega

/-! Threes of a bundle's sticks. -/
def cloQ (zs : List Int) (t : Tri) : Bool := triB (zs.getD t.1 0) (zs.getD t.2.1 0) (zs.getD t.2.2 0)
def vlT (zs : List Int) (t : Tri) : T3 := (zs.getD t.1 0, zs.getD t.2.1 0, zs.getD t.2.2 0)
theorem r3_map (zs : List Int) (i j : Nat) : ∀ c, r3 zs i j c = (q3 i j c).map (vlT zs)
  | 0 => rfl
  | c + 1 => by rw [r3, q3, List.map_append, r3_map zs i j c]; rfl
theorem r2_map (zs : List Int) (n i : Nat) : ∀ c, r2 zs n i c = (q2 n i c).map (vlT zs)
  | 0 => rfl
  | c + 1 => by rw [r2, q2, List.map_append, r2_map zs n i c, r3_map]
theorem r1_map (zs : List Int) (n : Nat) : ∀ m, r1 zs n m = (q1 n m).map (vlT zs)
  | 0 => rfl
  | m + 1 => by rw [r1, q1, List.map_append, r1_map zs n m, r2_map]
theorem triP_len (zs : List Int) : (triP (cloQ zs) zs.length).length = cntT zs := by
  unfold cntT cntL allT triP allQ
  rw [r1_map, List.countP_map, ← List.countP_eq_length_filter]
  rfl
theorem triP_nil (zs : List Int) : triP (cloQ zs) zs.length = [] ↔ cntT zs = 0 := by
  rw [← triP_len, List.length_eq_zero_iff]
theorem memb_tri {zs : List Int} {t : T3} (h : Memb zs t) (ht : triT t = true) : ∃ u ∈ triP (cloQ zs) zs.length, vlT zs u = t := by
  obtain ⟨i, j, k, h1, h2, h3, rfl⟩ := h
  exact ⟨(i, j, k), List.mem_filter.2 ⟨allQ_mem.2 ⟨h1, h2, h3⟩, ht⟩, rfl⟩
theorem sI_sum : ∀ zs : List Int, sI zs.length (fun p => zs.getD p 0) = zs.sum
  | [] => rfl
  | x :: r => by
    rw [List.length_cons, sI_head, List.sum_cons, ← sI_sum r]
    rfl
/-- One stick more in front. -/
theorem ofP_cons (l : List Int) (s : Nat) : ofP (-1 :: l) (s : Int) = (ofP l s).map (· + 1) := by
  refine eq_of_srt (ofP_srt _ _) ?_ fun p => ?_
  · rw [List.pairwise_map]
    exact (ofP_srt l s).imp (by intro a b h; omega)
  · rw [ofP_mem, List.mem_map]
    constructor
    · rintro ⟨h1, h2⟩
      match p with
      | 0 => simp at h2
      | p + 1 => exact ⟨p, ofP_mem.2 ⟨by simpa using h1, by simpa using h2⟩, rfl⟩
    · rintro ⟨q, hq, rfl⟩
      have := ofP_mem.1 hq
      exact ⟨by simpa using this.1, by simpa using this.2⟩
theorem PL.cons {zs l : List Int} {n M : Nat} (x : Int) (h : PL (cloQ zs) n l M) : PL (cloQ (x :: zs)) (n + 1) (-1 :: l) M := by
  refine ⟨by simp [h.len], fun p hp => ?_, fun q hq s hs => ?_, fun s hs => ?_⟩
  · match p with
    | 0 => simp; omega
    | p + 1 => simpa using h.rng p (by omega)
  · match q with
    | 0 => simp at hs; omega
    | q + 1 =>
      obtain ⟨p, hp, hp2⟩ := h.num q (by omega) s (by simpa using hs)
      exact ⟨p + 1, by omega, by simpa using hp2⟩
  · obtain ⟨t, ht, hq⟩ := h.thr s hs
    refine ⟨(t.1 + 1, t.2.1 + 1, t.2.2 + 1), by rw [ofP_cons, ht]; rfl, ?_⟩
    unfold cloQ at hq ⊢
    simpa using hq
theorem mst_cons (x : Int) (zs : List Int) (n : Nat) : mstP (cloQ zs) n ≤ mstP (cloQ (x :: zs)) (n + 1) := by
  obtain ⟨l, M, h, e⟩ := mstP_at (cloQ zs) n
  rw [e]
  exact mstP_ge (h.cons x)
end Go.Proofs.Ytiadnbdefcimiaa
