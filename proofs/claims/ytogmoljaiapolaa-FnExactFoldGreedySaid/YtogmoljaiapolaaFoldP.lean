/- Foldings of rulers: places, ways, spans. Nothing of the program. -/
import Derived.Test.YtogmoljaiapolaaPolyQ
namespace Go.Proofs.Ytogmoljaiapolaa
/-! Counts -/
def cntF (f : Nat → Bool) : Nat → Nat
  | 0 => 0
  | k + 1 => cntF f k + (if f k = true then 1 else 0)
theorem cntF_add (f : Nat → Bool) (a : Nat) : ∀ b, cntF f (a + b) = cntF f a + cntF (fun s => f (a + s)) b
  | 0 => rfl
  | b + 1 => by
    show cntF f (a + b) + (if f (a + b) = true then 1 else 0) = cntF f a + (cntF (fun s => f (a + s)) b + (if f (a + b) = true then 1 else 0))
    rw [cntF_add f a b]
    omega
theorem cntF_congr {f g : Nat → Bool} : ∀ k, (∀ s, s < k → f s = g s) → cntF f k = cntF g k
  | 0, _ => rfl
  | k + 1, h => by
    show cntF f k + _ = cntF g k + _
    rw [cntF_congr k (fun s hs => h s (by omega)), h k (by omega)]
theorem cntF_pos {f : Nat → Bool} : ∀ k, 0 < cntF f k ↔ ∃ s, s < k ∧ f s = true
  | 0 => by simp [cntF]
  | k + 1 => by
    show 0 < cntF f k + _ ↔ _
    constructor
    · intro h
      by_cases hk : f k = true
      · exact ⟨k, by omega, hk⟩
      · rw [if_neg hk] at h
        obtain ⟨s, hs, hf⟩ := (cntF_pos k).1 h
        exact ⟨s, by omega, hf⟩
    · rintro ⟨s, hs, hf⟩
      by_cases e : s = k
      · subst e; rw [if_pos hf]; omega
      · have := (cntF_pos k).2 ⟨s, by omega, hf⟩
        omega

/-! A folding: a set of the sticks that go to the left -/
def leftB (m s : Nat) : Bool := s / 2 ^ m % 2 == 1
def stepS (x : Int) (m s : Nat) : Int := if leftB m s = true then -x else x
/-- The last place, the least and the greatest one. -/
def plc : List Int → Nat → Int
  | [], _ => 0
  | x :: r, s => stepS x r.length s + plc r s
def loP : List Int → Nat → Int
  | [], _ => 0
  | x :: r, s => min 0 (stepS x r.length s + loP r s)
def hiP : List Int → Nat → Int
  | [], _ => 0
  | x :: r, s => max 0 (stepS x r.length s + hiP r s)
theorem loP_le (xs : List Int) (s : Nat) : loP xs s ≤ 0 := by cases xs <;> simp [loP]; omega
theorem hiP_ge (xs : List Int) (s : Nat) : 0 ≤ hiP xs s := by cases xs <;> simp [hiP]; omega
theorem leftB_low {m s : Nat} (h : s < 2 ^ m) : leftB m s = false := by
  unfold leftB
  rw [Nat.div_eq_of_lt h]
  rfl
theorem leftB_high {m s : Nat} (h : s < 2 ^ m) : leftB m (2 ^ m + s) = true := by
  unfold leftB
  have : 0 < 2 ^ m := Nat.two_pow_pos m
  rw [Nat.add_div_left _ this, Nat.div_eq_of_lt h]
  rfl
theorem leftB_add {j m s : Nat} (h : j < m) : leftB j (2 ^ m + s) = leftB j s := by
  unfold leftB
  obtain ⟨d, rfl⟩ : ∃ d, m = j + (d + 1) := ⟨m - j - 1, by omega⟩
  have hp : 0 < 2 ^ j := Nat.two_pow_pos j
  rw [Nat.pow_add, Nat.mul_add_div hp, Nat.pow_succ]
  congr 1
  omega
theorem plc_add (xs : List Int) {m s : Nat} (h : xs.length ≤ m) : plc xs (2 ^ m + s) = plc xs s := by
  induction xs with
  | nil => rfl
  | cons x r ih =>
    simp only [List.length_cons] at h
    simp only [plc, stepS]
    rw [leftB_add (by omega), ih (by omega)]
theorem loP_add (xs : List Int) {m s : Nat} (h : xs.length ≤ m) : loP xs (2 ^ m + s) = loP xs s := by
  induction xs with
  | nil => rfl
  | cons x r ih =>
    simp only [List.length_cons] at h
    simp only [loP, stepS]
    rw [leftB_add (by omega), ih (by omega)]
theorem hiP_add (xs : List Int) {m s : Nat} (h : xs.length ≤ m) : hiP xs (2 ^ m + s) = hiP xs s := by
  induction xs with
  | nil => rfl
  | cons x r ih =>
    simp only [List.length_cons] at h
    simp only [hiP, stepS]
    rw [leftB_add (by omega), ih (by omega)]
theorem stepS_low (x : Int) {m s : Nat} (h : s < 2 ^ m) : stepS x m s = x := by unfold stepS; rw [leftB_low h]; rfl
theorem stepS_high (x : Int) {m s : Nat} (h : s < 2 ^ m) : stepS x m (2 ^ m + s) = -x := by unfold stepS; rw [leftB_high h]; rfl

/-- What some folding does, by the side of the first stick. -/
theorem some_fold {x : Int} {r : List Int} {P : Int → Int → Int → Prop} :
    (∃ s, s < 2 ^ (r.length + 1) ∧ P (plc (x :: r) s) (loP (x :: r) s) (hiP (x :: r) s)) ↔
    (∃ s, s < 2 ^ r.length ∧ P (x + plc r s) (min 0 (x + loP r s)) (max 0 (x + hiP r s))) ∨ (∃ s, s < 2 ^ r.length ∧ P (-x + plc r s) (min 0 (-x + loP r s)) (max 0 (-x + hiP r s))) := by
  have e : 2 ^ (r.length + 1) = 2 ^ r.length + 2 ^ r.length := by rw [Nat.pow_succ]; omega
  constructor
  · rintro ⟨s, hs, hP⟩
    by_cases h : s < 2 ^ r.length
    · refine .inl ⟨s, h, ?_⟩
      simpa only [plc, loP, hiP, stepS_low x h] using hP
    · obtain ⟨q, rfl⟩ : ∃ q, s = 2 ^ r.length + q := ⟨s - 2 ^ r.length, by omega⟩
      have hq : q < 2 ^ r.length := by omega
      refine .inr ⟨q, hq, ?_⟩
      simpa only [plc, loP, hiP, stepS_high x hq, plc_add r (Nat.le_refl _), loP_add r (Nat.le_refl _), hiP_add r (Nat.le_refl _)] using hP
  · rintro (⟨s, hs, hP⟩ | ⟨s, hs, hP⟩)
    · refine ⟨s, by omega, ?_⟩
      simpa only [plc, loP, hiP, stepS_low x hs] using hP
    · refine ⟨2 ^ r.length + s, by omega, ?_⟩
      simpa only [plc, loP, hiP, stepS_high x hs, plc_add r (Nat.le_refl _), loP_add r (Nat.le_refl _), hiP_add r (Nat.le_refl _)] using hP

/-! Ways to a place -/
def wayN : List Int → Int → Nat
  | [], p => if p = 0 then 1 else 0
  | x :: r, p => wayN r (p - x) + wayN r (p + x)
theorem way_cnt : ∀ (xs : List Int) (p : Int), cntF (fun s => decide (plc xs s = p)) (2 ^ xs.length) = wayN xs p
  | [], p => by
    by_cases h : p = 0
    · subst h; rfl
    · have h0 : ¬ (0 : Int) = p := fun e => h e.symm
      simp [cntF, plc, wayN, h, h0]
  | x :: r, p => by
    have e : 2 ^ (x :: r).length = 2 ^ r.length + 2 ^ r.length := by rw [List.length_cons, Nat.pow_succ]; omega
    rw [e, cntF_add, cntF_congr (g := fun s => decide (plc r s = p - x)), cntF_congr (f := fun s => decide (plc (x :: r) (2 ^ r.length + s) = p)) (g := fun s => decide (plc r s = p + x)), way_cnt r, way_cnt r]
    · rfl
    · intro s hs
      simp only [plc, stepS_high x hs, plc_add r (Nat.le_refl _)]
      congr 1
      rw [eq_iff_iff]; omega
    · intro s hs
      simp only [plc, stepS_low x hs]
      congr 1
      rw [eq_iff_iff]; omega
theorem way_snoc : ∀ (xs : List Int) (x p : Int), wayN (xs ++ [x]) p = wayN xs (p - x) + wayN xs (p + x)
  | [], x, p => rfl
  | y :: r, x, p => by
    show wayN (r ++ [x]) (p - y) + wayN (r ++ [x]) (p + y) = (wayN r (p - x - y) + wayN r (p - x + y)) + (wayN r (p + x - y) + wayN r (p + x + y))
    rw [way_snoc r, way_snoc r, show p - y - x = p - x - y by omega, show p - y + x = p + x - y by omega, show p + y - x = p - x + y by omega, show p + y + x = p + x + y by omega]
    omega
theorem way_back : ∀ (xs : List Int) (p : Int), wayN xs.reverse p = wayN xs p
  | [], _ => rfl
  | x :: r, p => by
    rw [List.reverse_cons, way_snoc, way_back r, way_back r]
    rfl
theorem way_neg : ∀ (xs : List Int) (p : Int), wayN xs (-p) = wayN xs p
  | [], p => by simp only [wayN]; congr 1; rw [eq_iff_iff]; omega
  | x :: r, p => by
    simp only [wayN]
    rw [show -p - x = -(p + x) by omega, show -p + x = -(p - x) by omega, way_neg r, way_neg r]
    omega
theorem way_even {xs : List Int} (h : 1 ≤ xs.length) : wayN xs 0 % 2 = 0 := by
  cases xs with
  | nil => simp at h
  | cons x r =>
    simp only [wayN]
    rw [show (0 : Int) - x = -x by omega, way_neg, show (0 : Int) + x = x by omega]
    omega
theorem way_odd : ∀ (xs : List Int) (p : Int), 0 < wayN xs p → (xs.sum - p) % 2 = 0
  | [], p, h => by
    simp only [wayN] at h
    split at h
    · subst p; rfl
    · omega
  | x :: r, p, h => by
    simp only [wayN] at h
    rw [List.sum_cons]
    rcases (show 0 < wayN r (p - x) ∨ 0 < wayN r (p + x) by omega) with q | q
    · have := way_odd r _ q; omega
    · have := way_odd r _ q; omega
def Len1 (xs : List Int) : Prop := ∀ x, x ∈ xs → 1 ≤ x ∧ x ≤ 60
theorem Len1.tail {x : Int} {r : List Int} (h : Len1 (x :: r)) : Len1 r := fun y hy => h y (List.mem_cons_of_mem _ hy)
theorem way_far : ∀ (xs : List Int) (p : Int), Len1 xs → 0 < wayN xs p → p ≤ xs.sum ∧ -xs.sum ≤ p
  | [], p, _, h => by
    simp only [wayN] at h
    split at h
    · subst p; decide
    · omega
  | x :: r, p, hl, h => by
    have hx := hl x (List.mem_cons_self ..)
    simp only [wayN] at h
    rw [List.sum_cons]
    rcases (show 0 < wayN r (p - x) ∨ 0 < wayN r (p + x) by omega) with q | q
    · have := way_far r _ hl.tail q; omega
    · have := way_far r _ hl.tail q; omega
theorem way_sum : ∀ (xs : List Int), 0 < wayN xs xs.sum
  | [] => by decide
  | x :: r => by
    simp only [wayN]
    rw [List.sum_cons, show x + r.sum - x = r.sum by omega]
    have := way_sum r
    omega
theorem way_near : ∀ (xs : List Int) (m at0 : Int), (∀ x, x ∈ xs → 1 ≤ x ∧ x ≤ m) → -m ≤ at0 → at0 ≤ m → ∃ p, 0 < wayN xs p ∧ -m ≤ at0 + p ∧ at0 + p ≤ m
  | [], m, at0, _, h1, h2 => ⟨0, by decide, by omega, by omega⟩
  | x :: r, m, at0, hl, h1, h2 => by
    have hx := hl x (List.mem_cons_self ..)
    have ht : ∀ y, y ∈ r → 1 ≤ y ∧ y ≤ m := fun y hy => hl y (List.mem_cons_of_mem _ hy)
    by_cases h : 0 ≤ at0
    · obtain ⟨p, q1, q2, q3⟩ := way_near r m (at0 - x) ht (by omega) (by omega)
      refine ⟨p - x, ?_, by omega, by omega⟩
      simp only [wayN]
      rw [show p - x + x = p by omega]
      omega
    · obtain ⟨p, q1, q2, q3⟩ := way_near r m (at0 + x) ht (by omega) (by omega)
      refine ⟨p + x, ?_, by omega, by omega⟩
      simp only [wayN]
      rw [show p + x - x = p by omega]
      omega

/-! Spans -/
def rngP (xs : List Int) (s : Nat) : Int := hiP xs s - loP xs s
def leT (xs : List Int) : Nat → Int × Nat
  | 0 => (0, 0)
  | k + 1 => if k = 0 ∨ rngP xs k < (leT xs k).1 then (rngP xs k, k) else leT xs k
theorem leT_le {xs : List Int} : ∀ k s, s < k → (leT xs k).1 ≤ rngP xs s
  | 0, s, h => by omega
  | k + 1, s, h => by
    rw [leT]
    split
    · rename_i h1
      by_cases e : s = k
      · subst e; exact Int.le_refl _
      · have := leT_le (xs := xs) k s (by omega)
        show rngP xs k ≤ _
        rcases h1 with h1 | h1 <;> omega
    · rename_i h1
      by_cases e : s = k
      · subst e; omega
      · exact leT_le k s (by omega)
theorem leT_is {xs : List Int} : ∀ k, 1 ≤ k → (leT xs k).2 < k ∧ (leT xs k).1 = rngP xs (leT xs k).2
  | 0, h => by omega
  | k + 1, _ => by
    rw [leT]
    split
    · exact ⟨by simp, rfl⟩
    · rename_i h1
      have := leT_is (xs := xs) k (by omega)
      exact ⟨by omega, this.2⟩
def spanL (xs : List Int) : Int := (leT xs (2 ^ xs.length)).1
def firstL (xs : List Int) : Nat := (leT xs (2 ^ xs.length)).2
theorem span_le {xs : List Int} {s : Nat} (h : s < 2 ^ xs.length) : spanL xs ≤ rngP xs s := leT_le _ _ h
theorem span_is (xs : List Int) : firstL xs < 2 ^ xs.length ∧ spanL xs = rngP xs (firstL xs) := leT_is _ (Nat.two_pow_pos _)
theorem span_iff {xs : List Int} {t : Int} : spanL xs ≤ t ↔ ∃ s, s < 2 ^ xs.length ∧ hiP xs s - loP xs s ≤ t := by
  constructor
  · intro h
    exact ⟨_, (span_is xs).1, by have := (span_is xs).2; unfold rngP at this; omega⟩
  · rintro ⟨s, hs, h⟩
    have := span_le hs
    unfold rngP at this
    omega
theorem rng_ge : ∀ (xs : List Int) (s : Nat) (x : Int), x ∈ xs → x ≤ hiP xs s - loP xs s
  | y :: r, s, x, h => by
    have h1 := loP_le r s
    have h2 := hiP_ge r s
    simp only [hiP, loP]
    rcases List.mem_cons.1 h with e | e
    · subst e
      unfold stepS
      split <;> omega
    · have := rng_ge r s x e
      omega
theorem span_ge {xs : List Int} {x : Int} (h : x ∈ xs) : x ≤ spanL xs := by
  rw [(span_is xs).2]
  exact rng_ge xs _ x h

/-! The places that are reached within a span, stick by stick -/
def onT (t : Int) (p : Int) : Bool := decide (0 ≤ p) && decide (p ≤ t)
theorem onT_iff {t p : Int} : onT t p = true ↔ 0 ≤ p ∧ p ≤ t := by unfold onT; simp
def nextB (t : Int) (x : Int) (S : Int → Bool) (p : Int) : Bool := onT t p && (S (p - x) || S (p + x))
theorem nextB_iff {t x p : Int} {S : Int → Bool} : nextB t x S p = true ↔ (0 ≤ p ∧ p ≤ t) ∧ (S (p - x) = true ∨ S (p + x) = true) := by unfold nextB; rw [Bool.and_eq_true, onT_iff, Bool.or_eq_true]
def nowB (t : Int) : List Int → (Int → Bool) → Int → Bool
  | [], S => S
  | x :: r, S => nowB t r (nextB t x S)
theorem now_iff (t : Int) : ∀ (xs : List Int) (S : Int → Bool), (∀ p, S p = true → 0 ≤ p ∧ p ≤ t) →
    ((∃ y, nowB t xs S y = true) ↔ ∃ p, S p = true ∧ ∃ s, s < 2 ^ xs.length ∧ (0 ≤ p + loP xs s ∧ p + hiP xs s ≤ t))
  | [], S, hS => by
    simp only [nowB, loP, hiP]
    constructor
    · rintro ⟨y, hy⟩
      have := hS y hy
      exact ⟨y, hy, 0, by decide, by omega, by omega⟩
    · rintro ⟨p, hp, _⟩
      exact ⟨p, hp⟩
  | x :: r, S, hS => by
    rw [nowB, now_iff t r (nextB t x S) (fun p h => (nextB_iff.1 h).1)]
    constructor
    · rintro ⟨p, hp, s, hs, h1, h2⟩
      obtain ⟨hp1, hp2⟩ := nextB_iff.1 hp
      rcases hp2 with hq | hq
      · refine ⟨p - x, hq, (some_fold (P := fun _ lo hi => 0 ≤ p - x + lo ∧ p - x + hi ≤ t)).2 (.inl ⟨s, hs, ?_⟩)⟩
        have := hS _ hq
        omega
      · refine ⟨p + x, hq, (some_fold (P := fun _ lo hi => 0 ≤ p + x + lo ∧ p + x + hi ≤ t)).2 (.inr ⟨s, hs, ?_⟩)⟩
        have := hS _ hq
        omega
    · rintro ⟨p, hp, h⟩
      rcases (some_fold (P := fun _ lo hi => 0 ≤ p + lo ∧ p + hi ≤ t)).1 h with ⟨s, hs, h1, h2⟩ | ⟨s, hs, h1, h2⟩
      · have g1 := loP_le r s
        have g2 := hiP_ge r s
        exact ⟨p + x, nextB_iff.2 ⟨by omega, .inl (by rw [show p + x - x = p by omega]; exact hp)⟩, s, hs, by omega, by omega⟩
      · have g1 := loP_le r s
        have g2 := hiP_ge r s
        exact ⟨p - x, nextB_iff.2 ⟨by omega, .inr (by rw [show p - x + x = p by omega]; exact hp)⟩, s, hs, by omega, by omega⟩
/-- A ruler fits a span. -/
theorem fits_iff {xs : List Int} {t : Int} : (∃ y, nowB t xs (onT t) y = true) ↔ spanL xs ≤ t := by
  rw [now_iff t xs (onT t) (fun p h => onT_iff.1 h), span_iff]
  constructor
  · rintro ⟨p, _, s, hs, h1, h2⟩
    exact ⟨s, hs, by omega⟩
  · rintro ⟨s, hs, h⟩
    have g1 := loP_le xs s
    have g2 := hiP_ge xs s
    exact ⟨-loP xs s, onT_iff.2 ⟨by omega, by omega⟩, s, hs, by omega, by omega⟩

/-! Backwards -/
theorem nowB_snoc (t : Int) : ∀ (xs : List Int) (x : Int) (S : Int → Bool), nowB t (xs ++ [x]) S = nextB t x (nowB t xs S)
  | [], _, _ => rfl
  | y :: r, x, S => by
    show nowB t (r ++ [x]) (nextB t y S) = nextB t x (nowB t r (nextB t y S))
    exact nowB_snoc t r x _
/-- A path from a place to a place within a span. -/
def pthP (t : Int) : List Int → Int → Int → Prop
  | [], p, q => p = q ∧ 0 ≤ p ∧ p ≤ t
  | x :: r, p, q => (0 ≤ p ∧ p ≤ t) ∧ (pthP t r (p + x) q ∨ pthP t r (p - x) q)
theorem pth_snoc (t : Int) : ∀ (xs : List Int) (x p q : Int), pthP t (xs ++ [x]) p q ↔ (0 ≤ q ∧ q ≤ t) ∧ (pthP t xs p (q + x) ∨ pthP t xs p (q - x))
  | [], x, p, q => by
    simp only [List.nil_append, pthP]
    omega
  | y :: r, x, p, q => by
    simp only [List.cons_append, pthP]
    rw [pth_snoc t r, pth_snoc t r]
    constructor
    · rintro ⟨h, ⟨h1, h2 | h2⟩ | ⟨h1, h2 | h2⟩⟩
      · exact ⟨h1, .inl ⟨h, .inl h2⟩⟩
      · exact ⟨h1, .inr ⟨h, .inl h2⟩⟩
      · exact ⟨h1, .inl ⟨h, .inr h2⟩⟩
      · exact ⟨h1, .inr ⟨h, .inr h2⟩⟩
    · rintro ⟨h1, ⟨h, h2 | h2⟩ | ⟨h, h2 | h2⟩⟩
      · exact ⟨h, .inl ⟨h1, .inl h2⟩⟩
      · exact ⟨h, .inr ⟨h1, .inl h2⟩⟩
      · exact ⟨h, .inl ⟨h1, .inr h2⟩⟩
      · exact ⟨h, .inr ⟨h1, .inr h2⟩⟩
theorem pth_back (t : Int) : ∀ (xs : List Int) (p q : Int), pthP t xs.reverse q p ↔ pthP t xs p q
  | [], p, q => by simp only [List.reverse_nil, pthP]; omega
  | x :: r, p, q => by
    rw [List.reverse_cons, pth_snoc, pth_back t r, pth_back t r]
    rfl
theorem now_pth (t : Int) : ∀ (xs : List Int) (S : Int → Bool), (∀ p, S p = true → 0 ≤ p ∧ p ≤ t) → ∀ q, (nowB t xs S q = true ↔ ∃ p, S p = true ∧ pthP t xs p q)
  | [], S, hS, q => by
    simp only [nowB, pthP]
    constructor
    · intro h; exact ⟨q, h, rfl, hS q h⟩
    · rintro ⟨p, h, rfl, _⟩; exact h
  | x :: r, S, hS, q => by
    rw [nowB, now_pth t r _ (fun p h => (nextB_iff.1 h).1)]
    simp only [pthP]
    constructor
    · rintro ⟨p, hp, h⟩
      rcases nextB_iff.1 hp with ⟨h1, h2 | h2⟩
      · exact ⟨p - x, h2, hS _ h2, .inl (by rw [show p - x + x = p by omega]; exact h)⟩
      · exact ⟨p + x, h2, hS _ h2, .inr (by rw [show p + x - x = p by omega]; exact h)⟩
    · rintro ⟨p, hp, _, h | h⟩
      · refine ⟨p + x, nextB_iff.2 ⟨?_, .inl (by rw [show p + x - x = p by omega]; exact hp)⟩, h⟩
        cases r with
        | nil => exact h.2
        | cons y r => exact h.1
      · refine ⟨p - x, nextB_iff.2 ⟨?_, .inr (by rw [show p - x + x = p by omega]; exact hp)⟩, h⟩
        cases r with
        | nil => exact h.2
        | cons y r => exact h.1
theorem pth_ends {t : Int} {xs : List Int} {p q : Int} (h : pthP t xs p q) : 0 ≤ p ∧ p ≤ t := by
  cases xs with
  | nil => exact h.2
  | cons x r => exact h.1
theorem fits_pth {xs : List Int} {t : Int} : spanL xs ≤ t ↔ ∃ p q, pthP t xs p q := by
  rw [← fits_iff]
  constructor
  · rintro ⟨y, hy⟩
    obtain ⟨p, _, h⟩ := (now_pth t xs (onT t) (fun p h => onT_iff.1 h) y).1 hy
    exact ⟨p, y, h⟩
  · rintro ⟨p, q, h⟩
    exact ⟨q, (now_pth t xs (onT t) (fun p h => onT_iff.1 h) q).2 ⟨p, onT_iff.2 (pth_ends h), h⟩⟩
theorem span_back (xs : List Int) : spanL xs.reverse = spanL xs := by
  have h : ∀ t, spanL xs.reverse ≤ t ↔ spanL xs ≤ t := fun t => by
    rw [fits_pth, fits_pth]
    constructor
    · rintro ⟨p, q, h⟩; exact ⟨q, p, (pth_back t xs q p).1 h⟩
    · rintro ⟨p, q, h⟩; exact ⟨q, p, (pth_back t xs p q).2 h⟩
  have h1 := (h (spanL xs)).2 (Int.le_refl _)
  have h2 := (h (spanL xs.reverse)).1 (Int.le_refl _)
  omega

/-! The greedy folding -/
theorem tri_eq {a b c a' b' c' : Int} (h1 : a = a') (h2 : b = b') (h3 : c = c') : (a, b, c) = (a', b', c') := by subst h1 h2 h3; rfl
def grdT (m : Int) : List Int → Int × Int × Int → Int × Int × Int
  | [], t => t
  | x :: r, t => grdT m r (let q := if t.1 + x ≤ m then t.1 + x else t.1 - x; (q, min t.2.1 q, max t.2.2 q))
theorem grd_is (m : Int) : ∀ (xs : List Int) (a lo hi : Int), lo ≤ a → a ≤ hi → ∃ s, s < 2 ^ xs.length ∧ grdT m xs (a, lo, hi) = (a + plc xs s, min lo (a + loP xs s), max hi (a + hiP xs s))
  | [], a, lo, hi, h1, h2 => ⟨0, by decide, by simp only [grdT, plc, loP, hiP]; exact tri_eq (by omega) (by omega) (by omega)⟩
  | x :: r, a, lo, hi, h1, h2 => by
    by_cases h : a + x ≤ m
    · obtain ⟨s, hs, e⟩ := grd_is m r (a + x) (min lo (a + x)) (max hi (a + x)) (by omega) (by omega)
      obtain ⟨s', hs', e'⟩ := (some_fold (x := x) (r := r) (P := fun p l g => grdT m (x :: r) (a, lo, hi) = (a + p, min lo (a + l), max hi (a + g)))).2 (.inl ⟨s, hs, by
        have g1 := loP_le r s
        have g2 := hiP_ge r s
        simp only [grdT, if_pos h]
        rw [e]
        exact tri_eq (by omega) (by omega) (by omega)⟩)
      exact ⟨s', hs', e'⟩
    · obtain ⟨s, hs, e⟩ := grd_is m r (a - x) (min lo (a - x)) (max hi (a - x)) (by omega) (by omega)
      obtain ⟨s', hs', e'⟩ := (some_fold (x := x) (r := r) (P := fun p l g => grdT m (x :: r) (a, lo, hi) = (a + p, min lo (a + l), max hi (a + g)))).2 (.inr ⟨s, hs, by
        have g1 := loP_le r s
        have g2 := hiP_ge r s
        simp only [grdT, if_neg h]
        rw [e]
        exact tri_eq (by omega) (by omega) (by omega)⟩)
      exact ⟨s', hs', e'⟩
theorem grd_bd (m : Int) : ∀ (xs : List Int) (a lo hi : Int), (∀ x, x ∈ xs → 1 ≤ x ∧ x ≤ m) → -m < a → a ≤ m → -m < lo → hi ≤ m → -m < (grdT m xs (a, lo, hi)).2.1 ∧ (grdT m xs (a, lo, hi)).2.2 ≤ m
  | [], a, lo, hi, _, h1, h2, h3, h4 => ⟨h3, h4⟩
  | x :: r, a, lo, hi, hl, h1, h2, h3, h4 => by
    have hx := hl x (List.mem_cons_self ..)
    have ht : ∀ y, y ∈ r → 1 ≤ y ∧ y ≤ m := fun y hy => hl y (List.mem_cons_of_mem _ hy)
    by_cases h : a + x ≤ m
    · simp only [grdT, if_pos h]
      exact grd_bd m r _ _ _ ht (by omega) (by omega) (by omega) (by omega)
    · simp only [grdT, if_neg h]
      exact grd_bd m r _ _ _ ht (by omega) (by omega) (by omega) (by omega)
def grdL (m : Int) (xs : List Int) : Int := (grdT m xs (0, 0, 0)).2.2 - (grdT m xs (0, 0, 0)).2.1
theorem grd_span {m : Int} {xs : List Int} (hm : 1 ≤ m) (h : ∀ x, x ∈ xs → 1 ≤ x ∧ x ≤ m) : spanL xs ≤ grdL m xs ∧ grdL m xs < 2 * m := by
  have h1 := grd_bd m xs 0 0 0 h (by omega) (by omega) (by omega) (by omega)
  obtain ⟨s, hs, e⟩ := grd_is m xs 0 0 0 (by omega) (by omega)
  have h2 := span_le hs
  have g1 := loP_le xs s
  have g2 := hiP_ge xs s
  unfold rngP at h2
  unfold grdL
  refine ⟨?_, by omega⟩
  rw [e]
  simp only
  omega
end Go.Proofs.Ytogmoljaiapolaa
