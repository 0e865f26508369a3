/- Joined: PathP, PathQ. -/
import Derived.WalkKit
/- Pure facts of chapter 6. -/
namespace Go.Proofs.Ytiadnbdefcimiaa

abbrev Pt := Int × Int
def addP (a b : Pt) : Pt := (a.1 + b.1, a.2 + b.2)
def subP (a b : Pt) : Pt := (a.1 - b.1, a.2 - b.2)
def crs (a b : Pt) : Int := a.1 * b.2 - a.2 * b.1
def dotP (a b : Pt) : Int := a.1 * b.1 + a.2 * b.2
abbrev atP (l : List Pt) (i : Nat) : Pt := l.getD i (0, 0)
/-- The sum of steps. -/
def tot : List Pt → Pt
  | [] => (0, 0)
  | s :: t => addP s (tot t)
/-- Where step k begins. -/
def cor (l : List Pt) (k : Nat) : Pt := tot (l.take k)
/-- A step. -/
def stepP (s : Pt) : Prop := (-9 ≤ s.1 ∧ s.1 ≤ 9) ∧ (-9 ≤ s.2 ∧ s.2 ≤ 9) ∧ s ≠ (0, 0)
structure IsPath (l : List Pt) : Prop where
  lo : 3 ≤ l.length
  hi : l.length ≤ 8
  steps : ∀ s ∈ l, stepP s
  closed : tot l = (0, 0)

theorem tot_append (a b : List Pt) : tot (a ++ b) = addP (tot a) (tot b) := by
  induction a with
  | nil => simp [tot, addP]
  | cons s t ih => simp [tot, ih, addP, Int.add_assoc]
theorem atP_lt {l : List Pt} {i : Nat} (h : i < l.length) : atP l i = l[i] := by simp [atP, List.getD_eq_getElem?_getD, h]
theorem cor_zero (l : List Pt) : cor l 0 = (0, 0) := by simp [cor, tot]
theorem cor_succ {l : List Pt} {i : Nat} (h : i < l.length) : cor l (i + 1) = addP (cor l i) (atP l i) := by
  unfold cor
  rw [List.take_succ_eq_append_getElem h, tot_append, atP_lt h]
  simp [tot, addP]
theorem cor_len (l : List Pt) : cor l l.length = tot l := by simp [cor]
theorem cor_next {l : List Pt} (hc : tot l = (0, 0)) {i : Nat} (h : i < l.length) : cor l ((i + 1) % l.length) = addP (cor l i) (atP l i) := by
  rw [← cor_succ h]
  by_cases e : i + 1 = l.length
  · rw [e, Nat.mod_self, cor_zero, cor_len, hc]
  · rw [Nat.mod_eq_of_lt (by omega)]
theorem IsPath.at_ {l : List Pt} (h : IsPath l) {i : Nat} (hi : i < l.length) : stepP (atP l i) := by
  rw [atP_lt hi]; exact h.steps _ (List.getElem_mem hi)
theorem IsPath.bd {l : List Pt} (h : IsPath l) : ∀ k, k ≤ l.length → (-(9 * (k : Int)) ≤ (cor l k).1 ∧ (cor l k).1 ≤ 9 * k) ∧ (-(9 * (k : Int)) ≤ (cor l k).2 ∧ (cor l k).2 ≤ 9 * k) := by
  intro k
  induction k with
  | zero => intro _; rw [cor_zero]; simp
  | succ k ih =>
    intro hk
    have h1 := ih (by omega)
    have h2 := h.at_ (i := k) (by omega)
    rw [cor_succ (by omega)]
    unfold stepP at h2
    simp only [addP]
    omega
theorem IsPath.bd72 {l : List Pt} (h : IsPath l) {k : Nat} (hk : k ≤ l.length) : (-72 ≤ (cor l k).1 ∧ (cor l k).1 ≤ 72) ∧ (-72 ≤ (cor l k).2 ∧ (cor l k).2 ≤ 72) := by
  have h1 := h.bd k hk
  have := h.hi
  omega

/-- f 0 + .. + f (k - 1). -/
def sumF (f : Nat → Int) : Nat → Int
  | 0 => 0
  | k + 1 => sumF f k + f k
theorem sumF_congr {f g : Nat → Int} {n : Nat} (h : ∀ i, i < n → f i = g i) : sumF f n = sumF g n := by
  induction n with
  | zero => rfl
  | succ n ih => simp [sumF, ih (fun i hi => h i (by omega)), h n (by omega)]
theorem sumF_bd {f : Nat → Int} {b : Int} {n : Nat} (h : ∀ i, i < n → -b ≤ f i ∧ f i ≤ b) : -(b * n) ≤ sumF f n ∧ sumF f n ≤ b * n := by
  induction n with
  | zero => simp [sumF]
  | succ n ih =>
    have h1 := ih (fun i hi => h i (by omega))
    have h2 := h n (by omega)
    have e : b * ((n + 1 : Nat) : Int) = b * n + b := by rw [Int.natCast_add, Int.mul_add]; simp
    rw [e]
    simp only [sumF]
    omega
theorem mul_sq {a b A B : Int} (h1 : -A ≤ a) (h2 : a ≤ A) (h3 : -B ≤ b) (h4 : b ≤ B) : -(A * B) ≤ a * b ∧ a * b ≤ A * B := by
  have hA : 0 ≤ A := by omega
  have hB : 0 ≤ B := by omega
  have k1 : 0 ≤ (A - a) * (B + b) := Int.mul_nonneg (by omega) (by omega)
  have k2 : 0 ≤ (A + a) * (B - b) := Int.mul_nonneg (by omega) (by omega)
  have k3 : 0 ≤ (A - a) * (B - b) := Int.mul_nonneg (by omega) (by omega)
  have k4 : 0 ≤ (A + a) * (B + b) := Int.mul_nonneg (by omega) (by omega)
  constructor <;> grind
theorem crs_bd {a b : Pt} {A B : Int} (h1 : -A ≤ a.1 ∧ a.1 ≤ A) (h2 : -A ≤ a.2 ∧ a.2 ≤ A) (h3 : -B ≤ b.1 ∧ b.1 ≤ B) (h4 : -B ≤ b.2 ∧ b.2 ≤ B) : -(2 * (A * B)) ≤ crs a b ∧ crs a b ≤ 2 * (A * B) := by
  have k1 := mul_sq h1.1 h1.2 h4.1 h4.2
  have k2 := mul_sq h2.1 h2.2 h3.1 h3.2
  unfold crs
  omega

/-- Twice the area. -/
def areaP (l : List Pt) : Int := sumF (fun i => crs (cor l i) (cor l ((i + 1) % l.length))) l.length
theorem areaP_part_bd {l : List Pt} (h : IsPath l) {k : Nat} (hk : k ≤ l.length) : -82944 ≤ sumF (fun i => crs (cor l i) (cor l ((i + 1) % l.length))) k ∧ sumF (fun i => crs (cor l i) (cor l ((i + 1) % l.length))) k ≤ 82944 := by
  have h8 := h.hi
  have hb := sumF_bd (b := 10368) (n := k) (f := fun i => crs (cor l i) (cor l ((i + 1) % l.length))) (fun i hi => by
    have h1 := h.bd72 (k := i) (by omega)
    have h2 := h.bd72 (k := (i + 1) % l.length) (Nat.le_of_lt (Nat.mod_lt _ (by omega)))
    exact crs_bd h1.1 h1.2 h2.1 h2.2)
  omega
/-- The same, from a point on. -/
def arP (c : Pt) : List Pt → Int
  | [] => 0
  | s :: t => crs c s + arP (addP c s) t
theorem arP_append (a b : List Pt) : ∀ c, arP c (a ++ b) = arP c a + arP (addP c (tot a)) b := by
  induction a with
  | nil => intro c; simp [arP, tot, addP]
  | cons s t ih => intro c; simp [arP, ih, tot, addP, Int.add_assoc]
theorem arP_shift (d : Pt) (t : List Pt) : ∀ c, arP (addP c d) t = arP c t + crs d (tot t) := by
  induction t with
  | nil => intro c; simp [arP, tot, crs]
  | cons s t ih =>
    intro c
    have e : addP (addP c d) s = addP (addP c s) d := by simp [addP]; omega
    simp only [arP, tot, e, ih]
    simp only [crs, addP]
    grind
theorem areaP_take {l : List Pt} (hc : tot l = (0, 0)) {k : Nat} (hk : k ≤ l.length) : sumF (fun i => crs (cor l i) (cor l ((i + 1) % l.length))) k = arP (0, 0) (l.take k) := by
  induction k with
  | zero => simp [sumF, arP]
  | succ k ih =>
    rw [sumF, ih (by omega), List.take_succ_eq_append_getElem (by omega), arP_append, cor_next hc (by omega), atP_lt (by omega)]
    simp only [arP, cor, crs, addP]
    grind
theorem areaP_ar {l : List Pt} (hc : tot l = (0, 0)) : areaP l = arP (0, 0) l := by
  have := areaP_take hc (Nat.le_refl l.length)
  rw [List.take_length] at this
  exact this
/-- A rotation by one leaves the area. -/
theorem area_rot1 {s : Pt} {t : List Pt} (hc : tot (s :: t) = (0, 0)) : arP (0, 0) (t ++ [s]) = arP (0, 0) (s :: t) := by
  have h := hc
  simp only [tot, addP, Prod.mk.injEq] at h
  rw [arP_append]
  have e : arP (0, 0) (s :: t) = crs (0, 0) s + arP (addP (0, 0) s) t := rfl
  rw [e, arP_shift s t (0, 0)]
  obtain ⟨s1, s2⟩ := s
  obtain ⟨⟨t1, t2⟩, et⟩ : ∃ q, tot t = q := ⟨_, rfl⟩
  rw [et] at h
  simp only at h
  obtain ⟨h1, h2⟩ := h
  obtain rfl : t1 = -s1 := by omega
  obtain rfl : t2 = -s2 := by omega
  rw [et]
  simp only [arP, crs, addP]
  grind

/-! Convex. -/
def okB (a b : Pt) : Bool := decide (0 < crs a b) || (decide (crs a b = 0) && decide (0 < dotP a b))
def upB (a : Pt) : Bool := decide (0 < a.2) || (decide (a.2 = 0) && decide (0 < a.1))
def wrapB (a b : Pt) : Bool := !upB a && upB b
/-- How many of the first k places are so. -/
def numN (f : Nat → Bool) : Nat → Nat
  | 0 => 0
  | k + 1 => numN f k + (if f k then 1 else 0)
theorem numN_le (f : Nat → Bool) : ∀ n, numN f n ≤ n
  | 0 => Nat.le_refl _
  | n + 1 => by have := numN_le f n; simp only [numN]; split <;> omega
theorem numN_congr {f g : Nat → Bool} {n : Nat} (h : ∀ i, i < n → f i = g i) : numN f n = numN g n := by
  induction n with
  | zero => rfl
  | succ n ih => simp [numN, ih (fun i hi => h i (by omega)), h n (by omega)]
abbrev nxt (l : List Pt) (i : Nat) : Pt := atP l ((i + 1) % l.length)
def turnsB (l : List Pt) : Bool := (List.range l.length).all fun i => okB (atP l i) (nxt l i)
def wrapsN (l : List Pt) : Nat := numN (fun i => wrapB (atP l i) (nxt l i)) l.length
def convB (l : List Pt) : Bool := turnsB l && decide (wrapsN l = 1)
theorem turnsB_iff {l : List Pt} : turnsB l = true ↔ ∀ i, i < l.length → okB (atP l i) (nxt l i) = true := by simp [turnsB, List.all_eq_true]

theorem okB_iff (a b : Pt) : okB a b = true ↔ 0 < crs a b ∨ (crs a b = 0 ∧ 0 < dotP a b) := by simp [okB]
theorem sq_zero {x y : Int} (h : x * x + y * y = 0) : x = 0 ∧ y = 0 := by
  have hx : 0 ≤ x * x := by rcases Int.le_total 0 x with h | h; exact Int.mul_nonneg h h; exact Int.mul_nonneg_of_nonpos_of_nonpos h h
  have hy : 0 ≤ y * y := by rcases Int.le_total 0 y with h | h; exact Int.mul_nonneg h h; exact Int.mul_nonneg_of_nonpos_of_nonpos h h
  have h1 : x * x = 0 := by omega
  have h2 : y * y = 0 := by omega
  exact ⟨by rcases Int.mul_eq_zero.1 h1 with h | h <;> exact h, by rcases Int.mul_eq_zero.1 h2 with h | h <;> exact h⟩
theorem flat_zero {a b : Pt} (ha : a ≠ (0, 0)) (hb : b ≠ (0, 0)) (hc : crs a b = 0) (hd : dotP a b = 0) : False := by
  have e : (a.1 * a.1 + a.2 * a.2) * (b.1 * b.1 + b.2 * b.2) = crs a b * crs a b + dotP a b * dotP a b := by unfold crs dotP; grind
  rw [hc, hd] at e
  rcases Int.mul_eq_zero.1 (by simpa using e) with h | h
  · exact ha (Prod.ext (sq_zero h).1 (sq_zero h).2)
  · exact hb (Prod.ext (sq_zero h).1 (sq_zero h).2)
/-- The model's test of a turn. -/
theorem okB_spec {a b : Pt} (ha : a ≠ (0, 0)) (hb : b ≠ (0, 0)) : okB a b = !(decide (crs a b < 0) || (decide (crs a b = 0) && decide (dotP a b < 0))) := by
  rw [Bool.eq_iff_iff, okB_iff]
  simp only [Bool.not_eq_true', Bool.or_eq_false_iff, decide_eq_false_iff_not, Bool.and_eq_false_iff]
  by_cases h : crs a b = 0
  · have : dotP a b ≠ 0 := fun e => flat_zero ha hb h e
    omega
  · omega
/-- The program's test of a turn. -/
theorem okB_impl (a b : Pt) : okB a b = !(decide (crs a b ≤ 0) && !(decide (crs a b = 0) && decide (0 < dotP a b))) := by
  rw [Bool.eq_iff_iff, okB_iff]
  simp only [Bool.not_eq_true', Bool.and_eq_false_iff, decide_eq_false_iff_not, Bool.not_eq_false', Bool.and_eq_true, decide_eq_true_eq]
  omega
theorem neg_of_mul {a b : Int} (ha : a < 0) (h : 0 ≤ a * b) : b ≤ 0 := by
  rcases Int.lt_or_le 0 b with hb | hb
  · have := Int.mul_neg_of_neg_of_pos ha hb; omega
  · exact hb
theorem pos_of_mul {a b : Int} (ha : a < 0) (h : a * b < 0) : 0 < b := by
  rcases Int.lt_or_le 0 b with hb | hb
  · exact hb
  · have := Int.mul_nonneg_of_nonpos_of_nonpos (Int.le_of_lt ha) hb; omega
/-- The program's test of a full turn, where the turn is one to the left. -/
theorem wrap_impl {a b : Pt} (ha : a ≠ (0, 0)) (hb : b ≠ (0, 0)) (h : okB a b = true) : (decide (a.2 < 0) && decide (0 ≤ b.2)) = wrapB a b := by
  rw [okB_iff] at h
  obtain ⟨x, y⟩ := a
  obtain ⟨u, v⟩ := b
  simp only [crs, dotP, ne_eq, Prod.mk.injEq, not_and] at h ha hb
  rw [Bool.eq_iff_iff]
  simp only [wrapB, upB, Bool.and_eq_true, Bool.not_eq_true', Bool.or_eq_false_iff, Bool.and_eq_false_iff, Bool.or_eq_true, decide_eq_true_eq, decide_eq_false_iff_not]
  constructor
  · rintro ⟨h1, h2⟩
    refine ⟨⟨by omega, .inl (by omega)⟩, ?_⟩
    by_cases hv : v = 0
    · refine .inr ⟨hv, ?_⟩
      subst hv
      have hu : u ≠ 0 := fun e => hb e rfl
      rcases Int.lt_or_le 0 u with hp | hp
      · exact hp
      · have : 0 < y * u := Int.mul_pos_of_neg_of_neg h1 (by omega)
        simp at h
        omega
    · exact .inl (by omega)
  · rintro ⟨⟨h1, h2⟩, h3⟩
    refine ⟨?_, by omega⟩
    by_cases hy : y = 0
    · subst hy
      have hx : x < 0 := by
        have : x ≠ 0 := fun e => ha e rfl
        omega
      have hxv : 0 ≤ x * v := by simp at h; omega
      have hv := neg_of_mul hx hxv
      have hv0 : v = 0 := by omega
      subst hv0
      have hu : 0 < u := by omega
      have : x * u < 0 := Int.mul_neg_of_neg_of_pos hx hu
      simp at h
      omega
    · omega

/-! Rotations. -/
def rotL (l : List Pt) (k : Nat) : List Pt := l.drop k ++ l.take k
theorem rot_len (l : List Pt) {k : Nat} : (rotL l k).length = l.length := by simp [rotL]; omega
theorem rot_zero (l : List Pt) : rotL l 0 = l := by simp [rotL]
theorem rot_at {l : List Pt} {k i : Nat} (hk : k ≤ l.length) (hi : i < l.length) : atP (rotL l k) i = atP l ((k + i) % l.length) := by
  unfold rotL atP
  simp only [List.getD_eq_getElem?_getD]
  by_cases h : i < l.length - k
  · rw [List.getElem?_append_left (by simpa using h), List.getElem?_drop, Nat.mod_eq_of_lt (by omega)]
  · rw [List.getElem?_append_right (by simp; omega), List.length_drop, List.getElem?_take, if_pos (by omega)]
    rw [show (k + i) % l.length = i - (l.length - k) by rw [Nat.mod_eq_sub_mod (by omega), Nat.mod_eq_of_lt (by omega)]; omega]
theorem rot_succ {l : List Pt} {k : Nat} (hk : k < l.length) : ∃ s t, rotL l k = s :: t ∧ rotL l (k + 1) = t ++ [s] := by
  refine ⟨l[k], l.drop (k + 1) ++ l.take k, ?_, ?_⟩
  · unfold rotL; rw [List.drop_eq_getElem_cons hk]; rfl
  · unfold rotL; rw [List.take_succ_eq_append_getElem hk]; simp
theorem tot_rot (l : List Pt) (k : Nat) (hc : tot l = (0, 0)) : tot (rotL l k) = (0, 0) := by
  have h : tot (l.take k ++ l.drop k) = (0, 0) := by rw [List.take_append_drop]; exact hc
  rw [tot_append] at h
  unfold rotL
  rw [tot_append]
  simp only [addP, Prod.mk.injEq] at h ⊢
  omega
theorem area_rot {l : List Pt} (hc : tot l = (0, 0)) : ∀ k, k ≤ l.length → arP (0, 0) (rotL l k) = arP (0, 0) l := by
  intro k
  induction k with
  | zero => intro _; rw [rot_zero]
  | succ k ih =>
    intro hk
    obtain ⟨s, t, h1, h2⟩ := rot_succ (l := l) (k := k) (by omega)
    rw [h2, ← ih (by omega), h1]
    exact area_rot1 (by rw [← h1]; exact tot_rot l k hc)
theorem areaP_rot {l : List Pt} (hc : tot l = (0, 0)) {k : Nat} (hk : k ≤ l.length) : areaP (rotL l k) = areaP l := by
  rw [areaP_ar (tot_rot l k hc), areaP_ar hc, area_rot hc k hk]
theorem rot_nxt {l : List Pt} {k i : Nat} (hk : k ≤ l.length) (hi : i < l.length) : nxt (rotL l k) i = nxt l ((k + i) % l.length) := by
  unfold nxt
  rw [rot_len, rot_at hk (Nat.mod_lt _ (by omega))]
  congr 1
  rw [Nat.add_mod_mod, Nat.mod_add_mod, Nat.add_assoc]
theorem turns_rot {l : List Pt} {k : Nat} (hk : k ≤ l.length) (h : turnsB l = true) : turnsB (rotL l k) = true := by
  rw [turnsB_iff] at h ⊢
  intro i hi
  rw [rot_len] at hi
  rw [rot_at hk hi, rot_nxt hk hi]
  exact h _ (Nat.mod_lt _ (by omega))
theorem numN_shift (f : Nat → Bool) : ∀ m, numN (fun i => f (i + 1)) m + (if f 0 then 1 else 0) = numN f (m + 1)
  | 0 => by simp [numN]
  | m + 1 => by
    have h := numN_shift f m
    rw [numN, numN]
    omega
theorem numN_rot (f : Nat → Bool) (n : Nat) (h0 : 0 < n) : numN (fun i => f ((i + 1) % n)) n = numN f n := by
  obtain ⟨m, rfl⟩ : ∃ m, n = m + 1 := ⟨n - 1, by omega⟩
  rw [numN, ← numN_shift f m, Nat.mod_self]
  congr 1
  refine numN_congr fun i hi => ?_
  rw [Nat.mod_eq_of_lt (by omega)]
theorem wraps_rot {l : List Pt} : ∀ k, k ≤ l.length → wrapsN (rotL l k) = wrapsN l := by
  intro k
  induction k with
  | zero => intro _; rw [rot_zero]
  | succ k ih =>
    intro hk
    rw [← ih (by omega)]
    unfold wrapsN
    rw [rot_len, rot_len, ← numN_rot (fun i => wrapB (atP (rotL l k) i) (nxt (rotL l k) i)) l.length (by omega)]
    refine numN_congr fun i hi => ?_
    rw [rot_at hk hi, rot_nxt hk hi, rot_at (by omega) (Nat.mod_lt _ (by omega)), rot_nxt (by omega) (Nat.mod_lt _ (by omega))]
    have e : (k + (i + 1) % l.length) % l.length = (k + 1 + i) % l.length := by rw [Nat.add_mod_mod, Nat.add_assoc, Nat.add_comm 1 i]
    rw [e]
theorem rot_back {l : List Pt} {k : Nat} : rotL (rotL l k) (l.length - k) = l := by
  unfold rotL
  have e : (l.drop k).length = l.length - k := by simp
  rw [← e, List.drop_left, List.take_left, List.take_append_drop]
theorem conv_rot {l : List Pt} {k : Nat} (hk : k ≤ l.length) : convB (rotL l k) = convB l := by
  unfold convB
  rw [wraps_rot k hk]
  congr 1
  rw [Bool.eq_iff_iff]
  constructor
  · intro h
    have := turns_rot (k := l.length - k) (by rw [rot_len]; omega) h
    rwa [rot_back] at this
  · exact turns_rot hk

/-! Halves of a convex path. -/
theorem up_add {a b : Pt} (ha : upB a = true) (hb : upB b = true) : upB (addP a b) = true := by
  obtain ⟨x, y⟩ := a
  obtain ⟨u, v⟩ := b
  show upB (x + u, y + v) = true
  simp only [upB, Bool.or_eq_true, Bool.and_eq_true, decide_eq_true_eq] at ha hb ⊢
  omega
theorem up_not {a : Pt} (h0 : a ≠ (0, 0)) (h : upB a = false) : upB (-a.1, -a.2) = true := by
  obtain ⟨x, y⟩ := a
  simp only [ne_eq, Prod.mk.injEq, not_and, upB, Bool.or_eq_false_iff, Bool.and_eq_false_iff, decide_eq_false_iff_not, Bool.or_eq_true, Bool.and_eq_true, decide_eq_true_eq] at *
  by_cases hy : y = 0
  · have : x ≠ 0 := fun e => h0 e hy
    omega
  · omega
theorem pos_left {a b : Int} (ha : 0 < a) (h : 0 < a * b) : 0 < b := by
  rcases Int.lt_or_le 0 b with hb | hb
  · exact hb
  · have := Int.mul_nonneg_of_nonpos_of_nonpos (a := -a) (b := b) (by omega) hb
    rw [Int.neg_mul] at this; omega
theorem nonneg_left {a b : Int} (ha : 0 < a) (h : 0 ≤ a * b) : 0 ≤ b := by
  rcases Int.lt_or_le b 0 with hb | hb
  · have := Int.mul_neg_of_pos_of_neg ha hb; omega
  · exact hb
/-- Directions of one half are told by the cross product alone. -/
theorem dot_up {a b : Pt} (ha : upB a = true) (hb : upB b = true) (h : crs a b = 0) : 0 < dotP a b := by
  obtain ⟨x, y⟩ := a
  obtain ⟨u, v⟩ := b
  simp only [crs, dotP, upB, Bool.or_eq_true, Bool.and_eq_true, decide_eq_true_eq] at *
  rcases ha with ha | ⟨rfl, ha⟩
  · rcases hb with hb | ⟨rfl, hb⟩
    · have h1 : 0 < y * v := Int.mul_pos ha hb
      have h2 : y * (x * u) = x * x * v := by grind
      have h3 : 0 ≤ x * x := by rcases Int.le_total 0 x with h | h; exact Int.mul_nonneg h h; exact Int.mul_nonneg_of_nonpos_of_nonpos h h
      have h4 : 0 ≤ x * u := nonneg_left ha (by rw [h2]; exact Int.mul_nonneg h3 (by omega))
      omega
    · have := Int.mul_pos ha hb
      simp at h
      omega
  · rcases hb with hb | ⟨rfl, hb⟩
    · have := Int.mul_pos ha hb
      simp at h
      omega
    · have := Int.mul_pos ha hb
      simp
      omega
theorem ok_up {a b : Pt} (ha : upB a = true) (hb : upB b = true) : okB a b = true ↔ 0 ≤ crs a b := by
  rw [okB_iff]
  constructor
  · omega
  · intro h
    by_cases e : crs a b = 0
    · exact .inr ⟨e, dot_up ha hb e⟩
    · omega
theorem trans_up {a b c : Pt} (ha : upB a = true) (hb : upB b = true) (hc : upB c = true) (h1 : 0 ≤ crs a b) (h2 : 0 ≤ crs b c) : 0 ≤ crs a c := by
  obtain ⟨x, y⟩ := a
  obtain ⟨u, v⟩ := b
  obtain ⟨p, q⟩ := c
  simp only [crs, upB, Bool.or_eq_true, Bool.and_eq_true, decide_eq_true_eq] at *
  have e : v * (x * q - y * p) = q * (x * v - y * u) + y * (u * q - v * p) := by grind
  rcases hb with hb | ⟨rfl, hb⟩
  · refine nonneg_left hb ?_
    rw [e]
    have k1 := Int.mul_nonneg (a := q) (b := x * v - y * u) (by omega) h1
    have k2 := Int.mul_nonneg (a := y) (b := u * q - v * p) (by omega) h2
    omega
  · simp at h1 h2
    have hy : y = 0 := by
      have : y * u ≤ 0 := by omega
      rcases Int.lt_or_le 0 y with hy | hy
      · have := Int.mul_pos hy hb; omega
      · omega
    subst hy
    have : 0 ≤ x * q := Int.mul_nonneg (by omega) (by omega)
    simp
    omega

theorem crs_tot (a : Pt) : ∀ l : List Pt, (∀ b ∈ l, 0 ≤ crs a b) → 0 ≤ crs a (tot l)
  | [], _ => by simp [tot, crs]
  | s :: t, h => by
    have h1 := crs_tot a t (fun b hb => h b (by simp [hb]))
    have h2 := h s (by simp)
    have e : crs a (tot (s :: t)) = crs a s + crs a (tot t) := by simp only [tot, crs, addP]; grind
    omega
theorem tot_crs (a : Pt) : ∀ l : List Pt, (∀ b ∈ l, 0 ≤ crs b a) → 0 ≤ crs (tot l) a
  | [], _ => by simp [tot, crs]
  | s :: t, h => by
    have h1 := tot_crs a t (fun b hb => h b (by simp [hb]))
    have h2 := h s (by simp)
    have e : crs (tot (s :: t)) a = crs s a + crs (tot t) a := by simp only [tot, crs, addP]; grind
    omega
/-- Directions in order within a half. -/
def SortP (l : List Pt) : Prop := l.Pairwise fun a b => 0 ≤ crs a b
theorem arP_sorted : ∀ l : List Pt, SortP l → 0 ≤ arP (0, 0) l
  | [], _ => by simp [arP]
  | s :: t, h => by
    have h' := List.pairwise_cons.1 h
    have h1 := arP_sorted t h'.2
    have h2 := crs_tot s t h'.1
    have e : arP (0, 0) (s :: t) = crs (0, 0) s + arP (addP (0, 0) s) t := rfl
    rw [e, arP_shift s t (0, 0)]
    simp only [crs] at h2 ⊢
    omega
theorem arP_cons (s : Pt) (t : List Pt) : arP (0, 0) (s :: t) = arP (0, 0) t + crs s (tot t) := by
  have e : arP (0, 0) (s :: t) = crs (0, 0) s + arP (addP (0, 0) s) t := rfl
  rw [e, arP_shift s t (0, 0)]
  simp [crs]
theorem arP_two (a b : List Pt) : arP (0, 0) (a ++ b) = arP (0, 0) a + arP (0, 0) b + crs (tot a) (tot b) := by
  rw [arP_append, arP_shift (tot a) b (0, 0)]; omega
theorem arP_last (t : List Pt) (s : Pt) : arP (0, 0) (t ++ [s]) = arP (0, 0) t + crs (tot t) s := by
  rw [arP_two]
  simp [arP, tot, crs, addP]
theorem neg_tot {a b : List Pt} (h : tot (a ++ b) = (0, 0)) : tot b = (-(tot a).1, -(tot a).2) := by
  rw [tot_append] at h
  simp only [addP, Prod.mk.injEq] at h
  exact Prod.ext (by show (tot b).1 = -(tot a).1; omega) (by show (tot b).2 = -(tot a).2; omega)
theorem tot_up : ∀ l : List Pt, l ≠ [] → (∀ s ∈ l, upB s = true) → upB (tot l) = true
  | [], h, _ => absurd rfl h
  | [s], _, hu => by
    have := hu s (by simp)
    simpa [tot, addP] using this
  | s :: r :: t, _, hu => by
    have h1 := tot_up (r :: t) (by simp) (fun x hx => hu x (by simp [hx]))
    have h2 := hu s (by simp)
    exact up_add h2 h1
theorem flat_trans {a b t : Pt} (ht : t ≠ (0, 0)) (h1 : crs a t = 0) (h2 : crs t b = 0) : crs a b = 0 := by
  obtain ⟨x, y⟩ := a
  obtain ⟨u, v⟩ := b
  obtain ⟨p, q⟩ := t
  simp only [crs, ne_eq, Prod.mk.injEq, not_and] at *
  have e1 : p * (x * v - y * u) = 0 := by grind
  have e2 : q * (x * v - y * u) = 0 := by grind
  rcases Int.mul_eq_zero.1 e1 with h | h
  · rcases Int.mul_eq_zero.1 e2 with h' | h'
    · exact absurd h' (ht h)
    · exact h'
  · exact h
/-- Two halves in order: the area is positive, or the turn between them is none to the left. -/
theorem area_halves {U L : List Pt} {u l : Pt} (hc : tot ((U ++ [u]) ++ (l :: L)) = (0, 0)) (hU : SortP (U ++ [u])) (hL : SortP (l :: L)) (up : ∀ s ∈ U ++ [u], upB s = true) (lo : upB l = false) (hl : l ≠ (0, 0)) (ok : okB u l = true) :
    0 < arP (0, 0) ((U ++ [u]) ++ (l :: L)) := by
  have hn := neg_tot hc
  have h1 := arP_sorted _ hU
  have h2 := arP_sorted _ hL
  have e : crs (tot (U ++ [u])) (tot (l :: L)) = 0 := by rw [hn]; simp only [crs]; grind
  rw [arP_two, e]
  rcases Int.lt_or_le 0 (arP (0, 0) (U ++ [u]) + arP (0, 0) (l :: L)) with h | h
  · omega
  · exfalso
    have z1 : arP (0, 0) (U ++ [u]) = 0 := by omega
    have z2 : arP (0, 0) (l :: L) = 0 := by omega
    have p1 := List.pairwise_append.1 hU
    have p2 := List.pairwise_cons.1 hL
    have a1 := arP_sorted U p1.1
    have a2 := tot_crs u U (fun b hb => p1.2.2 b hb u (by simp))
    rw [arP_last] at z1
    have a3 := arP_sorted L p2.2
    have a4 := crs_tot l L p2.1
    rw [arP_cons] at z2
    have c1 : crs (tot U) u = 0 := by omega
    have c2 : crs l (tot L) = 0 := by omega
    have T := tot_up (U ++ [u]) (by simp) up
    have t0 : tot (U ++ [u]) ≠ (0, 0) := by intro e; rw [e] at T; simp [upB] at T
    have d1 : crs u (tot (U ++ [u])) = 0 := by
      rw [tot_append]
      simp only [tot, crs, addP] at c1 ⊢
      grind
    have d2 : crs l (tot (l :: L)) = 0 := by
      simp only [tot, crs, addP] at c2 ⊢
      grind
    have d3 : crs (tot (U ++ [u])) l = 0 := by
      rw [hn] at d2
      simp only [crs] at d2 ⊢
      grind
    have d4 := flat_trans t0 d1 d3
    rw [okB_iff] at ok
    have hd : 0 < dotP u l := by omega
    have hm := dot_up (up u (by simp)) (up_not hl lo) (by simp only [crs] at d4 ⊢; grind)
    simp only [dotP] at hd hm
    have : u.1 * -l.1 + u.2 * -l.2 = -(u.1 * l.1 + u.2 * l.2) := by grind
    omega

theorem numN_zero {f : Nat → Bool} : ∀ {n : Nat}, numN f n = 0 → ∀ j, j < n → f j = false
  | 0, _, _, h => absurd h (by omega)
  | n + 1, h0, j, h => by
    simp only [numN] at h0
    have h1 : numN f n = 0 := by omega
    by_cases e : j = n
    · subst e
      cases hf : f j with
      | false => rfl
      | true => rw [hf] at h0; simp at h0
    · exact numN_zero h1 j (by omega)
theorem numN_one {f : Nat → Bool} : ∀ {n : Nat}, numN f n ≠ 0 → ∃ j, j < n ∧ f j = true
  | 0, h => absurd rfl h
  | n + 1, h => by
    cases hf : f n with
    | true => exact ⟨n, by omega, hf⟩
    | false =>
      have h1 : numN f n ≠ 0 := by simpa [numN, hf] using h
      obtain ⟨j, h2, h3⟩ := numN_one h1
      exact ⟨j, by omega, h3⟩
theorem split_up : ∀ l : List Pt, (∀ j, j + 1 < l.length → upB (atP l (j + 1)) = true → upB (atP l j) = true) → ∃ A B, l = A ++ B ∧ (∀ s ∈ A, upB s = true) ∧ ∀ s ∈ B, upB s = false
  | [], _ => ⟨[], [], rfl, by simp, by simp⟩
  | s :: t, h => by
    obtain ⟨A, B, e, hA, hB⟩ := split_up t (fun j hj hu => by
      have := h (j + 1) (by simp; omega)
      simpa [atP] using this (by simpa [atP] using hu))
    cases hs : upB s with
    | true => exact ⟨s :: A, B, by simp [e], by simpa [hs] using hA, hB⟩
    | false =>
      have : A = [] := by
        cases A with
        | nil => rfl
        | cons a A =>
          have h1 := h 0 (by simp [e])
          have h2 : upB a = true := hA a (by simp)
          have h3 := h1 (by simp [atP, e, h2])
          simp [atP, hs] at h3
      subst this
      exact ⟨[], s :: B, by simpa using e, by simp, by simpa [hs] using hB⟩
theorem sort_up : ∀ l : List Pt, (∀ s ∈ l, upB s = true) → (∀ j, j + 1 < l.length → 0 ≤ crs (atP l j) (atP l (j + 1))) → SortP l
  | [], _, _ => List.Pairwise.nil
  | [s], _, _ => by simp [SortP]
  | s :: r :: t, hu, h => by
    have h1 := sort_up (r :: t) (fun x hx => hu x (by simp [hx])) (fun j hj => by
      have := h (j + 1) (by simp at hj ⊢; omega)
      simpa [atP] using this)
    have h0 : 0 ≤ crs s r := by simpa [atP] using h 0 (by simp)
    refine List.pairwise_cons.2 ⟨fun b hb => ?_, h1⟩
    rcases List.mem_cons.1 hb with rfl | hb
    · exact h0
    · exact trans_up (hu s (by simp)) (hu r (by simp)) (hu b (by simp [hb])) h0 ((List.pairwise_cons.1 h1).1 b hb)
def negP (a : Pt) : Pt := (-a.1, -a.2)
theorem crs_neg (a b : Pt) : crs (negP a) (negP b) = crs a b := by simp only [crs, negP]; grind
theorem sort_dn {l : List Pt} (h0 : ∀ s ∈ l, s ≠ (0, 0)) (hu : ∀ s ∈ l, upB s = false) (h : ∀ j, j + 1 < l.length → 0 ≤ crs (atP l j) (atP l (j + 1))) : SortP l := by
  have h1 := sort_up (l.map negP) (fun s hs => by
    obtain ⟨a, ha, rfl⟩ := List.mem_map.1 hs
    exact up_not (h0 a ha) (hu a ha)) (fun j hj => by
    rw [List.length_map] at hj
    have e : ∀ i, i < l.length → atP (l.map negP) i = negP (atP l i) := fun i hi => by simp [atP, List.getD_eq_getElem?_getD, hi]
    rw [e j (by omega), e (j + 1) hj, crs_neg]
    exact h j hj)
  unfold SortP at h1 ⊢
  rw [List.pairwise_map] at h1
  exact h1.imp (fun {a b} h => by rwa [crs_neg] at h)
theorem ok_crs {a b : Pt} (h : okB a b = true) : 0 ≤ crs a b := by rw [okB_iff] at h; omega
/-- A convex path from its lowest step on: half a turn, and half a turn. -/
structure Halves (l U L : List Pt) (u v : Pt) : Prop where
  eq : l = (U ++ [u]) ++ (v :: L)
  upU : ∀ s ∈ U ++ [u], upB s = true
  dnL : ∀ s ∈ v :: L, upB s = false
  sU : SortP (U ++ [u])
  sL : SortP (v :: L)
  ok : okB u v = true
theorem halves {l : List Pt} (hn0 : ∀ s ∈ l, s ≠ (0, 0)) (h : convB l = true) : ∃ k U L u v, k ≤ l.length ∧ Halves (rotL l k) U L u v := by
  simp only [convB, Bool.and_eq_true, decide_eq_true_eq] at h
  obtain ⟨ht, hw⟩ := h
  obtain ⟨i, hi, hwi⟩ := numN_one (f := fun i => wrapB (atP l i) (nxt l i)) (n := l.length) (by show wrapsN l ≠ 0; omega)
  have hr := turns_rot (k := i + 1) (by omega) ht
  have hv := wraps_rot (l := l) (i + 1) (by omega)
  have hlast : wrapB (atP (rotL l (i + 1)) (l.length - 1)) (nxt (rotL l (i + 1)) (l.length - 1)) = true := by
    rw [rot_at (by omega) (by omega), rot_nxt (by omega) (by omega), show i + 1 + (l.length - 1) = i + l.length by omega, Nat.add_mod_right, Nat.mod_eq_of_lt hi]
    exact hwi
  have hn0' : ∀ s ∈ rotL l (i + 1), s ≠ (0, 0) := fun s hs => hn0 s (by
    unfold rotL at hs
    rcases List.mem_append.1 hs with h | h
    · exact List.mem_of_mem_drop h
    · exact List.mem_of_mem_take h)
  refine ⟨i + 1, ?_⟩
  have hlen : (rotL l (i + 1)).length = l.length := rot_len l
  generalize rotL l (i + 1) = r at *
  rw [← hlen] at hi hlast
  have hL0 : 0 < r.length := by omega
  have hnx : ∀ j, j + 1 < r.length → nxt r j = atP r (j + 1) := fun j hj => by unfold nxt; rw [Nat.mod_eq_of_lt hj]
  have hz : ∀ j, j < r.length - 1 → wrapB (atP r j) (nxt r j) = false := by
    have e : wrapsN r = numN (fun i => wrapB (atP r i) (nxt r i)) (r.length - 1) + 1 := by
      unfold wrapsN
      conv => lhs; rw [show r.length = (r.length - 1) + 1 by omega]
      simp only [numN]
      rw [if_pos hlast]
    exact numN_zero (by omega)
  obtain ⟨A, B, e, hA, hB⟩ := split_up r (fun j hj hu => by
    have h1 := hz j (by omega)
    rw [hnx j hj] at h1
    simp only [wrapB, hu, Bool.and_true, Bool.not_eq_false'] at h1
    exact h1)
  have hfirst : upB (atP r 0) = true ∧ upB (atP r (r.length - 1)) = false := by
    unfold nxt at hlast
    rw [show r.length - 1 + 1 = r.length by omega, Nat.mod_self] at hlast
    simp only [wrapB, Bool.and_eq_true, Bool.not_eq_true'] at hlast
    exact ⟨hlast.2, hlast.1⟩
  have hokA : ∀ j, j + 1 < r.length → okB (atP r j) (atP r (j + 1)) = true := fun j hj => by
    have := turnsB_iff.1 hr j (by omega)
    rwa [hnx j hj] at this
  have hAn : A ≠ [] := by
    rintro rfl
    have : upB (atP r 0) = false := by
      rw [atP_lt hL0]
      exact hB _ (by simp only [List.nil_append] at e; subst e; exact List.getElem_mem _)
    rw [this] at hfirst
    exact absurd hfirst.1 (by simp)
  have hBn : B ≠ [] := by
    rintro rfl
    have : upB (atP r (r.length - 1)) = true := by
      rw [atP_lt (by omega)]
      exact hA _ (by simp only [List.append_nil] at e; subst e; exact List.getElem_mem _)
    rw [this] at hfirst
    exact absurd hfirst.2 (by simp)
  obtain ⟨U, u, rfl⟩ : ∃ U u, A = U ++ [u] := ⟨A.dropLast, A.getLast hAn, (List.dropLast_concat_getLast hAn).symm⟩
  obtain ⟨v, L, rfl⟩ : ∃ v L, B = v :: L := by cases B with | nil => exact absurd rfl hBn | cons v L => exact ⟨v, L, rfl⟩
  have eU : ∀ j, j < (U ++ [u]).length → atP r j = atP (U ++ [u]) j := fun j hj => by rw [e]; simp only [atP, List.getD_eq_getElem?_getD]; rw [List.getElem?_append_left hj]
  have eL : ∀ j, atP r ((U ++ [u]).length + j) = atP (v :: L) j := fun j => by rw [e]; simp only [atP, List.getD_eq_getElem?_getD]; rw [List.getElem?_append_right (by omega), show (U ++ [u]).length + j - (U ++ [u]).length = j by omega]
  have hlen2 : r.length = (U ++ [u]).length + (v :: L).length := by rw [e, List.length_append]
  refine ⟨U, L, u, v, by omega, e, hA, hB, sort_up _ hA (fun j hj => ?_), sort_dn (fun s hs => hn0' s (by rw [e]; exact List.mem_append_right _ hs)) hB (fun j hj => ?_), ?_⟩
  · rw [← eU j (by omega), ← eU (j + 1) hj]
    exact ok_crs (hokA j (by omega))
  · rw [← eL j, ← eL (j + 1)]
    exact ok_crs (hokA _ (by omega))
  · have h1 := hokA U.length (by rw [hlen2]; simp)
    have h2 := eU U.length (by simp)
    have h3 := eL 0
    simp only [List.length_append, List.length_cons, List.length_nil, Nat.zero_add, Nat.add_zero] at h3
    rw [h2, h3] at h1
    simpa [atP] using h1
theorem areaP_pos {l : List Pt} (hn0 : ∀ s ∈ l, s ≠ (0, 0)) (hc : tot l = (0, 0)) (h : convB l = true) : 0 < areaP l := by
  obtain ⟨k, U, L, u, v, hk, H⟩ := halves hn0 h
  have hr := tot_rot l k hc
  rw [areaP_ar hc, ← area_rot hc k hk, H.eq]
  rw [H.eq] at hr
  have hv : v ∈ l := by
    have : v ∈ rotL l k := by rw [H.eq]; simp
    unfold rotL at this
    rcases List.mem_append.1 this with h | h
    · exact List.mem_of_mem_drop h
    · exact List.mem_of_mem_take h
  exact area_halves hr H.sU H.sL H.upU (H.dnL v (by simp)) (hn0 v hv) H.ok
theorem IsPath.nz {l : List Pt} (h : IsPath l) : ∀ s ∈ l, s ≠ (0, 0) := fun s hs => (h.steps s hs).2.2
theorem IsPath.area_pos {l : List Pt} (h : IsPath l) (hc : convB l = true) : 0 < areaP l := areaP_pos h.nz h.closed hc

/-! Points inside. -/
/-- To the left of all steps. -/
def lftB (l : List Pt) (q : Pt) : Bool := (List.range l.length).all fun i => decide (0 < crs (atP l i) (subP q (cor l i)))
theorem lftB_iff {l : List Pt} {q : Pt} : lftB l q = true ↔ ∀ i, i < l.length → 0 < crs (atP l i) (subP q (cor l i)) := by simp [lftB, List.all_eq_true]
/-- What is inside lies on no side of all corners. -/
theorem ins_side {l : List Pt} {q : Pt} (hc : tot l = (0, 0)) (h0 : 0 < l.length) (h : lftB l q = true) (α β : Int) : ∃ i, i < l.length ∧ α * (q.1 - (cor l i).1) + β * (q.2 - (cor l i).2) ≤ 0 := by
  rw [lftB_iff] at h
  refine Classical.byContradiction fun hn => ?_
  have hp : ∀ i, i ≤ l.length → 0 < α * (q.1 - (cor l i).1) + β * (q.2 - (cor l i).2) := fun i hi => by
    rcases Nat.lt_or_eq_of_le hi with hi | rfl
    · rcases Int.lt_or_le 0 (α * (q.1 - (cor l i).1) + β * (q.2 - (cor l i).2)) with h | h
      · exact h
      · exact absurd ⟨i, hi, h⟩ hn
    · rw [cor_len, hc, ← cor_zero l]
      rcases Int.lt_or_le 0 (α * (q.1 - (cor l 0).1) + β * (q.2 - (cor l 0).2)) with h | h
      · exact h
      · exact absurd ⟨0, h0, h⟩ hn
  have key : ∀ i, i < l.length → 0 < crs (subP q (cor l 0)) (subP q (cor l (i + 1))) := by
    intro i
    induction i with
    | zero =>
      intro hi
      have h1 := h 0 hi
      rw [cor_succ hi]
      simp only [crs, subP, addP] at h1 ⊢
      grind
    | succ i ih =>
      intro hi
      have h1 := ih (by omega)
      have h2 := h (i + 1) hi
      have h3 : 0 < crs (subP q (cor l (i + 1))) (subP q (cor l (i + 1 + 1))) := by
        rw [cor_succ hi]
        simp only [crs, subP, addP] at h2 ⊢
        grind
      have p0 := hp 0 (by omega)
      have p1 := hp (i + 1) (by omega)
      have p2 := hp (i + 1 + 1) (by omega)
      refine pos_left p1 ?_
      have m1 := Int.mul_pos p2 h1
      have m2 := Int.mul_pos p0 h3
      have e : (α * (q.1 - (cor l (i + 1)).1) + β * (q.2 - (cor l (i + 1)).2)) * crs (subP q (cor l 0)) (subP q (cor l (i + 1 + 1))) =
          (α * (q.1 - (cor l (i + 1 + 1)).1) + β * (q.2 - (cor l (i + 1 + 1)).2)) * crs (subP q (cor l 0)) (subP q (cor l (i + 1))) +
          (α * (q.1 - (cor l 0).1) + β * (q.2 - (cor l 0).2)) * crs (subP q (cor l (i + 1))) (subP q (cor l (i + 1 + 1))) := by
        generalize cor l 0 = a
        generalize cor l (i + 1) = b
        generalize cor l (i + 1 + 1) = c
        simp only [crs, subP]
        grind
      omega
  have := key (l.length - 1) (by omega)
  rw [show l.length - 1 + 1 = l.length by omega, cor_len, hc, cor_zero] at this
  simp only [crs, subP] at this
  grind
end Go.Proofs.Ytiadnbdefcimiaa

/- Pure facts of chapter 6. -/
namespace Go.Proofs.Ytiadnbdefcimiaa
/-! The rim, and its parity. -/
def gcdP (s : Pt) : Int := (Nat.gcd s.1.natAbs s.2.natAbs : Nat)
def rimP (l : List Pt) : Int := sumF (fun i => gcdP (atP l i)) l.length
theorem gcdP_bd {s : Pt} (h : stepP s) : 1 ≤ gcdP s ∧ gcdP s ≤ 9 := by
  obtain ⟨x, y⟩ := s
  simp only [stepP, ne_eq, Prod.mk.injEq, not_and] at h
  show 1 ≤ ((Nat.gcd x.natAbs y.natAbs : Nat) : Int) ∧ ((Nat.gcd x.natAbs y.natAbs : Nat) : Int) ≤ 9
  have h1 : 0 < Nat.gcd x.natAbs y.natAbs := by
    rcases Nat.eq_zero_or_pos (Nat.gcd x.natAbs y.natAbs) with e | e
    · have := Nat.gcd_eq_zero_iff.1 e
      omega
    · exact e
  by_cases hx : x = 0
  · have h2 : Nat.gcd x.natAbs y.natAbs ≤ y.natAbs := Nat.gcd_le_right _ (by omega)
    omega
  · have h2 : Nat.gcd x.natAbs y.natAbs ≤ x.natAbs := Nat.gcd_le_left _ (by omega)
    omega
def parQ (s : Pt) : Int := s.1 + s.2 + s.1 * s.2
theorem gcd_par {s : Pt} (h : stepP s) : (gcdP s - parQ s) % 2 = 0 := by
  have key : ∀ a b : Fin 19, (((Nat.gcd ((a.1 : Int) - 9).natAbs ((b.1 : Int) - 9).natAbs : Nat) : Int) - (((a.1 : Int) - 9) + ((b.1 : Int) - 9) + ((a.1 : Int) - 9) * ((b.1 : Int) - 9))) % 2 = 0 := by decide +kernel
  obtain ⟨x, y⟩ := s
  unfold stepP at h
  have h1 := key ⟨(x + 9).toNat, by omega⟩ ⟨(y + 9).toNat, by omega⟩
  have ex : (((x + 9).toNat : Nat) : Int) - 9 = x := by omega
  have ey : (((y + 9).toNat : Nat) : Int) - 9 = y := by omega
  simp only [ex, ey] at h1
  exact h1
def sumQ : List Pt → Int
  | [] => 0
  | s :: t => parQ s + sumQ t
theorem area_par : ∀ l : List Pt, (arP (0, 0) l - sumQ l + parQ (tot l)) % 2 = 0
  | [] => by simp [arP, sumQ, parQ, tot]
  | s :: t => by
    have h := area_par t
    rw [arP_cons]
    have e : arP (0, 0) t + crs s (tot t) - sumQ (s :: t) + parQ (tot (s :: t)) = (arP (0, 0) t - sumQ t + parQ (tot t)) + 2 * (s.1 * (tot t).2) := by
      simp only [sumQ, parQ, tot, addP, crs]; grind
    rw [e]
    omega
theorem sumF_list (f : Pt → Int) : ∀ l : List Pt, sumF (fun i => f (atP l i)) l.length = (l.map f).sum := by
  intro l
  have key : ∀ k, k ≤ l.length → sumF (fun i => f (atP l i)) k = ((l.take k).map f).sum := by
    intro k
    induction k with
    | zero => intro _; simp [sumF]
    | succ k ih =>
      intro hk
      rw [sumF, ih (by omega), List.take_succ_eq_append_getElem (by omega), List.map_append, List.sum_append, atP_lt (by omega)]
      simp
  have := key l.length (Nat.le_refl _)
  rwa [List.take_length] at this
theorem rimP_sum (l : List Pt) : rimP l = (l.map gcdP).sum := sumF_list gcdP l
theorem sumQ_par : ∀ l : List Pt, (∀ s ∈ l, stepP s) → ((l.map gcdP).sum - sumQ l) % 2 = 0
  | [], _ => by simp [sumQ]
  | s :: t, h => by
    have h1 := sumQ_par t (fun x hx => h x (by simp [hx]))
    have h2 := gcd_par (h s (by simp))
    simp only [List.map_cons, List.sum_cons, sumQ]
    omega
theorem IsPath.even {l : List Pt} (h : IsPath l) : (areaP l - rimP l) % 2 = 0 := by
  have h1 := area_par l
  have h2 := sumQ_par l h.steps
  rw [h.closed] at h1
  rw [areaP_ar h.closed, rimP_sum]
  simp only [parQ] at h1
  omega
theorem IsPath.rim_bd {l : List Pt} (h : IsPath l) {k : Nat} (hk : k ≤ l.length) : 0 ≤ sumF (fun i => gcdP (atP l i)) k ∧ sumF (fun i => gcdP (atP l i)) k ≤ 72 := by
  have h8 := h.hi
  have key : ∀ k, k ≤ l.length → (k : Int) ≤ sumF (fun i => gcdP (atP l i)) k ∧ sumF (fun i => gcdP (atP l i)) k ≤ 9 * k := by
    intro k
    induction k with
    | zero => intro _; simp [sumF]
    | succ k ih =>
      intro hk
      have h1 := ih (by omega)
      have h2 := gcdP_bd (h.at_ (i := k) (by omega))
      simp only [sumF]
      omega
  have := key k hk
  omega
theorem IsPath.rim_len {l : List Pt} (h : IsPath l) : (l.length : Int) ≤ rimP l := by
  have key : ∀ k, k ≤ l.length → (k : Int) ≤ sumF (fun i => gcdP (atP l i)) k := by
    intro k
    induction k with
    | zero => intro _; simp [sumF]
    | succ k ih =>
      intro hk
      have h1 := ih (by omega)
      have h2 := gcdP_bd (h.at_ (i := k) (by omega))
      simp only [sumF]
      omega
  exact key _ (Nat.le_refl _)
/-- Points inside, by area and rim. -/
def inPt (l : List Pt) : Int := (areaP l - rimP l) / 2 + 1
theorem tdiv_even {d : Int} (h : d % 2 = 0) : Int.tdiv d 2 = d / 2 := by
  obtain ⟨e, rfl⟩ : ∃ e, d = 2 * e := ⟨d / 2, by omega⟩
  rw [Int.mul_tdiv_cancel_left _ (by omega)]
  omega
theorem inPt_impl {l : List Pt} (h : IsPath l) : Int.tdiv (areaP l - rimP l) 2 + 1 = inPt l := by
  rw [tdiv_even h.even]; rfl
theorem inPt_spec {l : List Pt} (h : IsPath l) : Int.tdiv (areaP l - rimP l + 2) 2 = inPt l := by
  have := h.even
  rw [tdiv_even (by omega)]
  unfold inPt
  omega

/-! Boxes. -/
def loN (f : Nat → Int) : Nat → Int
  | 0 => 0
  | k + 1 => min (loN f k) (f k)
def hiN (f : Nat → Int) : Nat → Int
  | 0 => 0
  | k + 1 => max (hiN f k) (f k)
theorem loN_le {f : Nat → Int} : ∀ {k i : Nat}, i < k → loN f k ≤ f i
  | k + 1, i, h => by
    simp only [loN]
    by_cases e : i = k
    · subst e; omega
    · have := loN_le (f := f) (k := k) (i := i) (by omega); omega
theorem le_hiN {f : Nat → Int} : ∀ {k i : Nat}, i < k → f i ≤ hiN f k
  | k + 1, i, h => by
    simp only [hiN]
    by_cases e : i = k
    · subst e; omega
    · have := le_hiN (f := f) (k := k) (i := i) (by omega); omega
theorem loN_bd {f : Nat → Int} {b : Int} (hb : 0 ≤ b) : ∀ {k : Nat}, (∀ i, i < k → -b ≤ f i ∧ f i ≤ b) → -b ≤ loN f k ∧ loN f k ≤ 0
  | 0, _ => by simp [loN]; omega
  | k + 1, h => by
    have h1 := loN_bd (k := k) hb (fun i hi => h i (by omega))
    have h2 := h k (by omega)
    simp only [loN]
    omega
theorem hiN_bd {f : Nat → Int} {b : Int} (hb : 0 ≤ b) : ∀ {k : Nat}, (∀ i, i < k → -b ≤ f i ∧ f i ≤ b) → 0 ≤ hiN f k ∧ hiN f k ≤ b
  | 0, _ => by simp [hiN]; omega
  | k + 1, h => by
    have h1 := hiN_bd (k := k) hb (fun i hi => h i (by omega))
    have h2 := h k (by omega)
    simp only [hiN]
    omega
abbrev cxN (l : List Pt) (i : Nat) : Int := (cor l i).1
abbrev cyN (l : List Pt) (i : Nat) : Int := (cor l i).2
/-- The number of points inside, of a grid. -/
def gridN (f : Int → Int → Bool) (x0 y0 : Int) (m : Nat) : Nat → Nat
  | 0 => 0
  | i + 1 => gridN f x0 y0 m i + numN (fun j => f (x0 + i) (y0 + j)) m
theorem numN_none {f : Nat → Bool} : ∀ {n : Nat}, (∀ i, i < n → f i = false) → numN f n = 0
  | 0, _ => rfl
  | n + 1, h => by rw [numN, numN_none (fun i hi => h i (by omega)), h n (by omega)]; rfl
theorem numN_add (f : Nat → Bool) (a : Nat) : ∀ b, numN f (a + b) = numN f a + numN (fun i => f (a + i)) b
  | 0 => rfl
  | b + 1 => by rw [← Nat.add_assoc, numN, numN, numN_add f a b, Nat.add_assoc]
theorem numN_mid {f : Nat → Bool} {n a m : Nat} (h : a + m ≤ n) (h1 : ∀ i, i < n → f i = true → a ≤ i ∧ i < a + m) : numN f n = numN (fun i => f (a + i)) m := by
  obtain ⟨r, rfl⟩ : ∃ r, n = a + (m + r) := ⟨n - a - m, by omega⟩
  rw [numN_add, numN_none (n := a) (fun i hi => by
    cases e : f i with
    | false => rfl
    | true => have := h1 i (by omega) e; omega), numN_add (fun i => f (a + i)) m r, numN_none (n := r) (fun i hi => by
    cases e : f (a + (m + i)) with
    | false => rfl
    | true => have := h1 (a + (m + i)) (by omega) e; omega)]
  omega
theorem gridN_zero {f : Int → Int → Bool} {x0 y0 : Int} {m : Nat} : ∀ {n : Nat}, (∀ i, i < n → ∀ j, j < m → f (x0 + (i : Nat)) (y0 + (j : Nat)) = false) → gridN f x0 y0 m n = 0
  | 0, _ => rfl
  | n + 1, h => by
    rw [gridN, gridN_zero (fun i hi => h i (by omega)), numN_none (fun j hj => h n (by omega) j hj)]
theorem gridN_add (f : Int → Int → Bool) (x0 y0 : Int) (m a : Nat) : ∀ b, gridN f x0 y0 m (a + b) = gridN f x0 y0 m a + gridN f (x0 + a) y0 m b
  | 0 => rfl
  | b + 1 => by
    rw [← Nat.add_assoc, gridN, gridN, gridN_add f x0 y0 m a b, Nat.add_assoc]
    congr 2
    refine numN_congr fun j _ => ?_
    rw [Int.natCast_add, Int.add_assoc]
theorem gridN_cut {f : Int → Int → Bool} {x0 y0 : Int} {M a m : Nat} (h : a + m ≤ M) : ∀ {n : Nat}, (∀ i, i < n → ∀ j, j < M → f (x0 + (i : Nat)) (y0 + (j : Nat)) = true → a ≤ j ∧ j < a + m) → gridN f x0 y0 M n = gridN f x0 (y0 + a) m n
  | 0, _ => rfl
  | n + 1, h1 => by
    rw [gridN, gridN, gridN_cut h (fun i hi => h1 i (by omega)), numN_mid h (h1 n (by omega))]
    congr 1
    refine numN_congr fun j _ => ?_
    rw [Int.natCast_add, Int.add_assoc]
/-- What lies in a box is counted within it. -/
theorem gridN_box {f : Int → Int → Bool} {x0 y0 x1 y1 : Int} {N M n m : Nat} (hx0 : x0 ≤ x1) (hx : x1 + n ≤ x0 + N) (hy0 : y0 ≤ y1) (hy : y1 + m ≤ y0 + M) (hf : ∀ x y, f x y = true → (x1 ≤ x ∧ x < x1 + n) ∧ (y1 ≤ y ∧ y < y1 + m)) :
    gridN f x0 y0 M N = gridN f x1 y1 m n := by
  obtain ⟨a, ha⟩ : ∃ a : Nat, x1 = x0 + a := ⟨(x1 - x0).toNat, by omega⟩
  obtain ⟨b, hb⟩ : ∃ b : Nat, y1 = y0 + b := ⟨(y1 - y0).toNat, by omega⟩
  obtain ⟨r, rfl⟩ : ∃ r, N = a + (n + r) := ⟨N - a - n, by omega⟩
  rw [gridN_cut (a := b) (m := m) (by omega) (fun i _ j _ h => by have := hf _ _ h; omega), ← hb, gridN_add, gridN_zero (n := a) (fun i hi j _ => by
    cases e : f (x0 + (i : Nat)) (y1 + (j : Nat)) with
    | false => rfl
    | true => have := hf _ _ e; omega), ← ha, gridN_add, gridN_zero (n := r) (fun i hi j _ => by
    cases e : f (x1 + (n : Nat) + (i : Nat)) (y1 + (j : Nat)) with
    | false => rfl
    | true => have := hf _ _ e; omega)]
  omega
def insF (l : List Pt) (x y : Int) : Bool := lftB l (x, y)
/-- The number of points inside. -/
def allPt (l : List Pt) : Nat := gridN (insF l) (-72) (-72) 145 145
theorem ins_box {l : List Pt} (h : IsPath l) (x y : Int) (hi : insF l x y = true) : (loN (cxN l) l.length ≤ x ∧ x ≤ hiN (cxN l) l.length) ∧ (loN (cyN l) l.length ≤ y ∧ y ≤ hiN (cyN l) l.length) := by
  have h0 : 0 < l.length := by have := h.lo; omega
  obtain ⟨i1, b1, c1⟩ := ins_side h.closed h0 hi 1 0
  obtain ⟨i2, b2, c2⟩ := ins_side h.closed h0 hi (-1) 0
  obtain ⟨i3, b3, c3⟩ := ins_side h.closed h0 hi 0 1
  obtain ⟨i4, b4, c4⟩ := ins_side h.closed h0 hi 0 (-1)
  have d1 := le_hiN (f := cxN l) b1
  have d2 := loN_le (f := cxN l) b2
  have d3 := le_hiN (f := cyN l) b3
  have d4 := loN_le (f := cyN l) b4
  simp only [cxN, cyN] at *
  omega
theorem IsPath.box_bd {l : List Pt} (h : IsPath l) {k : Nat} (hk : k ≤ l.length) : ((-72 ≤ loN (cxN l) k ∧ loN (cxN l) k ≤ 0) ∧ (0 ≤ hiN (cxN l) k ∧ hiN (cxN l) k ≤ 72)) ∧ ((-72 ≤ loN (cyN l) k ∧ loN (cyN l) k ≤ 0) ∧ (0 ≤ hiN (cyN l) k ∧ hiN (cyN l) k ≤ 72)) := by
  have hx : ∀ i, i < k → -72 ≤ cxN l i ∧ cxN l i ≤ 72 := fun i hi => (h.bd72 (k := i) (by omega)).1
  have hy : ∀ i, i < k → -72 ≤ cyN l i ∧ cyN l i ≤ 72 := fun i hi => (h.bd72 (k := i) (by omega)).2
  exact ⟨⟨loN_bd (by omega) hx, hiN_bd (by omega) hx⟩, loN_bd (by omega) hy, hiN_bd (by omega) hy⟩
/-- The box has all of them. -/
theorem allP_box {l : List Pt} (h : IsPath l) : gridN (insF l) (loN (cxN l) l.length) (loN (cyN l) l.length) (hiN (cyN l) l.length + 1 - loN (cyN l) l.length).toNat (hiN (cxN l) l.length + 1 - loN (cxN l) l.length).toNat = allPt l := by
  have hb := h.box_bd (Nat.le_refl _)
  refine (gridN_box (by omega) (by omega) (by omega) (by omega) (fun x y hf => ?_)).symm
  have := ins_box h x y hf
  omega
theorem gridN_le (f : Int → Int → Bool) (x0 y0 : Int) (m : Nat) : ∀ n, gridN f x0 y0 m n ≤ n * m
  | 0 => by simp [gridN]
  | n + 1 => by
    have h1 := gridN_le f x0 y0 m n
    have h2 := numN_le (fun j => f (x0 + n) (y0 + j)) m
    rw [gridN, Nat.succ_mul]
    omega
end Go.Proofs.Ytiadnbdefcimiaa
