/- Triangles of a round, listed; triangles within a bound, counted. Nothing of the program. -/
import Derived.Test.YtliplbifgldjeaaTri3
import Derived.Test.YtliplbifgldjeaaThreeP
import Derived.Test.YtliplbifgldjeaaSortP
namespace Go.Proofs.Ytliplbifgldjeaa

/-- A triangle in order with the round p and lengths of at most n. -/
def Good (p n : Int) (t : T3) : Prop := 1 ≤ t.1 ∧ t.1 ≤ t.2.1 ∧ t.2.1 ≤ t.2.2 ∧ t.2.2 ≤ n ∧ t.1 + t.2.1 + t.2.2 = p ∧ t.2.2 < t.1 + t.2.1
def goodB (a b c : Int) : Bool := decide (b ≤ c) && decide (c < a + b)
/-- The triangles whose first length is a, the first k of the second ones. -/
def rowB (p a : Int) : Nat → List T3
  | 0 => []
  | k + 1 => rowB p a k ++ (if goodB a (a + k) (p - a - (a + k)) then [(a, a + k, p - a - (a + k))] else [])
def cntB (p a : Int) : Nat := (p - a - a + 1).toNat
def rowsA (p : Int) : Nat → List T3
  | 0 => []
  | i + 1 => rowsA p i ++ rowB p (i + 1) (cntB p (i + 1))
def allP (p : Int) : List T3 := rowsA p p.toNat

theorem mem_rowB {p a : Int} {t : T3} : ∀ k, t ∈ rowB p a k ↔ ∃ j : Nat, j < k ∧ goodB a (a + j) (p - a - (a + j)) = true ∧ t = (a, a + j, p - a - (a + j))
  | 0 => by simp [rowB]
  | k + 1 => by
    rw [rowB, List.mem_append, mem_rowB k]
    constructor
    · rintro (⟨j, h1, h2, h3⟩ | h)
      · exact ⟨j, by omega, h2, h3⟩
      · split at h
        · rename_i hg; exact ⟨k, by omega, hg, by simpa using h⟩
        · simp at h
    · rintro ⟨j, h1, h2, h3⟩
      by_cases e : j = k
      · subst e; right; rw [if_pos h2]; simpa using h3
      · exact .inl ⟨j, by omega, h2, h3⟩
theorem mem_rowsA {p : Int} {t : T3} : ∀ i, t ∈ rowsA p i ↔ ∃ a : Nat, a < i ∧ t ∈ rowB p ((a : Int) + 1) (cntB p ((a : Int) + 1))
  | 0 => by simp [rowsA]
  | i + 1 => by
    rw [rowsA, List.mem_append, mem_rowsA i]
    constructor
    · rintro (⟨a, h1, h2⟩ | h)
      · exact ⟨a, by omega, h2⟩
      · exact ⟨i, by omega, h⟩
    · rintro ⟨a, h1, h2⟩
      by_cases e : a = i
      · subst e; exact .inr h2
      · exact .inl ⟨a, by omega, h2⟩
theorem mem_allP {p : Int} (hp : p ≤ 60) {t : T3} : t ∈ allP p ↔ Good p 60 t := by
  unfold allP
  rw [mem_rowsA]
  constructor
  · rintro ⟨a, h1, h2⟩
    obtain ⟨j, h3, h4, rfl⟩ := (mem_rowB _).1 h2
    unfold goodB at h4
    unfold cntB at h3
    simp at h4
    unfold Good
    dsimp only
    omega
  · obtain ⟨a, b, c⟩ := t
    unfold Good
    rintro ⟨h1, h2, h3, h4, h5, h6⟩
    dsimp only at *
    refine ⟨(a - 1).toNat, by omega, (mem_rowB _).2 ⟨(b - a).toNat, ?_, ?_, ?_⟩⟩
    · unfold cntB; omega
    · unfold goodB; simp; omega
    · simp only [Prod.mk.injEq]; omega
/-- The order of lists, of two triangles with one round. -/
def lt3 (s t : T3) : Prop := s.1 < t.1 ∨ s.1 = t.1 ∧ s.2.1 < t.2.1
theorem sorted_rowB {p a : Int} : ∀ k, (rowB p a k).Pairwise lt3
  | 0 => by simp [rowB]
  | k + 1 => by
    rw [rowB, List.pairwise_append]
    refine ⟨sorted_rowB k, by split <;> simp, fun s hs t ht => ?_⟩
    obtain ⟨j, h1, _, rfl⟩ := (mem_rowB k).1 hs
    split at ht
    · obtain rfl : t = _ := by simpa using ht
      exact .inr ⟨rfl, by show a + (j : Int) < a + (k : Int); omega⟩
    · simp at ht
theorem sorted_rowsA {p : Int} : ∀ i, (rowsA p i).Pairwise lt3
  | 0 => by simp [rowsA]
  | i + 1 => by
    rw [rowsA, List.pairwise_append]
    refine ⟨sorted_rowsA i, sorted_rowB _, fun s hs t ht => ?_⟩
    obtain ⟨a, h1, h2⟩ := (mem_rowsA i).1 hs
    obtain ⟨j, _, _, rfl⟩ := (mem_rowB _).1 h2
    obtain ⟨j', _, _, rfl⟩ := (mem_rowB _).1 ht
    exact .inl (by show (a : Int) + 1 < (i : Int) + 1; omega)
theorem sorted_allP (p : Int) : (allP p).Pairwise lt3 := sorted_rowsA _
theorem lt3_ne {s t : T3} (h : lt3 s t) : s ≠ t := by rintro rfl; unfold lt3 at h; omega
theorem nodup_allP (p : Int) : (allP p).Nodup := (sorted_allP p).imp lt3_ne
/-- The triangles with lengths of at most n. -/
def inP (p n : Int) : List T3 := (allP p).filter fun t => decide (t.2.2 ≤ n)
theorem mem_inP {p n : Int} (hp : p ≤ 60) (hn : n ≤ 60) {t : T3} : t ∈ inP p n ↔ Good p n t := by
  unfold inP
  rw [List.mem_filter, mem_allP hp]
  unfold Good
  simp
  omega
theorem nodup_inP (p n : Int) : (inP p n).Nodup := (nodup_allP p).filter _
theorem len_of_mem {L M : List T3} (hL : L.Nodup) (hM : M.Nodup) (h : ∀ t, t ∈ L ↔ t ∈ M) : L.length = M.length := ((List.perm_ext_iff_of_nodup hL hM).2 h).length_eq
theorem inP_all {p : Int} (hp : p ≤ 60) : inP p 60 = allP p := by
  unfold inP
  rw [List.filter_eq_self]
  intro t ht
  have := (mem_allP hp).1 ht
  unfold Good at this
  simp; omega
def rowsLen (p : Int) : Int := ((allP p).length : Nat)
set_option maxRecDepth 100000 in
theorem len_table : ∀ i : Fin 60, ((allP ((i : Nat) + 1 : Nat)).length : Int) = rndM ((i : Nat) + 1 : Nat) := by decide +kernel
theorem len_allP {p : Int} (h1 : 1 ≤ p) (h2 : p ≤ 60) : ((allP p).length : Int) = rndM p := by
  have := len_table ⟨(p - 1).toNat, by omega⟩
  rwa [show (((p - 1).toNat + 1 : Nat) : Int) = p by omega] at this

/-! Triangles within a bound -/
def insA (c b : Int) : Nat → Int
  | 0 => 0
  | a + 1 => insA c b a + (if c < (a + 1 : Int) + b then 1 else 0)
def insB (c : Int) : Nat → Int
  | 0 => 0
  | b + 1 => insB c b + insA c (b + 1) (b + 1)
def insC : Nat → Int
  | 0 => 0
  | c + 1 => insC c + insB (c + 1) (c + 1)
def insM (n : Int) : Int := if inB n 1 20 then insC n.toNat else 0
/-- Counted round by round: the rounds 3, 4, .., of the first k. -/
def insR (n : Int) : Nat → Int
  | 0 => 0
  | k + 1 => insR n k + ((inP (k + 3) n).length : Nat)
set_option maxRecDepth 100000 in
theorem ins_table : ∀ i : Fin 20, insR ((i : Nat) + 1 : Nat) (3 * ((i : Nat) + 1) - 2) = insC ((i : Nat) + 1) := by decide +kernel
theorem ins_all {n : Int} (h1 : 1 ≤ n) (h2 : n ≤ 20) : insR n (3 * n - 2).toNat = insM n := by
  have := ins_table ⟨(n - 1).toNat, by omega⟩
  unfold insM
  rw [show (3 * n - 2).toNat = 3 * ((n - 1).toNat + 1) - 2 by omega, show n.toNat = (n - 1).toNat + 1 by omega, if_pos (by unfold inB; simp; omega)]
  rwa [show (((n - 1).toNat + 1 : Nat) : Int) = n by omega] at this
theorem insR_le (n : Int) : ∀ k, 0 ≤ insR n k
  | 0 => by simp [insR]
  | k + 1 => by have := insR_le n k; rw [insR]; omega
set_option maxRecDepth 100000 in
theorem ins_step_table : ∀ i : Fin 20, insC ((i : Nat) + 1) = insC i + (((i : Nat) : Int) + 2) * (((i : Nat) : Int) + 2) / 4 := by decide +kernel

/-! Three in order; lists in order -/
/-- Three numbers in order. -/
def ord3 (a b c : Int) : T3 := ((isort [a, b, c]).getD 0 0, (isort [a, b, c]).getD 1 0, (isort [a, b, c]).getD 2 0)
theorem isort3 (a b c : Int) : isort [a, b, c] = if b < a then (if c < b then [c, b, a] else if c < a then [b, c, a] else [b, a, c]) else if c < a then [c, a, b] else if c < b then [a, c, b] else [a, b, c] := by
  have e1 : isortTo [a, b, c] 1 = [a] := by simp [isortTo, ins, pos, posTo]
  have e2 : isortTo [a, b, c] 2 = if b < a then [b, a] else [a, b] := by
    rw [isortTo, e1]
    by_cases h : b < a
    · have h' : ¬ a ≤ b := by omega
      simp [ins, pos, posTo, h, h']
    · have h' : a ≤ b := by omega
      simp [ins, pos, posTo, h, h']
  show isortTo [a, b, c] 3 = _
  rw [isortTo, e2]
  by_cases h : b < a
  · simp only [if_pos h]
    by_cases h1 : c < b
    · have h2 : ¬ a ≤ c := by omega
      have h3 : ¬ b ≤ c := by omega
      simp [ins, pos, posTo, h1, h2, h3]
    · by_cases h4 : c < a
      · have h2 : ¬ a ≤ c := by omega
        have h3 : b ≤ c := by omega
        simp [ins, pos, posTo, h1, h2, h3, h4]
      · have h2 : a ≤ c := by omega
        simp [ins, pos, posTo, h1, h2, h4]
  · simp only [if_neg h]
    by_cases h1 : c < a
    · have h2 : ¬ a ≤ c := by omega
      have h3 : ¬ b ≤ c := by omega
      simp [ins, pos, posTo, h1, h2, h3]
    · by_cases h4 : c < b
      · have h2 : a ≤ c := by omega
        have h3 : ¬ b ≤ c := by omega
        simp [ins, pos, posTo, h1, h2, h3, h4]
      · have h2 : b ≤ c := by omega
        simp [ins, pos, posTo, h1, h2, h4]
theorem ord3_asc {a b c : Int} (h1 : a ≤ b) (h2 : b ≤ c) : ord3 a b c = (a, b, c) := by
  unfold ord3
  rw [isort3, if_neg (by omega), if_neg (by omega), if_neg (by omega)]; rfl
theorem ord3_good {a b c n : Int} (h1 : 1 ≤ a) (h2 : 1 ≤ b) (h3 : 1 ≤ c) (h4 : a ≤ n) (h5 : b ≤ n) (h6 : c ≤ n) (h7 : a < b + c) (h8 : b < a + c) (h9 : c < a + b) : Good (a + b + c) n (ord3 a b c) := by
  unfold ord3
  rw [isort3]
  unfold Good
  repeat' split
  all_goals simp
  all_goals omega

theorem eq_of_sorted : ∀ {L M : List T3}, L.Pairwise lt3 → M.Pairwise lt3 → (∀ t, t ∈ L ↔ t ∈ M) → L = M
  | [], [], _, _, _ => rfl
  | [], b :: M, _, _, h => absurd ((h b).2 (by simp)) (by simp)
  | a :: L, [], _, _, h => absurd ((h a).1 (by simp)) (by simp)
  | a :: L, b :: M, hL, hM, h => by
    obtain ⟨l1, l2⟩ := List.pairwise_cons.1 hL
    obtain ⟨m1, m2⟩ := List.pairwise_cons.1 hM
    have hab : a = b := by
      have h1 := (h a).1 (by simp)
      have h2 := (h b).2 (by simp)
      rcases List.mem_cons.1 h1 with e | h1
      · exact e
      · rcases List.mem_cons.1 h2 with e | h2
        · exact e.symm
        · have q1 := m1 a h1
          have q2 := l1 b h2
          unfold lt3 at q1 q2
          omega
    subst hab
    congr 1
    refine eq_of_sorted l2 m2 fun t => ?_
    have ht := h t
    constructor
    · intro hm
      rcases List.mem_cons.1 (ht.1 (List.mem_cons_of_mem _ hm)) with rfl | h'
      · exact absurd rfl (lt3_ne (l1 _ hm))
      · exact h'
    · intro hm
      rcases List.mem_cons.1 (ht.2 (List.mem_cons_of_mem _ hm)) with rfl | h'
      · exact absurd rfl (lt3_ne (m1 _ hm))
      · exact h'

/-- How slices.Compare parts two rows of three. -/
def cmp3 (s t : T3) : Int :=
  if s.1 < t.1 then -1 else if t.1 < s.1 then 1 else if s.2.1 < t.2.1 then -1 else if t.2.1 < s.2.1 then 1 else if s.2.2 < t.2.2 then -1 else if t.2.2 < s.2.2 then 1 else 0
def lex3 (s t : T3) : Prop := s.1 < t.1 ∨ s.1 = t.1 ∧ (s.2.1 < t.2.1 ∨ s.2.1 = t.2.1 ∧ s.2.2 < t.2.2)
theorem cmp3_lt (s t : T3) : cmp3 s t < 0 ↔ lex3 s t := by
  unfold cmp3 lex3
  repeat' split
  all_goals omega
theorem lex_of {p n : Int} {s t : T3} (hs : Good p n s) (ht : Good p n t) (hne : s ≠ t) (h : ¬ lex3 t s) : lt3 s t := by
  obtain ⟨a, b, c⟩ := s
  obtain ⟨x, y, z⟩ := t
  unfold lex3 at h
  unfold Good at hs ht
  unfold lt3
  simp only [ne_eq, Prod.mk.injEq] at hne
  dsimp only at *
  omega
theorem sorted_of {p n : Int} {L : List T3} (hg : ∀ t ∈ L, Good p n t) (hn : L.Nodup) (h : ∀ i j, i < j → j < L.length → ¬ lex3 (L.getD j (0, 0, 0)) (L.getD i (0, 0, 0))) : L.Pairwise lt3 := by
  rw [List.pairwise_iff_getElem]
  intro i j hi hj hij
  have e1 : L.getD i (0, 0, 0) = L[i] := by simp [List.getD_eq_getElem?_getD, hi]
  have e2 : L.getD j (0, 0, 0) = L[j] := by simp [List.getD_eq_getElem?_getD, hj]
  have := h i j hij hj
  rw [e1, e2] at this
  refine lex_of (hg _ (List.getElem_mem hi)) (hg _ (List.getElem_mem hj)) (fun e => ?_) this
  have := (List.nodup_iff_pairwise_ne.1 hn |> List.pairwise_iff_getElem.1) i j hi hj hij
  exact this e

/-! Whole areas -/
open Classical in
/-- N is sixteen times a square. -/
noncomputable def wholeB (N : Int) : Bool := decide (∃ k : Int, 0 ≤ k ∧ 16 * (k * k) = N)
theorem wholeB_iff {N : Int} : wholeB N = true ↔ ∃ k : Int, 0 ≤ k ∧ 16 * (k * k) = N := by unfold wholeB; simp
theorem sq_mono {x y : Int} (hx : 0 ≤ x) (h : x ≤ y) : x * x ≤ y * y := Int.mul_le_mul h h hx (by omega)
theorem sq_le {x y : Int} (hx : 0 ≤ x) (hy : 0 ≤ y) (h : x * x ≤ y * y) : x ≤ y := by
  rcases Int.lt_or_le y x with hlt | hle
  · have h1 : y * y ≤ y * x := Int.mul_le_mul_of_nonneg_left (by omega) hy
    have h2 : y * x < x * x := Int.mul_lt_mul_of_pos_right hlt (by omega)
    omega
  · exact hle
theorem whole_least {N k : Int} (hk : 0 ≤ k) (h1 : N ≤ 16 * (k * k)) (h2 : ∀ j : Int, 0 ≤ j → j < k → 16 * (j * j) < N) : wholeB N = decide (16 * (k * k) = N) := by
  rw [Bool.eq_iff_iff, wholeB_iff, decide_eq_true_eq]
  constructor
  · rintro ⟨j, hj, e⟩
    rcases Int.lt_or_le j k with hlt | hle
    · have := h2 j hj hlt; omega
    · have := sq_mono hk hle; omega
  · exact fun e => ⟨k, hk, e⟩
theorem whole_root {N r : Int} (hr : 0 ≤ r) (h1 : r * r ≤ N) (h2 : N < (r + 1) * (r + 1)) : wholeB N = (decide (r * r = N) && decide (r % 4 = 0)) := by
  rw [Bool.eq_iff_iff, wholeB_iff, Bool.and_eq_true, decide_eq_true_eq, decide_eq_true_eq]
  constructor
  · rintro ⟨k, hk, ek⟩
    have e4 : (4 * k) * (4 * k) = N := by rw [← ek]; grind
    have q1 : r ≤ 4 * k := sq_le hr (by omega) (by omega)
    have q2 : 4 * k < r + 1 := by
      rcases Int.lt_or_le (4 * k) (r + 1) with h' | h'
      · exact h'
      · have := sq_mono (x := r + 1) (y := 4 * k) (by omega) h'
        omega
    have e : r = 4 * k := by omega
    exact ⟨by rw [e]; exact e4, by omega⟩
  · rintro ⟨e1, e2⟩
    obtain ⟨m, rfl⟩ : ∃ m, r = 4 * m := ⟨r / 4, by omega⟩
    exact ⟨m, by omega, by rw [← e1]; grind⟩
end Go.Proofs.Ytliplbifgldjeaa
