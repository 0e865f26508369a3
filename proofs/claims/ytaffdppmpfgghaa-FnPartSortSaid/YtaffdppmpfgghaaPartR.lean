/- Pure facts of parting: counting ways, sums, greatest ones. Nothing of the program. -/
import Derived.Test.YtaffdppmpfgghaaPartQ
import Derived.Test.YtaffdppmpfgghaaSolP
namespace Go.Proofs.Ytaffdppmpfgghaa

/-- All sticks are in threes. -/
def whlB (l : List Int) : Bool := !decide ((-1 : Int) ∈ l)
/-- The free places as a set. -/
def Rl (l : List Int) (U : Nat) : Prop := ∀ p, U.testBit p = (decide (p < l.length) && (l.getD p 0 == -1))
theorem Rl.ok {l : List Int} {U : Nat} (h : Rl l U) {t : Tri} (h1 : t.1 < l.length) (h2 : t.2.1 < l.length) (h3 : t.2.2 < l.length) : okT l t = fitU U t := by
  unfold okT fitU
  rw [h t.1, h t.2.1, h t.2.2, decide_eq_true h1, decide_eq_true h2, decide_eq_true h3]
  simp
theorem Rl.put {l : List Int} {U m : Nat} {t : Tri} (h : Rl l U) (h1 : t.1 < l.length) (h2 : t.2.1 < l.length) (h3 : t.2.2 < l.length) (hok : fitU U t = true) : Rl (putT l t m) (U ^^^ thrU t) := by
  intro p
  rw [put_len, put_get h1 h2 h3]
  by_cases e : p = t.1 ∨ p = t.2.1 ∨ p = t.2.2
  · rw [if_pos e, xor_on hok (by rcases e with e | e | e <;> simp [e])]
    have : ((m : Int) == -1) = false := by simp
    rw [this, Bool.and_false]
  · rw [if_neg e, xor_off (fun g => e (.inl g.symm)) (fun g => e (.inr (.inl g.symm))) (fun g => e (.inr (.inr g.symm)))]
    exact h p
theorem Rl.whole {l : List Int} {U : Nat} (h : Rl l U) : (U = 0) ↔ whlB l = true := by
  unfold whlB
  rw [Bool.not_eq_true', decide_eq_false_iff_not]
  constructor
  · rintro rfl hm
    obtain ⟨p, hp, e⟩ := List.getElem_of_mem hm
    have := h p
    rw [Nat.zero_testBit, decide_eq_true hp, List.getD_eq_getElem?_getD, List.getElem?_eq_getElem hp, Option.getD_some, e] at this
    exact absurd this (by decide)
  · intro hm
    refine Nat.eq_of_testBit_eq fun p => ?_
    rw [h p, Nat.zero_testBit]
    by_cases hp : p < l.length
    · have : (l.getD p 0 == -1) = false := by
        rw [beq_eq_false_iff_ne]
        intro e
        refine hm ?_
        rw [List.getD_eq_getElem?_getD, List.getElem?_eq_getElem hp, Option.getD_some] at e
        rw [← e]
        exact List.getElem_mem _
      rw [this, Bool.and_false]
    · rw [decide_eq_false hp]; rfl
theorem noP_rl (n : Nat) : Rl (noP n) (2 ^ n - 1) := fun p => by
  rw [Nat.testBit_two_pow_sub_one]
  by_cases h : p < n
  · rw [noP_get h, show (noP n).length = n by simp [noP]]; simp
  · rw [show (noP n).length = n by simp [noP], decide_eq_false h]; rfl
theorem count_vis (f : List Int → Bool) (m : Nat) (l : List Int) (t : Tri) (T : List Tri) :
    (visP m l (t :: T)).countP f = (visP m l T).countP f + if okT l t = true then (visP (m + 1) (putT l t m) T).countP f else 0 := by
  unfold visP
  rw [List.countP_cons, List.countP_cons, visT, List.countP_append]
  by_cases h : okT l t = true
  · rw [if_pos h, if_pos h]; omega
  · rw [if_neg h, if_neg h, List.countP_nil]; omega
theorem ways_cov : ∀ (T : List Tri) (m : Nat) (l : List Int) (U : Nat), Rl l U → (∀ t ∈ T, t.1 < l.length ∧ t.2.1 < l.length ∧ t.2.2 < l.length) → (visP m l T).countP whlB = covN T U
  | [], m, l, U, hr, _ => by
    unfold visP visT
    rw [covN, List.countP_cons, List.countP_nil, Nat.zero_add]
    by_cases e : U = 0
    · rw [if_pos e, if_pos (hr.whole.1 e)]
    · rw [if_neg e, if_neg fun h => e (hr.whole.2 h)]
  | t :: T, m, l, U, hr, hT => by
    obtain ⟨h1, h2, h3⟩ := hT t (by simp)
    rw [count_vis, covN, ways_cov T m l U hr fun s hs => hT s (by simp [hs]), hr.ok h1 h2 h3]
    by_cases e : fitU U t = true
    · rw [if_pos e, if_pos e, ways_cov T (m + 1) _ _ (hr.put h1 h2 h3 e) fun s hs => by rw [put_len]; exact hT s (by simp [hs])]
    · rw [if_neg e, if_neg e]
theorem tri_in {Q : Tri → Bool} {n : Nat} : ∀ t ∈ triP Q n, t.1 < (noP n).length ∧ t.2.1 < (noP n).length ∧ t.2.2 < (noP n).length := fun t ht => by
  have := allQ_mem.1 (List.mem_filter.1 ht).1
  rw [show (noP n).length = n by simp [noP]]
  omega
/-- The number of ways. -/
def wayP (Q : Tri → Bool) (n : Nat) : Nat := covN (triP Q n) (2 ^ n - 1)
theorem ways_is (Q : Tri → Bool) (n : Nat) : (visP 0 (noP n) (triP Q n)).countP whlB = wayP Q n := ways_cov _ 0 _ _ (noP_rl n) tri_in
theorem wayP_le {Q : Tri → Bool} {n : Nat} (hn : n ≤ 9) : wayP Q n ≤ 280 := cov_le280 hn Q
theorem wayP_pos {Q : Tri → Bool} {n : Nat} : 0 < wayP Q n ↔ ∃ l M, PL Q n l M ∧ whlB l = true := by
  rw [← ways_is, List.countP_pos_iff]
  constructor
  · rintro ⟨l, hl, hw⟩
    obtain ⟨M, h⟩ := visP_pl hl
    exact ⟨l, M, h, hw⟩
  · rintro ⟨l, M, h, hw⟩
    exact ⟨l, h.vis, hw⟩

/-! Sums of weights. -/
def sI (n : Nat) (f : Nat → Int) : Int := match n with
  | 0 => 0
  | n + 1 => sI n f + f n
theorem sI_ext {f g : Nat → Int} : ∀ n, (∀ i, i < n → f i = g i) → sI n f = sI n g
  | 0, _ => rfl
  | n + 1, h => by rw [sI, sI, sI_ext n (fun i hi => h i (by omega)), h n (by omega)]
theorem sI_add (f g : Nat → Int) : ∀ n, sI n (fun i => f i + g i) = sI n f + sI n g
  | 0 => rfl
  | n + 1 => by rw [sI, sI, sI, sI_add f g n]; omega
theorem sI_zero : ∀ n, sI n (fun _ => 0) = 0
  | 0 => rfl
  | n + 1 => by rw [sI, sI_zero n]; rfl
theorem sI_const (c : Int) : ∀ n, sI n (fun _ => c) = n * c
  | 0 => by simp [sI]
  | n + 1 => by rw [sI, sI_const c n, Int.natCast_succ, Int.add_mul]; omega
theorem sI_swap (f : Nat → Nat → Int) (m : Nat) : ∀ n, sI n (fun i => sI m (fun j => f i j)) = sI m (fun j => sI n (fun i => f i j))
  | 0 => (sI_zero m).symm
  | n + 1 => by
    rw [sI, sI_swap f m n, ← sI_add]
    exact sI_ext m fun j _ => by rw [sI]
theorem sI_one (g : Nat → Int) {k : Nat} : ∀ {n : Nat}, k < n → sI n (fun i => if i = k then g i else 0) = g k
  | 0, h => by omega
  | n + 1, h => by
    rw [sI]
    by_cases e : n = k
    · subst e
      rw [if_pos rfl, sI_ext n (g := fun _ => 0) fun i hi => if_neg (by omega), sI_zero]; omega
    · rw [if_neg e, sI_one g (by omega)]; omega
theorem sI_none (g : Nat → Int) {x : Int} (hx : x < 0) (n : Nat) : sI n (fun i => if (i : Int) = x then g i else 0) = 0 := by
  rw [sI_ext n (g := fun _ => 0) fun i _ => if_neg (by omega), sI_zero]
/-- The sum of the weights of the places that have a number. -/
def sumW (f : Nat → Int) (l : List Int) (k : Int) : Int := sI l.length fun p => if l.getD p 0 = k then f p else 0
theorem sumW_of (f : Nat → Int) (l : List Int) (k : Int) : ((ofP l k).map f).sum = sumW f l k := by
  unfold ofP sumW
  have : ∀ n, (((List.range n).filter fun p => l.getD p 0 == k).map f).sum = sI n fun p => if l.getD p 0 = k then f p else 0 := by
    intro n
    induction n with
    | zero => rfl
    | succ n ih =>
      rw [List.range_succ, List.filter_append, List.map_append, List.sum_append, ih, sI, List.filter_cons, List.filter_nil]
      by_cases h : l.getD n 0 = k
      · rw [if_pos h, if_pos (by simpa using h)]; simp
      · rw [if_neg h, if_neg (by simpa using h)]; simp
  exact this _
/-- All places together. -/
theorem PL.sum {Q : Tri → Bool} {n M : Nat} {l : List Int} (h : PL Q n l M) (f : Nat → Int) : sI M (fun k => sumW f l k) + sumW f l (-1) = sI n f := by
  unfold sumW
  rw [h.len, sI_swap, ← sI_add]
  refine sI_ext n fun p hp => ?_
  have hr := h.rng p hp
  rcases Int.lt_or_le (l.getD p 0) 0 with g | g
  · have e : l.getD p 0 = -1 := by omega
    rw [if_pos e, sI_ext M (g := fun _ => 0) fun i _ => if_neg (by omega), sI_zero]; omega
  · obtain ⟨k, hk⟩ : ∃ k : Nat, l.getD p 0 = k := ⟨(l.getD p 0).toNat, by omega⟩
    rw [hk, if_neg (by omega), sI_ext M (g := fun i => if i = k then f p else 0) fun i _ => by
      by_cases e : i = k
      · rw [e, if_pos rfl, if_pos rfl]
      · rw [if_neg e, if_neg (by omega)], sI_one (fun _ => f p) (by omega)]
    omega
theorem PL.three {Q : Tri → Bool} {n M : Nat} {l : List Int} (h : PL Q n l M) (f : Nat → Int) {k : Nat} (hk : k < M) : sumW f l k = f (triOf l k).1 + f (triOf l k).2.1 + f (triOf l k).2.2 := by
  obtain ⟨h1, _⟩ := h.tri hk
  rw [← sumW_of, h1]
  simp
  omega
theorem sumW_nn {f : Nat → Int} {l : List Int} {k : Int} (hf : ∀ p, p < l.length → 0 ≤ f p) : 0 ≤ sumW f l k := by
  unfold sumW
  have : ∀ n, n ≤ l.length → 0 ≤ sI n fun p => if l.getD p 0 = k then f p else 0 := by
    intro n
    induction n with
    | zero => exact fun _ => Int.le_refl _
    | succ n ih =>
      intro hn
      rw [sI]
      have := ih (by omega)
      have := hf n (by omega)
      split <;> omega
  exact this _ (Nat.le_refl _)
theorem PL.cnt {Q : Tri → Bool} {n M : Nat} {l : List Int} (h : PL Q n l M) : 3 * (M : Int) + sumW (fun _ => 1) l (-1) = n := by
  have h1 := h.sum (fun _ => 1)
  rw [sI_const, sI_ext M (g := fun _ => 3) fun k hk => h.three _ hk, sI_const] at h1
  omega
theorem PL.le {Q : Tri → Bool} {n M : Nat} {l : List Int} (h : PL Q n l M) : 3 * M ≤ n := by
  have h1 := h.cnt
  have h2 := sumW_nn (f := fun _ => 1) (l := l) (k := -1) fun _ _ => by decide
  omega
theorem whole_none {f : Nat → Int} {l : List Int} (h : whlB l = true) : sumW f l (-1) = 0 := by
  unfold sumW
  rw [sI_ext l.length (g := fun _ => 0), sI_zero]
  intro p hp
  rw [if_neg]
  intro e
  unfold whlB at h
  rw [Bool.not_eq_true', decide_eq_false_iff_not] at h
  refine h ?_
  rw [List.getD_eq_getElem?_getD, List.getElem?_eq_getElem hp, Option.getD_some] at e
  rw [← e]; exact List.getElem_mem _
theorem whole_of {Q : Tri → Bool} {n M : Nat} {l : List Int} (h : PL Q n l M) (hM : 3 * M = n) : whlB l = true := by
  unfold whlB
  rw [Bool.not_eq_true', decide_eq_false_iff_not]
  intro hm
  have h1 := h.cnt
  have h0 : sumW (fun _ => 1) l (-1) = 0 := by omega
  obtain ⟨p, hp, e⟩ := List.getElem_of_mem hm
  have hq : p ∈ ofP l (-1) := ofP_mem.2 ⟨hp, by rw [List.getD_eq_getElem?_getD, List.getElem?_eq_getElem hp, Option.getD_some, e]⟩
  rw [← sumW_of] at h0
  have h2 : ((ofP l (-1)).map fun _ => (1 : Int)).sum = (ofP l (-1)).length := by
    generalize ofP l (-1) = L
    induction L with
    | nil => rfl
    | cons x t ih => rw [List.map_cons, List.sum_cons, ih, List.length_cons]; omega
  rw [h2] at h0
  have := List.length_pos_of_mem hq
  omega

/-! Threes of one sum. -/
/-- All threes of a list have a sum. -/
def evP (f : Nat → Int) (s : Int) (l : List Int) : Bool := (List.range l.length).all fun p => decide (l.getD p 0 < 0) || (sumW f l (l.getD p 0) == s)
theorem evP_iff {Q : Tri → Bool} {n M : Nat} {l : List Int} (h : PL Q n l M) (f : Nat → Int) (s : Int) : evP f s l = true ↔ ∀ k : Nat, k < M → sumW f l k = s := by
  unfold evP
  rw [List.all_eq_true]
  constructor
  · intro ha k hk
    obtain ⟨h1, _⟩ := h.tri hk
    obtain ⟨i1, i2, i3⟩ := inc_of h1
    have hm : (triOf l k).1 ∈ ofP l (k : Int) := by rw [h1]; simp
    have := ha (triOf l k).1 (List.mem_range.2 (by omega))
    rw [(ofP_mem.1 hm).2] at this
    simp only [Bool.or_eq_true, decide_eq_true_eq, beq_iff_eq] at this
    rcases this with g | g
    · omega
    · exact g
  · intro ha p hp
    rw [List.mem_range] at hp
    have hr := h.rng p (by rw [← h.len]; exact hp)
    simp only [Bool.or_eq_true, decide_eq_true_eq, beq_iff_eq]
    rcases Int.lt_or_le (l.getD p 0) 0 with g | g
    · exact .inl g
    · right
      obtain ⟨k, hk⟩ : ∃ k : Nat, l.getD p 0 = k := ⟨(l.getD p 0).toNat, by omega⟩
      rw [hk]
      exact ha k (by omega)
def sumT (f : Nat → Int) (t : Tri) : Int := f t.1 + f t.2.1 + f t.2.2
theorem even_cov {Q : Tri → Bool} {n : Nat} (f : Nat → Int) (s : Int) : ∀ (T : List Tri) (m : Nat) (l : List Int) (U : Nat), PV Q n l m T → Rl l U → (∀ k : Nat, k < m → sumW f l k = s) →
    (visP m l T).countP (fun l => whlB l && evP f s l) = covN (T.filter fun t => sumT f t == s) U
  | [], m, l, U, hv, hr, he => by
    unfold visP visT
    rw [List.filter_nil, covN, List.countP_cons, List.countP_nil, Nat.zero_add, (evP_iff hv.pl f s).2 he, Bool.and_true]
    by_cases e : U = 0
    · rw [if_pos e, if_pos (hr.whole.1 e)]
    · rw [if_neg e, if_neg fun h => e (hr.whole.2 h)]
  | t :: T, m, l, U, hv, hr, he => by
    obtain ⟨h1, h2, h3, _⟩ := hv.inT t (by simp)
    have hl := hv.pl.len
    rw [count_vis, List.filter_cons, even_cov f s T m l U hv.skip hr he, hr.ok (by omega) (by omega) (by omega)]
    by_cases e : fitU U t = true
    · have hok : okT l t = true := by rw [hr.ok (by omega) (by omega) (by omega)]; exact e
      have hp := hv.put hok
      have hnew : sumW f (putT l t m) m = sumT f t := by
        rw [← sumW_of, ofP_putm h1 h2 (by omega) fun p hp => by have := hv.pl.rng p (by omega); omega]
        simp [sumT]; omega
      rw [if_pos e]
      by_cases g : (sumT f t == s) = true
      · rw [if_pos g, covN, if_pos e, even_cov f s T (m + 1) _ _ hp (hr.put (by omega) (by omega) (by omega) e) fun k hk => ?_]
        by_cases ek : k = m
        · rw [ek, hnew]; simpa using g
        · rw [← sumW_of, ofP_put h1 h2 (by omega) hok (by omega) (by omega), sumW_of]; exact he k (by omega)
      · rw [if_neg g, List.countP_eq_zero.2 fun l' hl' => ?_, Nat.add_zero]
        rw [Bool.and_eq_true, not_and]
        intro _
        have hkey : ∃ M, m < M ∧ PL Q n l' M ∧ sumW f l' m = sumT f t := by
          unfold visP at hl'
          rw [List.mem_cons] at hl'
          rcases hl' with hl' | hl'
          · subst hl'; exact ⟨m + 1, by omega, hp.pl, hnew⟩
          · obtain ⟨M, hM, hpl⟩ := vis_pl T (m + 1) _ hp l' hl'
            refine ⟨M, by omega, hpl, ?_⟩
            rw [← sumW_of, vis_keep T (m + 1) _ hp l' hl' m (by omega), sumW_of]; exact hnew
        obtain ⟨M, hM, hpl, hs⟩ := hkey
        rw [evP_iff hpl]
        intro hall
        have := hall m hM
        rw [hs] at this
        exact g (by simpa using this)
    · rw [if_neg e]
      by_cases g : (sumT f t == s) = true
      · rw [if_pos g, covN, if_neg e]
      · rw [if_neg g, Nat.add_zero]
theorem even_is {Q : Tri → Bool} {n : Nat} (f : Nat → Int) (s : Int) : (visP 0 (noP n) (triP Q n)).countP (fun l => whlB l && evP f s l) = wayP (fun t => Q t && (sumT f t == s)) n := by
  rw [even_cov f s _ 0 _ _ (noP_pv Q n) (noP_rl n) fun k hk => by omega]
  unfold wayP triP
  rw [List.filter_filter]
  congr 1
  refine List.filter_congr fun t _ => ?_
  rw [Bool.and_comm]
/-- All threes have the sum of the first one. -/
def evnB (f : Nat → Int) (l : List Int) : Bool := evP f (sumW f l 0) l
/-- The number of ways with equal sums. -/
def evnP (Q : Tri → Bool) (f : Nat → Int) (n : Nat) : Nat :=
  if n % 3 = 0 ∧ sI n f % ((n / 3 : Nat) : Int) = 0 then wayP (fun t => Q t && (sumT f t == sI n f / ((n / 3 : Nat) : Int))) n else 0
theorem evn_is {Q : Tri → Bool} {n : Nat} (h1 : 1 ≤ n) (f : Nat → Int) : (visP 0 (noP n) (triP Q n)).countP (fun l => whlB l && evnB f l) = evnP Q f n := by
  have key : ∀ l M, PL Q n l M → whlB l = true → 3 * M = n ∧ sI M (fun k => sumW f l k) = sI n f := fun l M h hw => by
    have g1 := h.cnt
    have g2 := h.sum f
    rw [whole_none hw] at g1 g2
    exact ⟨by omega, by omega⟩
  have evn : ∀ l M, PL Q n l M → whlB l = true → evnB f l = true → sI n f = M * sumW f l 0 := fun l M h hw he => by
    rw [← (key l M h hw).2, ← sI_const]
    exact sI_ext M fun k hk => (evP_iff h f _).1 he k hk
  unfold evnP
  by_cases hc : n % 3 = 0 ∧ sI n f % ((n / 3 : Nat) : Int) = 0
  · rw [if_pos hc, ← even_is]
    refine List.countP_congr fun l hl => ?_
    obtain ⟨M, h⟩ := visP_pl hl
    rw [Bool.and_eq_true, Bool.and_eq_true]
    constructor
    · rintro ⟨hw, he⟩
      refine ⟨hw, ?_⟩
      have k1 := (key l M h hw).1
      have k2 := evn l M h hw he
      rw [show n / 3 = M by omega, k2, Int.mul_ediv_cancel_left _ (by omega)]
      exact he
    · rintro ⟨hw, he⟩
      refine ⟨hw, ?_⟩
      have k1 := (key l M h hw).1
      have k2 := (evP_iff h f _).1 he 0 (by omega)
      unfold evnB
      rw [show ((0 : Nat) : Int) = 0 from rfl] at k2
      rw [k2]
      exact he
  · rw [if_neg hc, List.countP_eq_zero]
    intro l hl hn
    rw [Bool.and_eq_true] at hn
    obtain ⟨M, h⟩ := visP_pl hl
    have k1 := (key l M h hn.1).1
    have k2 := evn l M h hn.1 hn.2
    refine hc ⟨by omega, ?_⟩
    rw [show n / 3 = M by omega, k2, Int.mul_emod_right]
theorem evnP_le {Q : Tri → Bool} {n : Nat} (h1 : 1 ≤ n) (f : Nat → Int) : evnP Q f n ≤ wayP Q n := by
  rw [← evn_is h1, ← ways_is]
  refine List.countP_mono_left fun l _ hl => ?_
  rw [Bool.and_eq_true] at hl
  exact hl.1
theorem evnP_three {Q : Tri → Bool} (f : Nat → Int) : evnP Q f 3 = wayP Q 3 := by
  rw [← evn_is (by omega), ← ways_is]
  refine List.countP_congr fun l hl => ?_
  obtain ⟨M, h⟩ := visP_pl hl
  rw [Bool.and_eq_true]
  refine ⟨fun g => g.1, fun g => ⟨g, ?_⟩⟩
  have hM := h.le
  unfold evnB
  rw [evP_iff h]
  intro k hk
  obtain rfl : k = 0 := by omega
  rfl

/-! Greatest ones. -/
def mxR (f : List Int → Int) (L : List (List Int)) (b : Int) : Int := L.foldl (fun m l => max m (f l)) b
theorem mxR_le {f : List Int → Int} {c : Int} : ∀ (L : List (List Int)) (b : Int), mxR f L b ≤ c ↔ b ≤ c ∧ ∀ l ∈ L, f l ≤ c
  | [], b => by simp [mxR]
  | x :: L, b => by
    show mxR f L (max b (f x)) ≤ c ↔ _
    rw [mxR_le L]
    simp only [List.mem_cons, forall_eq_or_imp]
    rw [Int.max_le, and_assoc]
theorem mxR_eq {f g : List Int → Int} {A B : List (List Int)} (h : ∀ l, l ∈ A ↔ l ∈ B) (hf : ∀ l ∈ A, f l = g l) (b : Int) : mxR f A b = mxR g B b := by
  have h1 : mxR f A b ≤ mxR g B b := by
    rw [mxR_le]
    have := (mxR_le (f := g) (c := mxR g B b) B b).1 (Int.le_refl _)
    exact ⟨this.1, fun l hl => by rw [hf l hl]; exact this.2 l ((h l).1 hl)⟩
  have h2 : mxR g B b ≤ mxR f A b := by
    rw [mxR_le]
    have := (mxR_le (f := f) (c := mxR f A b) A b).1 (Int.le_refl _)
    exact ⟨this.1, fun l hl => by rw [← hf l ((h l).2 hl)]; exact this.2 l ((h l).2 hl)⟩
  omega
theorem mxR_ge {f : List Int → Int} {L : List (List Int)} {b : Int} : b ≤ mxR f L b ∧ ∀ l ∈ L, f l ≤ mxR f L b := (mxR_le L b).1 (Int.le_refl _)
theorem mxR_at {f : List Int → Int} : ∀ (L : List (List Int)) (b : Int), mxR f L b = b ∨ ∃ l ∈ L, mxR f L b = f l
  | [], b => .inl rfl
  | x :: L, b => by
    have h : mxR f (x :: L) b = mxR f L (max b (f x)) := rfl
    rw [h]
    rcases mxR_at (f := f) L (max b (f x)) with e | ⟨l, hl, e⟩
    · rcases Int.le_total b (f x) with g | g
      · exact .inr ⟨x, by simp, by rw [e]; omega⟩
      · exact .inl (by rw [e]; omega)
    · exact .inr ⟨l, by simp [hl], e⟩
/-- The number of threes of a list. -/
def thrL (l : List Int) : Int := l.foldl (fun m x => max m (x + 1)) 0
theorem thrL_le {c : Int} : ∀ (l : List Int) (b : Int), l.foldl (fun m x => max m (x + 1)) b ≤ c ↔ b ≤ c ∧ ∀ x ∈ l, x + 1 ≤ c
  | [], b => by simp
  | x :: l, b => by
    rw [List.foldl_cons, thrL_le l]
    simp only [List.mem_cons, forall_eq_or_imp]
    rw [Int.max_le, and_assoc]
theorem PL.threes {Q : Tri → Bool} {n M : Nat} {l : List Int} (h : PL Q n l M) : thrL l = M := by
  have h1 : thrL l ≤ M := by
    unfold thrL
    rw [thrL_le]
    refine ⟨by omega, fun x hx => ?_⟩
    obtain ⟨p, hp, e⟩ := List.getElem_of_mem hx
    have := h.rng p (by rw [← h.len]; exact hp)
    rw [List.getD_eq_getElem?_getD, List.getElem?_eq_getElem hp, Option.getD_some, e] at this
    omega
  have h2 : (M : Int) ≤ thrL l := by
    have hall := (thrL_le (c := thrL l) l 0).1 (Int.le_refl _)
    rcases Nat.eq_zero_or_pos M with e | e
    · rw [e]; exact hall.1
    · obtain ⟨k1, _⟩ := h.tri (s := M - 1) (by omega)
      have hm : (triOf l ((M - 1 : Nat) : Int)).1 ∈ ofP l ((M - 1 : Nat) : Int) := by rw [k1]; simp
      obtain ⟨hp, he⟩ := ofP_mem.1 hm
      have hx : ((M - 1 : Nat) : Int) ∈ l := by
        rw [← he, List.getD_eq_getElem?_getD, List.getElem?_eq_getElem hp, Option.getD_some]
        exact List.getElem_mem _
      have := hall.2 _ hx
      omega
  omega
/-- The greatest number of threes. -/
def mstP (Q : Tri → Bool) (n : Nat) : Int := mxR thrL (visP 0 (noP n) (triP Q n)) 0
theorem mstP_at (Q : Tri → Bool) (n : Nat) : ∃ l M, PL Q n l M ∧ mstP Q n = (M : Int) := by
  rcases mxR_at (f := thrL) (visP 0 (noP n) (triP Q n)) 0 with h | ⟨l, hl, h⟩
  · exact ⟨noP n, 0, (noP_pv Q n).pl, h⟩
  · obtain ⟨M, hM⟩ := visP_pl hl
    exact ⟨l, M, hM, by unfold mstP; rw [h, hM.threes]⟩
theorem mstP_ge {Q : Tri → Bool} {n M : Nat} {l : List Int} (h : PL Q n l M) : (M : Int) ≤ mstP Q n := by
  have := mxR_ge (f := thrL) (b := 0) (L := visP 0 (noP n) (triP Q n)) |>.2 l h.vis
  rw [h.threes] at this
  exact this
theorem mstP_le (Q : Tri → Bool) (n : Nat) : 3 * mstP Q n ≤ n ∧ 0 ≤ mstP Q n := by
  obtain ⟨l, M, h, e⟩ := mstP_at Q n
  have := h.le
  omega
/-- One three alone. -/
theorem one_pl {Q : Tri → Bool} {n : Nat} {t : Tri} (h : t ∈ triP Q n) : PL Q n (putT (noP n) t 0) 1 := by
  have hm := List.mem_filter.1 h
  have hi := allQ_mem.1 hm.1
  have hv : PV Q n (noP n) 0 [t] := ⟨(noP_pv Q n).pl, List.pairwise_singleton _ _, fun s hs => by
    rw [List.mem_singleton] at hs; subst hs; exact ⟨hi.1, hi.2.1, hi.2.2, hm.2⟩, fun s _ k hk => by omega⟩
  exact (hv.put (okT_mk (noP_get (by omega)) (noP_get (by omega)) (noP_get (by omega)))).pl
theorem mstP_zero {Q : Tri → Bool} {n : Nat} : mstP Q n = 0 ↔ triP Q n = [] := by
  constructor
  · intro h
    rcases ht : triP Q n with _ | ⟨t, T⟩
    · rfl
    · exfalso
      have := mstP_ge (one_pl (Q := Q) (n := n) (t := t) (by rw [ht]; simp))
      omega
  · intro h
    unfold mstP
    rw [h]
    have e : thrL (noP n) = 0 := (noP_pv Q n).pl.threes
    show max 0 (thrL (noP n)) = 0
    rw [e]; rfl
/-- The greatest sum of sticks in threes. -/
def rndL (f : Nat → Int) (n : Nat) (l : List Int) : Int := sI n f - sumW f l (-1)
def rndP (Q : Tri → Bool) (f : Nat → Int) (n : Nat) : Int := mxR (rndL f n) (visP 0 (noP n) (triP Q n)) 0
theorem rndP_le {Q : Tri → Bool} {f : Nat → Int} {n : Nat} (hf : ∀ p, p < n → 0 ≤ f p) (h0 : 0 ≤ sI n f) : 0 ≤ rndP Q f n ∧ rndP Q f n ≤ sI n f := by
  refine ⟨mxR_ge.1, (mxR_le _ _).2 ⟨h0, fun l hl => ?_⟩⟩
  obtain ⟨M, h⟩ := visP_pl hl
  have := sumW_nn (f := f) (l := l) (k := -1) fun p hp => hf p (by rw [← h.len]; exact hp)
  unfold rndL
  omega
theorem rndP_ge {Q : Tri → Bool} {f : Nat → Int} {n M : Nat} {l : List Int} (h : PL Q n l M) : rndL f n l ≤ rndP Q f n := mxR_ge.2 l h.vis
theorem rndP_one {Q : Tri → Bool} {f : Nat → Int} {n : Nat} {t : Tri} (h : t ∈ triP Q n) : sumT f t ≤ rndP Q f n := by
  have hp := one_pl h
  have h1 := rndP_ge (f := f) hp
  have h2 := hp.sum f
  have hm := List.mem_filter.1 h
  have hi := allQ_mem.1 hm.1
  have h3 : sumW f (putT (noP n) t 0) ((0 : Nat) : Int) = sumT f t := by
    rw [← sumW_of, ofP_putm hi.1 hi.2.1 (by simp [noP]; omega) fun p hp => by
      rw [noP_get (by simpa [noP] using hp)]; decide]
    simp [sumT]; omega
  have h4 : sI 1 (fun k => sumW f (putT (noP n) t 0) k) = 0 + sumW f (putT (noP n) t 0) ((0 : Nat) : Int) := rfl
  unfold rndL at h1
  omega
theorem rndP_zero {Q : Tri → Bool} {f : Nat → Int} {n : Nat} (h : triP Q n = []) (hn : sI n f = sumW f (noP n) (-1)) : rndP Q f n = 0 := by
  unfold rndP
  rw [h]
  show max 0 (rndL f n (noP n)) = 0
  unfold rndL
  rw [hn]
  omega
theorem sumW_noP (f : Nat → Int) (n : Nat) : sI n f = sumW f (noP n) (-1) := by
  have := (noP_pv (fun _ => true) n).pl.sum f
  rw [← this]
  show 0 + _ = _
  omega
end Go.Proofs.Ytaffdppmpfgghaa
