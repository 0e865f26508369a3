/- Area and rim tell the number of points inside a convex path. -/
import Derived.Test.YthpgenkdiokpeaaPickP
namespace Go.Proofs.Ythpgenkdiokpeaa

theorem addP_assoc3 (o a b : Pt) : addP (addP o a) b = addP o (addP a b) := addP_assoc o a b
theorem cor_cons (s : Pt) (t : List Pt) (i : Nat) : cor (s :: t) (i + 1) = addP s (cor t i) := by unfold cor; rw [List.take_succ_cons, tot_cons]
theorem lef_iff {q : Pt} : ∀ (t : List Pt) (o : Pt), lefC q o t ↔ ∀ i, i < t.length → 0 < crs (atP t i) (subP q (addP o (cor t i)))
  | [], o => ⟨fun _ i hi => absurd hi (by simp), fun _ => trivial⟩
  | s :: t, o => by
    unfold lefC
    rw [lef_iff t (addP o s)]
    constructor
    · rintro ⟨h1, h2⟩ i hi
      match i with
      | 0 => rw [cor_zero, addP_zero]; simpa [atP] using h1
      | i + 1 =>
        have := h2 i (by simp at hi; omega)
        rw [cor_cons, ← addP_assoc]
        simpa [atP] using this
    · intro h
      refine ⟨?_, fun i hi => ?_⟩
      · have := h 0 (by simp)
        rw [cor_zero, addP_zero] at this
        simpa [atP] using this
      · have := h (i + 1) (by simp; omega)
        rw [cor_cons, ← addP_assoc] at this
        simpa [atP] using this
theorem lef_app {q : Pt} : ∀ (A B : List Pt) (o : Pt), lefC q o (A ++ B) ↔ lefC q o A ∧ lefC q (addP o (tot A)) B
  | [], B, o => by
    rw [List.nil_append, show tot [] = ((0, 0) : Pt) from rfl, addP_zero]
    exact ⟨fun h => ⟨trivial, h⟩, fun h => h.2⟩
  | s :: A, B, o => by
    show (0 < crs s (subP q o) ∧ lefC q (addP o s) (A ++ B)) ↔ (0 < crs s (subP q o) ∧ lefC q (addP o s) A) ∧ lefC q (addP o (tot (s :: A))) B
    rw [lef_app A B (addP o s), tot_cons, addP_assoc]
    exact ⟨fun h => ⟨⟨h.1, h.2.1⟩, h.2.2⟩, fun h => ⟨h.1.1, h.1.2, h.2⟩⟩
theorem lef_neg {q : Pt} : ∀ (t : List Pt) (o : Pt), lefC (negP q) (negP o) (t.map negP) ↔ lefC q o t
  | [], o => Iff.rfl
  | s :: t, o => by
    rw [List.map_cons]
    unfold lefC
    have e1 : crs (negP s) (subP (negP q) (negP o)) = crs s (subP q o) := by simp only [crs, negP, subP]; grind
    have e2 : addP (negP o) (negP s) = negP (addP o s) := Prod.ext (by simp only [addP, negP]; omega) (by simp only [addP, negP]; omega)
    rw [e1, e2, lef_neg t (addP o s)]
theorem cor_rot {l : List Pt} (hc : tot l = (0, 0)) {k : Nat} (hk : k ≤ l.length) (h0 : 0 < l.length) : ∀ i, i ≤ l.length → addP (cor l k) (cor (rotL l k) i) = cor l ((k + i) % l.length)
  | 0, _ => by
    rw [cor_zero, addP_zero, Nat.add_zero]
    rcases Nat.lt_or_eq_of_le hk with h | rfl
    · rw [Nat.mod_eq_of_lt h]
    · rw [Nat.mod_self, cor_len, hc, cor_zero]
  | i + 1, hi => by
    rw [cor_succ (by rw [rot_len]; omega), ← addP_assoc, cor_rot hc hk h0 i (by omega), rot_at hk (by omega), ← cor_next hc (Nat.mod_lt _ h0)]
    congr 1
    rw [Nat.mod_add_mod, Nat.add_assoc]
theorem ins_lef {l : List Pt} (hc : tot l = (0, 0)) {k : Nat} (hk : k ≤ l.length) (h0 : 0 < l.length) {q : Pt} : lftB l q = true ↔ lefC q (cor l k) (rotL l k) := by
  rw [lftB_iff, lef_iff]
  constructor
  · intro h i hi
    rw [rot_len] at hi
    rw [cor_rot hc hk h0 i (by omega), rot_at hk hi]
    exact h _ (Nat.mod_lt _ h0)
  · intro h i hi
    -- the place of i in the list that begins at k
    obtain ⟨j, hj, e⟩ : ∃ j, j < l.length ∧ (k + j) % l.length = i := by
      by_cases c : k ≤ i
      · exact ⟨i - k, by omega, by rw [show k + (i - k) = i by omega, Nat.mod_eq_of_lt hi]⟩
      · exact ⟨l.length - k + i, by omega, by rw [show k + (l.length - k + i) = i + l.length by omega, Nat.add_mod_right, Nat.mod_eq_of_lt hi]⟩
    have := h j (by rw [rot_len]; exact hj)
    rw [cor_rot hc hk h0 j (by omega), rot_at hk hj, e] at this
    exact this

/-- A convex path: a chain to the right, and one back. -/
structure Two (A B : List Pt) : Prop where
  a : ChR A
  b : ChR (B.map negP)
  na : A ≠ []
  nb : B ≠ []
  cl : tot (A ++ B) = (0, 0)
  t1 : 0 ≤ crs (atP B (B.length - 1)) (atP A 0)
  t2 : 0 ≤ crs (atP A (A.length - 1)) (atP B 0)
  st : ∀ s ∈ A ++ B, stepP s
  ar : 0 < arP (0, 0) (A ++ B)
theorem neg_at {l : List Pt} {i : Nat} (h : i < l.length) : atP (l.map negP) i = negP (atP l i) := by simp [atP, List.getD_eq_getElem?_getD, h]
theorem neg_neg (l : List Pt) : (l.map negP).map negP = l := by
  rw [List.map_map]
  conv => rhs; rw [← List.map_id l]
  exact List.map_congr_left fun s _ => negP_negP s
theorem Two.turn {A B : List Pt} (h : Two A B) : Two (B.map negP) (A.map negP) := by
  have la := List.length_pos_iff.2 h.na
  have lb := List.length_pos_iff.2 h.nb
  refine ⟨h.b, by rw [neg_neg]; exact h.a, by simpa using h.nb, by simpa using h.na, ?_, ?_, ?_, fun s hs => ?_, ?_⟩
  · rw [← List.map_append, tot_neg, tot_perm (List.perm_append_comm (l₁ := B) (l₂ := A)), h.cl]; rfl
  · rw [List.length_map, neg_at (by omega), neg_at lb, crs_neg]; exact h.t2
  · rw [List.length_map, neg_at (by omega), neg_at la, crs_neg]; exact h.t1
  · rw [← List.map_append] at hs
    obtain ⟨a, ha, rfl⟩ := List.mem_map.1 hs
    exact neg_step (h.st a (List.perm_append_comm.mem_iff.1 ha))
  · rw [← List.map_append, arP_neg]
    have e1 := arP_split h.cl
    have e2 := arP_split (U := B) (D := A) (by rw [tot_perm (List.perm_append_comm (l₁ := B) (l₂ := A))]; exact h.cl)
    have := h.ar
    omega
theorem Two.end_ {A B : List Pt} (h : Two A B) (o : Pt) : addP (addP o (tot A)) (tot B) = o := by
  rw [addP_assoc, ← tot_append, h.cl, addP_zero]
theorem Two.left {A B : List Pt} (h : Two A B) {o q : Pt} (hl : lefC q o (A ++ B)) : o.1 < q.1 := by
  have la := List.length_pos_iff.2 h.na
  have lb := List.length_pos_iff.2 h.nb
  rw [lef_iff] at hl
  have e0 : atP (A ++ B) 0 = atP A 0 := by rw [atP_app, if_pos la]
  have en : atP (A ++ B) ((A ++ B).length - 1) = atP B (B.length - 1) := by
    rw [atP_app, List.length_append, if_neg (by omega)]
    congr 1; omega
  have h1 := hl 0 (by rw [List.length_append]; omega)
  rw [e0, cor_zero, addP_zero] at h1
  have h2 := hl ((A ++ B).length - 1) (by rw [List.length_append]; omega)
  have hcl : addP (cor (A ++ B) ((A ++ B).length - 1)) (atP (A ++ B) ((A ++ B).length - 1)) = (0, 0) := by
    rw [← cor_succ (by rw [List.length_append]; omega), show (A ++ B).length - 1 + 1 = (A ++ B).length by rw [List.length_append]; omega, cor_len, h.cl]
  rw [en] at h2 hcl
  have ra := h.a.rgt (atP A 0) (by rw [atP_lt la]; exact List.getElem_mem la)
  have rb := h.b.rgt (negP (atP B (B.length - 1))) (List.mem_map.2 ⟨_, by rw [atP_lt (by omega)]; exact List.getElem_mem _, rfl⟩)
  have tt := h.t1
  generalize cor (A ++ B) ((A ++ B).length - 1) = c at *
  generalize atP A 0 = a at *
  generalize atP B (B.length - 1) = b at *
  have hb : 0 < crs b (subP q o) := by
    have e : crs b (subP q (addP o c)) = crs b (subP q o) - crs b (addP c b) := by simp only [crs, subP, addP]; grind
    rw [e, hcl] at h2
    simp only [crs] at h2 ⊢
    simp at h2
    omega
  refine Classical.byContradiction fun hno => ?_
  rcases ra with ra | ⟨ra, ra2⟩
  · rcases rb with rb | ⟨rb, rb2⟩
    · have e := cross_id a b (subP q o)
      have k1 := Int.mul_pos ra hb
      have k2 := Int.mul_neg_of_neg_of_pos (show b.1 < 0 by simp only [negP] at rb; omega) h1
      have k3 : (subP q o).1 * crs b a ≤ 0 := Int.mul_nonpos_of_nonpos_of_nonneg (by simp only [subP]; omega) tt
      omega
    · simp only [negP] at rb rb2
      have rb1 : b.1 = 0 := by omega
      have := Int.mul_pos (show 0 < b.2 by omega) ra
      simp only [crs, rb1] at tt
      simp at tt
      omega
  · have e : crs a (subP q o) = a.2 * (o.1 - q.1) := by simp only [crs, subP, ra]; grind
    have := Int.mul_nonpos_of_nonpos_of_nonneg (show a.2 ≤ 0 by omega) (show 0 ≤ o.1 - q.1 by omega)
    omega
theorem Two.right {A B : List Pt} (h : Two A B) {o q : Pt} (hl : lefC q o (A ++ B)) : q.1 < o.1 + (tot A).1 := by
  rw [lef_app] at hl
  have h2 : lefC (negP q) (negP (addP o (tot A))) (B.map negP ++ A.map negP) := by
    rw [lef_app]
    refine ⟨(lef_neg B _).2 hl.2, ?_⟩
    have e : addP (negP (addP o (tot A))) (tot (B.map negP)) = negP o := by
      have := h.end_ o
      rw [tot_neg]
      have e1 := congrArg Prod.fst this
      have e2 := congrArg Prod.snd this
      simp only [addP] at e1 e2
      exact Prod.ext (by simp only [addP, negP]; omega) (by simp only [addP, negP]; omega)
    rw [e]
    exact (lef_neg A o).2 hl.1
  have := h.turn.left h2
  simp only [negP, addP] at this
  omega
theorem tot_fst0 : ∀ {t : List Pt}, (∀ b ∈ t, 0 ≤ b.1) → (tot t).1 = 0 → ∀ b ∈ t, b.1 = 0
  | [], _, _, b, hb => by cases hb
  | s :: t, h, h0, b, hb => by
    have h1 := h s (by simp)
    have h2 := tot_fst (t := t) fun x hx => h x (by simp [hx])
    rw [tot_cons] at h0
    simp only [addP] at h0
    rcases List.mem_cons.1 hb with rfl | hb
    · omega
    · exact tot_fst0 (fun x hx => h x (by simp [hx])) (by omega) b hb
theorem Two.wide {A B : List Pt} (h : Two A B) : 0 < (tot A).1 := by
  have hA : ∀ b ∈ A, 0 ≤ b.1 := fun b hb => rgt_nn (h.a.rgt b hb)
  have hB : ∀ b ∈ B.map negP, 0 ≤ b.1 := fun b hb => rgt_nn (h.b.rgt b hb)
  rcases Int.lt_or_le 0 (tot A).1 with h1 | h1
  · exact h1
  · exfalso
    have z1 := tot_fst hA
    have hc := h.cl
    rw [tot_append] at hc
    have e1 := congrArg Prod.fst hc
    simp only [addP] at e1
    have zA := tot_fst0 hA (by omega)
    have zB := tot_fst0 hB (by rw [tot_neg]; simp only [negP]; omega)
    have all : ∀ s ∈ A ++ B, s.1 = 0 := fun s hs => by
      rcases List.mem_append.1 hs with hs | hs
      · exact zA s hs
      · have := zB (negP s) (List.mem_map.2 ⟨s, hs, rfl⟩)
        simp only [negP] at this
        omega
    have := arP_flat (A ++ B) (0, 0) (fun s _ => by simp [crs]) fun s hs u hu => by simp only [crs, all s hs, all u hu]; simp
    have := h.ar
    omega
/-- The upper height. -/
def hiC (x : Int) (o : Pt) (A B : List Pt) : Int := -loC (-x) (negP (addP o (tot A))) (B.map negP)
theorem Two.col {A B : List Pt} (h : Two A B) {o : Pt} {x : Int} (h1 : o.1 < x) (h2 : x < o.1 + (tot A).1) (y : Int) : lefC (x, y) o (A ++ B) ↔ loC x o A < y ∧ y < hiC x o A B := by
  have hc := h.end_ o
  have e1 := congrArg Prod.fst hc
  simp only [addP] at e1
  rw [lef_app, lef_lo (q := (x, y)) A o h.a (by show o.1 ≤ x; omega) h2 (.inl h1), ← lef_neg B, lef_lo (q := negP (x, y)) (B.map negP) _ h.b (by simp only [negP, addP]; omega) (by rw [tot_neg]; simp only [negP, addP]; omega) (.inl (by simp only [negP, addP]; omega))]
  unfold hiC
  simp only [negP]
  omega
theorem Two.strict {A B : List Pt} (h : Two A B) {o : Pt} {x : Int} (h1 : o.1 < x) (h2 : x < o.1 + (tot A).1) : loC x o A < hiC x o A B := by
  refine Classical.byContradiction fun hno => ?_
  have hc := h.end_ o
  have e1 := congrArg Prod.fst hc
  have e2 := congrArg Prod.snd hc
  simp only [addP] at e1 e2
  have n0 : ∀ s ∈ A ++ B, s ≠ (0, 0) := fun s hs => (h.st s hs).2.2
  obtain ⟨c1, c2⟩ := chord (q := (x, loC x o A)) h.a (fun s hs => n0 s (by simp [hs])) h1 h2 (Int.le_refl _)
  obtain ⟨c3, c4⟩ := chord (q := (-x, -loC x o A)) (o := negP (addP o (tot A))) h.b (fun s hs => by
    obtain ⟨a, ha, rfl⟩ := List.mem_map.1 hs
    exact (neg_step (h.st a (by simp [ha]))).2.2) (by simp only [negP, addP]; omega) (by rw [tot_neg]; simp only [negP, addP]; omega) (by
    unfold hiC at hno
    show -loC x o A ≤ loC (-x) (negP (addP o (tot A))) (B.map negP)
    omega)
  have et : tot (B.map negP) = tot A := by rw [tot_neg]; exact Prod.ext (by simp only [negP]; omega) (by simp only [negP]; omega)
  have ek : crs (tot A) (subP (-x, -loC x o A) (negP (addP o (tot A)))) = -crs (tot A) (subP (x, loC x o A) o) := by simp only [crs, subP, negP, addP]; grind
  rw [et, ek] at c3 c4
  have z1 := c2 (by omega)
  have z2 := c4 (by omega)
  rw [arP_neg] at z2
  have := h.ar
  rw [arP_split h.cl] at this
  omega

/-! Counting. -/
theorem numN_all {f : Nat → Bool} : ∀ n : Nat, (∀ i, i < n → f i = true) → numN f n = n
  | 0, _ => rfl
  | n + 1, h => by rw [numN, numN_all n (fun i hi => h i (by omega)), h n (by omega)]; rfl
theorem numN_iv {f : Nat → Bool} {y0 a b : Int} {n : Nat} (h1 : y0 ≤ a + 1) (h2 : b ≤ y0 + n) (h3 : a < b) (hf : ∀ j : Nat, f j = true ↔ a < y0 + j ∧ y0 + j < b) : (numN f n : Int) = b - a - 1 := by
  obtain ⟨p, hp⟩ : ∃ p : Nat, (p : Int) = a + 1 - y0 := ⟨(a + 1 - y0).toNat, by omega⟩
  obtain ⟨m, hm⟩ : ∃ m : Nat, (m : Int) = b - a - 1 := ⟨(b - a - 1).toNat, by omega⟩
  rw [numN_mid (a := p) (m := m) (by omega) (fun i _ hi => by have := (hf i).1 hi; omega), numN_all m (fun i hi => (hf _).2 (by omega))]
  exact hm
theorem gridN_sum {f : Int → Int → Bool} {x0 y0 : Int} {m : Nat} {c : Nat → Int} : ∀ {n : Nat}, (∀ i, i < n → (numN (fun j => f (x0 + i) (y0 + j)) m : Int) = c i) → (gridN f x0 y0 m n : Int) = sumF c n
  | 0, _ => rfl
  | n + 1, h => by
    have h1 := gridN_sum (f := f) (x0 := x0) (y0 := y0) (m := m) (c := c) (n := n) fun i hi => h i (by omega)
    have h2 := h n (by omega)
    rw [gridN, sumF, ← h1, ← h2]
    simp
theorem bound_ex (g : Nat → Int) : ∀ n, ∃ K : Nat, ∀ i, i < n → -(K : Int) ≤ g i ∧ g i ≤ K
  | 0 => ⟨0, fun i hi => by omega⟩
  | n + 1 => by
    obtain ⟨K, h⟩ := bound_ex g n
    refine ⟨K + (g n).natAbs, fun i hi => ?_⟩
    by_cases e : i = n
    · subst e; omega
    · have := h i (by omega); omega
theorem sumF_rev (g : Nat → Int) : ∀ m, sumF (fun i => g (m - 1 - i)) m = sumF g m
  | 0 => rfl
  | m + 1 => by
    have h := sumF_rev (fun i => g (i + 1)) m
    have e : sumF g (m + 1) = g 0 + sumF (fun i => g (i + 1)) m := by
      rw [Nat.add_comm, sumF_split]
      simp only [sumF]
      rw [sumF_congr (n := m) (f := fun i => g (1 + i)) (g := fun i => g (i + 1)) fun i _ => by rw [Nat.add_comm]]
      omega
    rw [e, ← h, sumF]
    have e2 : sumF (fun i => g (m + 1 - 1 - i)) m = sumF (fun i => g (m - 1 - i + 1)) m := sumF_congr fun i hi => by congr 1; omega
    rw [e2]
    simp only [Nat.add_sub_cancel, Nat.sub_self]
    omega
theorem sumF_neg (f : Nat → Int) : ∀ n, sumF (fun i => -f i) n = -sumF f n
  | 0 => by simp [sumF]
  | n + 1 => by simp only [sumF, sumF_neg f n]; omega
theorem gS_neg (t : List Pt) : gS (t.map negP) = gS t := by
  unfold gS
  rw [List.map_map]
  congr 1
  refine List.map_congr_left fun s _ => ?_
  show gcdP (negP s) = gcdP s
  unfold gcdP negP
  dsimp only
  rw [Int.natAbs_neg, Int.natAbs_neg]
/-- The sum over all columns. -/
theorem Two.sum {A B : List Pt} (h : Two A B) (o : Pt) : 2 * sumF (fun i => hiC (o.1 + 1 + (i : Nat)) o A B - loC (o.1 + 1 + (i : Nat)) o A - 1) ((tot A).1 - 1).toNat = arP (0, 0) (A ++ B) - gS (A ++ B) + 2 := by
  have hw := h.wide
  have hc := h.end_ o
  have e1 := congrArg Prod.fst hc
  have e2 := congrArg Prod.snd hc
  simp only [addP] at e1 e2
  have sA : ∀ s ∈ A, stepP s := fun s hs => h.st s (by simp [hs])
  have sB : ∀ s ∈ B.map negP, stepP s := fun s hs => by
    obtain ⟨a, ha, rfl⟩ := List.mem_map.1 hs
    exact neg_step (h.st a (by simp [ha]))
  obtain ⟨m, hm⟩ : ∃ m : Nat, (tot A).1.toNat = 1 + m := ⟨(tot A).1.toNat - 1, by omega⟩
  have em : ((tot A).1 - 1).toNat = m := by omega
  have et : tot (B.map negP) = tot A := by rw [tot_neg]; exact Prod.ext (by simp only [negP]; omega) (by simp only [negP]; omega)
  have l1 := lo_sum A o h.a sA
  have l2 := lo_sum (B.map negP) (negP (addP o (tot A))) h.b sB
  have f1 := lo_first A o h.a sA hw
  have f2 := lo_first (B.map negP) (negP (addP o (tot A))) h.b sB (by rw [et]; exact hw)
  rw [hm, sumF_split] at l1
  rw [et, hm, sumF_split] at l2
  rw [em]
  have c1 := chC_ar A o
  have c2 := chC_ar (B.map negP) (negP (addP o (tot A)))
  rw [et, gS_neg] at c2
  have g1 : sumF (fun i => loC (o.1 + ((1 + i : Nat) : Int)) o A) m = sumF (fun i => loC (o.1 + 1 + (i : Nat)) o A) m := sumF_congr fun i _ => by congr 1; omega
  have g2 : sumF (fun i => loC ((negP (addP o (tot A))).1 + ((1 + i : Nat) : Int)) (negP (addP o (tot A))) (B.map negP)) m = -sumF (fun i => hiC (o.1 + 1 + (i : Nat)) o A B) m := by
    rw [← sumF_neg, ← sumF_rev]
    refine sumF_congr fun i hi => ?_
    unfold hiC
    rw [Int.neg_neg]
    congr 1
    simp only [negP, addP]
    omega
  have g0 : sumF (fun i => hiC (o.1 + 1 + (i : Nat)) o A B - loC (o.1 + 1 + (i : Nat)) o A - 1) m = sumF (fun i => hiC (o.1 + 1 + (i : Nat)) o A B) m - sumF (fun i => loC (o.1 + 1 + (i : Nat)) o A) m - m := by
    have : ∀ n, sumF (fun i => hiC (o.1 + 1 + (i : Nat)) o A B - loC (o.1 + 1 + (i : Nat)) o A - 1) n = sumF (fun i => hiC (o.1 + 1 + (i : Nat)) o A B) n - sumF (fun i => loC (o.1 + 1 + (i : Nat)) o A) n - n := fun n => by
      induction n with
      | zero => simp [sumF]
      | succ n ih => simp only [sumF, ih]; omega
    exact this m
  rw [g1] at l1
  rw [g2] at l2
  rw [g0]
  have a1 : sumF (fun j => loC (o.1 + (j : Nat)) o A) 1 = loC o.1 o A := by simp [sumF]
  have a2 : sumF (fun j => loC ((negP (addP o (tot A))).1 + (j : Nat)) (negP (addP o (tot A))) (B.map negP)) 1 = loC (negP (addP o (tot A))).1 (negP (addP o (tot A))) (B.map negP) := by simp [sumF]
  rw [a1, f1] at l1
  rw [a2, f2] at l2
  have gg : gS (A ++ B) = gS A + gS B := by simp [gS]
  -- the areas
  have aA : arP o A = arP (0, 0) A + crs o (tot A) := by
    have := arP_shift o A (0, 0)
    rwa [show addP (0, 0) o = o from Prod.ext (by simp [addP]) (by simp [addP])] at this
  have aB : arP (negP (addP o (tot A))) (B.map negP) = arP (0, 0) (B.map negP) + crs (negP (addP o (tot A))) (tot (B.map negP)) := by
    have := arP_shift (negP (addP o (tot A))) (B.map negP) (0, 0)
    rwa [show addP (0, 0) (negP (addP o (tot A))) = negP (addP o (tot A)) from Prod.ext (by simp [addP]) (by simp [addP])] at this
  rw [et, arP_neg] at aB
  rw [arP_split h.cl, gg]
  rw [aA] at c1
  rw [aB] at c2
  have ecr : crs (negP (addP o (tot A))) (tot A) = -crs o (tot A) := by simp only [crs, negP, addP]; grind
  rw [ecr] at c2
  have emul : ((negP (addP o (tot A))).1 + (tot A).1) * ((negP (addP o (tot A))).2 + (tot A).2) - (negP (addP o (tot A))).1 * (negP (addP o (tot A))).2 = o.1 * o.2 - (o.1 + (tot A).1) * (o.2 + (tot A).2) := by simp only [negP, addP]; grind
  rw [emul] at c2
  have en2 : (negP (addP o (tot A))).2 = -(o.2 + (tot A).2) := by simp only [negP, addP]
  rw [en2] at l2
  generalize (o.1 + (tot A).1) * (o.2 + (tot A).2) = P at *
  generalize o.1 * o.2 = Q at *
  omega

/-! The path. -/
theorem IsPath.chains {l : List Pt} (h : IsPath l) (hc : convB l = true) : ∃ k A B, k ≤ l.length ∧ rotL l k = A ++ B ∧ Two A B := by
  have h0 : 0 < l.length := by have := h.lo; omega
  obtain ⟨k, U, L, u, v, hk, H⟩ := halves (l := l.map quaP) h.qua.nz (by rw [h.conv_qua]; exact hc)
  rw [List.length_map] at hk
  have er : rotL (l.map quaP) k = (rotL l k).map quaP := by simp [rotL, List.map_append, List.map_drop, List.map_take]
  have he := H.eq
  rw [er, List.map_eq_append_iff] at he
  obtain ⟨A, B, e, eA, eB⟩ := he
  have hp := h.rot k
  have hu : ∀ s ∈ A, upB (quaP s) = true := fun s hs => H.upU _ (by rw [← eA]; exact List.mem_map.2 ⟨s, hs, rfl⟩)
  have hd : ∀ s ∈ B, upB (quaP s) = false := fun s hs => H.dnL _ (by rw [← eB]; exact List.mem_map.2 ⟨s, hs, rfl⟩)
  have hnA : A ≠ [] := fun e => by rw [e] at eA; simp at eA
  have hnB : B ≠ [] := fun e => by rw [e] at eB; simp at eB
  have la := List.length_pos_iff.2 hnA
  have lb := List.length_pos_iff.2 hnB
  have sA := H.sU
  have sB := H.sL
  rw [← eA] at sA
  rw [← eB] at sB
  unfold SortP at sA sB
  rw [List.pairwise_map] at sA sB
  have ht := turns_rot (k := k) hk (by unfold convB at hc; rw [Bool.and_eq_true] at hc; exact hc.1)
  rw [turnsB_iff] at ht
  have hl : (rotL l k).length = A.length + B.length := by rw [e, List.length_append]
  refine ⟨k, A, B, hk, e, ⟨fun s hs => ?_, sA.imp fun {a b} h => by rwa [qua_crs] at h⟩, ⟨fun s hs => ?_, ?_⟩, hnA, hnB, by rw [← e]; exact hp.closed, ?_, ?_, by rw [← e]; exact hp.steps, ?_⟩
  · have := hu s hs
    change (decide (0 < s.1) || (decide (s.1 = 0) && decide (0 < -s.2))) = true at this
    simp only [Bool.or_eq_true, Bool.and_eq_true, decide_eq_true_eq] at this
    unfold rgtP
    omega
  · obtain ⟨a, ha, rfl⟩ := List.mem_map.1 hs
    have h1 := hd a ha
    have h2 := hp.nz a (by rw [e]; simp [ha])
    have h3 : ¬(a.1 = 0 ∧ a.2 = 0) := fun e => h2 (Prod.ext e.1 e.2)
    change (decide (0 < a.1) || (decide (a.1 = 0) && decide (0 < -a.2))) = false at h1
    simp only [Bool.or_eq_false_iff, Bool.and_eq_false_iff, decide_eq_false_iff_not] at h1
    unfold rgtP
    simp only [negP]
    omega
  · unfold SortP
    rw [List.pairwise_map]
    exact sB.imp fun {a b} h => by rw [qua_crs] at h; rwa [crs_neg]
  · have h1 := ok_crs (ht ((rotL l k).length - 1) (by omega))
    unfold nxt at h1
    rw [show (rotL l k).length - 1 + 1 = (rotL l k).length by omega, Nat.mod_self] at h1
    rw [e, atP_app, atP_app, List.length_append, if_neg (by omega), if_pos la] at h1
    rwa [show A.length + B.length - 1 - A.length = B.length - 1 by omega] at h1
  · have h1 := ok_crs (ht (A.length - 1) (by omega))
    unfold nxt at h1
    rw [Nat.mod_eq_of_lt (by omega), e, atP_app, atP_app, if_pos (by omega), if_neg (by omega)] at h1
    rwa [show A.length - 1 + 1 - A.length = 0 by omega] at h1
  · rw [← e, area_rot h.closed k hk, ← areaP_ar h.closed]
    exact h.area_pos hc
/-- Area and rim tell the number of points inside. -/
theorem IsPath.pick {l : List Pt} (h : IsPath l) (hc : convB l = true) : (allPt l : Int) = inPt l := by
  have h0 : 0 < l.length := by have := h.lo; omega
  obtain ⟨k, A, B, hk, e, T⟩ := h.chains hc
  have hin : ∀ q, lftB l q = true ↔ lefC q (cor l k) (A ++ B) := fun q => by rw [ins_lef h.closed hk h0, e]
  have hbo := h.bd72 hk
  have hpre : addP (cor l k) (tot A) = cor l ((k + A.length) % l.length) := by
    rw [← cor_rot h.closed hk h0 A.length (by
      have := congrArg List.length e
      rw [rot_len, List.length_append] at this; omega), e]
    congr 1
    unfold cor
    rw [List.take_left]
  have hbe := h.bd72 (k := (k + A.length) % l.length) (Nat.le_of_lt (Nat.mod_lt _ h0))
  rw [← hpre] at hbe
  simp only [addP] at hbe
  have hw := T.wide
  obtain ⟨o, eo⟩ : ∃ o, o = cor l k := ⟨_, rfl⟩
  rw [← eo] at hin hbo hbe
  obtain ⟨K1, hK1⟩ := bound_ex (fun i => loC (o.1 + 1 + (i : Nat)) o A) ((tot A).1 - 1).toNat
  obtain ⟨K2, hK2⟩ := bound_ex (fun i => hiC (o.1 + 1 + (i : Nat)) o A B) ((tot A).1 - 1).toNat
  obtain ⟨K, hK⟩ : ∃ K, K = K1 + K2 + 100 := ⟨_, rfl⟩
  have g1 : gridN (insF l) (-72) (-(K : Int)) (2 * K) 145 = allPt l := gridN_box (by omega) (by omega) (by omega) (by omega) fun x y hf => by
    have := ins_box h x y hf
    have := h.box_bd (Nat.le_refl _)
    omega
  have g2 : gridN (insF l) (-72) (-(K : Int)) (2 * K) 145 = gridN (insF l) (o.1 + 1) (-(K : Int)) (2 * K) ((tot A).1 - 1).toNat := gridN_box (by omega) (by omega) (by omega) (by omega) fun x y hf => by
    have h1 := ins_box h x y hf
    have h2 := h.box_bd (Nat.le_refl _)
    have h3 := (hin (x, y)).1 hf
    have h4 := T.left h3
    have h5 := T.right h3
    dsimp only at h4 h5
    omega
  have g3 : (gridN (insF l) (o.1 + 1) (-(K : Int)) (2 * K) ((tot A).1 - 1).toNat : Int) = sumF (fun i => hiC (o.1 + 1 + (i : Nat)) o A B - loC (o.1 + 1 + (i : Nat)) o A - 1) ((tot A).1 - 1).toNat := gridN_sum fun i hi => by
    have k1 := hK1 i hi
    have k2 := hK2 i hi
    have hx1 : o.1 < o.1 + 1 + (i : Nat) := by omega
    have hx2 : o.1 + 1 + (i : Nat) < o.1 + (tot A).1 := by omega
    refine numN_iv (y0 := -(K : Int)) (a := loC (o.1 + 1 + (i : Nat)) o A) (b := hiC (o.1 + 1 + (i : Nat)) o A B) (by omega) (by omega) (T.strict hx1 hx2) fun j => ?_
    rw [← T.col hx1 hx2]
    exact hin _
  have hs := T.sum o
  have hr : gS (A ++ B) = rimP l := by
    rw [← e, ← rim_perm (show (rotL l k).Perm l from by
      unfold rotL
      conv => rhs; rw [← List.take_append_drop k l]
      exact List.perm_append_comm), rimP_sum]
    rfl
  have ha : arP (0, 0) (A ++ B) = areaP l := by rw [← e, area_rot h.closed k hk, areaP_ar h.closed]
  rw [hr, ha, ← g3, ← g2, g1] at hs
  unfold inPt
  omega
end Go.Proofs.Ythpgenkdiokpeaa
