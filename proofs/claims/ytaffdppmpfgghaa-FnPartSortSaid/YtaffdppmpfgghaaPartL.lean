/- Pure facts of parting: the model's lists, the first one of most. Nothing of the program. -/
import Derived.Test.YtaffdppmpfgghaaPartR
namespace Go.Proofs.Ytaffdppmpfgghaa

/-- A three can't take one more place. -/
def badP (Q : Tri → Bool) (l : List Int) (s : Int) : Bool :=
  ((ofP l s).length == 3) || (((ofP l s).length == 2) && !Q ((ofP l s).getD 0 0, (ofP l s).getD 1 0, l.length))
def allThree (l : List Int) (M : Nat) : Bool := (List.range M).all fun (s : Nat) => (ofP l (s : Int)).length == 3
def lisF (rec : List Int → Nat → List (List Int)) (Q : Tri → Bool) (l : List Int) (M : Nat) : Nat → List (List Int)
  | 0 => rec (l ++ [-1]) M
  | c + 1 => lisF rec Q l M c ++ if badP Q l c = true then [] else rec (l ++ [(c : Int)]) (max M (c + 1))
/-- The model's lists: those that begin so, so many places left. -/
def lisP (Q : Tri → Bool) : Nat → List Int → Nat → List (List Int)
  | 0, l, M => if allThree l M = true then [l] else []
  | r + 1, l, M => lisF (lisP Q r) Q l M (M + 1)
theorem lisF_mem {rec : List Int → Nat → List (List Int)} {Q : Tri → Bool} {l l' : List Int} {M : Nat} : ∀ c, l' ∈ lisF rec Q l M c ↔ l' ∈ rec (l ++ [-1]) M ∨ ∃ s, s < c ∧ badP Q l s = false ∧ l' ∈ rec (l ++ [(s : Int)]) (max M (s + 1))
  | 0 => by simp [lisF]
  | c + 1 => by
    rw [lisF, List.mem_append, lisF_mem c]
    constructor
    · rintro ((h | ⟨s, h1, h2, h3⟩) | h)
      · exact .inl h
      · exact .inr ⟨s, by omega, h2, h3⟩
      · by_cases hb : badP Q l c = true
        · rw [if_pos hb] at h; simp at h
        · rw [if_neg hb] at h
          rw [Bool.not_eq_true] at hb
          exact .inr ⟨c, by omega, hb, h⟩
    · rintro (h | ⟨s, h1, h2, h3⟩)
      · exact .inl (.inl h)
      · by_cases e : s = c
        · subst e
          refine .inr ?_
          rw [if_neg (by rw [h2]; exact Bool.false_ne_true)]
          exact h3
        · exact .inl (.inr ⟨s, by omega, h2, h3⟩)
/-- A beginning of part lists. -/
structure GP (Q : Tri → Bool) (l : List Int) (M : Nat) : Prop where
  rng : ∀ p, p < l.length → -1 ≤ l.getD p 0 ∧ l.getD p 0 < M
  num : ∀ q, q < l.length → ∀ s : Nat, (s : Int) < l.getD q 0 → ∃ p, p < q ∧ l.getD p 0 = s
  few : ∀ s : Nat, s < M → (ofP l s).length ≤ 3
  ful : ∀ s : Nat, s < M → ∀ t : Tri, ofP l s = [t.1, t.2.1, t.2.2] → Q t = true
theorem GP.nil (Q : Tri → Bool) : GP Q [] 0 := ⟨fun p hp => absurd hp (by simp), fun q hq => absurd hq (by simp), fun s hs => absurd hs (by omega), fun s hs => absurd hs (by omega)⟩
theorem get_snoc (l : List Int) (x : Int) (p : Nat) : (l ++ [x]).getD p 0 = if p < l.length then l.getD p 0 else if p = l.length then x else 0 := by
  by_cases h : p < l.length
  · rw [if_pos h, getD_app_lt h]
  · rw [if_neg h]
    by_cases e : p = l.length
    · subst e; rw [if_pos rfl, getD_app_at]
    · rw [if_neg e, List.getD_eq_getElem?_getD, List.getElem?_eq_none (by simp; omega)]; rfl
theorem GP.none {Q : Tri → Bool} {l : List Int} {M : Nat} (h : GP Q l M) : GP Q (l ++ [-1]) M := by
  have ho : ∀ s : Nat, ofP (l ++ [-1]) (s : Int) = ofP l s := fun s => by rw [ofP_app, if_neg (by omega), List.append_nil]
  refine ⟨fun p hp => ?_, fun q hq s hs => ?_, fun s hs => by rw [ho]; exact h.few s hs, fun s hs t ht => h.ful s hs t (by rw [← ho]; exact ht)⟩
  · rw [get_snoc]
    rw [List.length_append, List.length_singleton] at hp
    split
    · exact h.rng p (by assumption)
    · rw [if_pos (by omega)]; omega
  · rw [get_snoc] at hs
    split at hs
    · rename_i hlt
      obtain ⟨p, hp, hp2⟩ := h.num q hlt s hs
      exact ⟨p, hp, by rw [getD_app_lt (by omega)]; exact hp2⟩
    · split at hs <;> omega
theorem GP.more {Q : Tri → Bool} {l : List Int} {M : Nat} (h : GP Q l M) (has : ∀ s : Nat, s < M → ∃ p, p < l.length ∧ l.getD p 0 = s) {x : Nat} (hx : x ≤ M) (hb : badP Q l x = false) : GP Q (l ++ [(x : Int)]) (max M (x + 1)) := by
  have hM : ∀ s : Nat, s < max M (x + 1) → s ≠ x → s < M := fun s h1 h2 => by omega
  have hbad : (ofP l (x : Int)).length ≠ 3 ∧ ((ofP l (x : Int)).length = 2 → Q ((ofP l (x : Int)).getD 0 0, (ofP l (x : Int)).getD 1 0, l.length) = true) := by
    unfold badP at hb
    rw [Bool.or_eq_false_iff, beq_eq_false_iff_ne] at hb
    refine ⟨hb.1, fun h2 => ?_⟩
    have := hb.2
    rw [h2] at this
    simpa using this
  have ho : ∀ s : Nat, s ≠ x → ofP (l ++ [(x : Int)]) (s : Int) = ofP l s := fun s hs => by rw [ofP_app, if_neg (by omega), List.append_nil]
  have hox : ofP (l ++ [(x : Int)]) (x : Int) = ofP l x ++ [l.length] := by rw [ofP_app, if_pos rfl]
  have hx3 : (ofP l (x : Int)).length ≤ 2 := by
    by_cases e : x = M
    · have : ofP l (x : Int) = [] := by
        rcases hL : ofP l (x : Int) with _ | ⟨p, t⟩
        · rfl
        · exfalso
          have hp : p ∈ ofP l (x : Int) := by rw [hL]; simp
          obtain ⟨h1, h2⟩ := ofP_mem.1 hp
          have := h.rng p h1
          omega
      rw [this]; simp
    · have := h.few x (by omega)
      have := hbad.1
      omega
  refine ⟨fun p hp => ?_, fun q hq s hs => ?_, fun s hs => ?_, fun s hs t ht => ?_⟩
  · rw [get_snoc]
    split
    · have := h.rng p (by assumption)
      omega
    · split <;> omega
  · rw [get_snoc] at hs
    split at hs
    · rename_i hlt
      obtain ⟨p, hp, hp2⟩ := h.num q hlt s hs
      exact ⟨p, hp, by rw [getD_app_lt (by omega)]; exact hp2⟩
    · split at hs
      · rename_i hq2
        obtain ⟨p, hp, hp2⟩ := has s (by omega)
        exact ⟨p, by omega, by rw [getD_app_lt (by omega)]; exact hp2⟩
      · simp at hq; omega
  · by_cases e : s = x
    · rw [e, hox, List.length_append, List.length_singleton]; omega
    · rw [ho s e]; exact h.few s (hM s hs e)
  · by_cases e : s = x
    · rw [e, hox] at ht
      have h2 : (ofP l (x : Int)).length = 2 := by
        have := congrArg List.length ht
        simp at this
        omega
      have h3 := hbad.2 h2
      match hL : ofP l (x : Int), h2 with
      | [a, b], _ =>
        rw [hL] at ht h3
        simp only [List.cons_append, List.nil_append, List.cons.injEq, and_true] at ht
        obtain ⟨e1, e2, e3⟩ := ht
        have : t = (a, b, l.length) := by rw [e1, e2, e3]
        rw [this]
        simpa using h3
    · rw [ho s e] at ht
      exact h.ful s (hM s hs e) t ht
theorem allThree_iff {l : List Int} {M : Nat} : allThree l M = true ↔ ∀ s : Nat, s < M → (ofP l s).length = 3 := by
  unfold allThree
  rw [List.all_eq_true]
  constructor
  · intro h s hs; simpa using h s (List.mem_range.2 hs)
  · intro h s hs; simpa using h s (List.mem_range.1 hs)
theorem GP.pl {Q : Tri → Bool} {l : List Int} {M : Nat} (h : GP Q l M) (h3 : allThree l M = true) : PL Q l.length l M := by
  rw [allThree_iff] at h3
  refine ⟨rfl, h.rng, h.num, fun s hs => ?_⟩
  have := h3 s hs
  match hL : ofP l (s : Int), this with
  | [a, b, c], _ => exact ⟨(a, b, c), rfl, h.ful s hs (a, b, c) hL⟩
theorem ofP_len_mono (l e : List Int) (s : Int) : ∃ r, ofP (l ++ e) s = ofP l s ++ r := by
  induction e generalizing l with
  | nil => exact ⟨[], by simp⟩
  | cons x e ih =>
    obtain ⟨r, hr⟩ := ih (l ++ [x])
    rw [List.append_assoc] at hr
    exact ⟨_, by rw [show l ++ x :: e = l ++ ([x] ++ e) by simp, hr, ofP_app, List.append_assoc]⟩
theorem lis_mem {Q : Tri → Bool} : ∀ (r : Nat) (l : List Int) (M : Nat), GP Q l M → (∀ s : Nat, s < M → ∃ p, p < l.length ∧ l.getD p 0 = s) → ∀ l', l' ∈ lisP Q r l M ↔ ∃ e, l' = l ++ e ∧ e.length = r ∧ ∃ M', PL Q (l.length + r) l' M'
  | 0, l, M, hG, has, l' => by
    rw [lisP]
    constructor
    · intro h
      by_cases h3 : allThree l M = true
      · rw [if_pos h3, List.mem_singleton] at h
        subst h
        exact ⟨[], by simp, rfl, M, hG.pl h3⟩
      · rw [if_neg h3] at h; simp at h
    · rintro ⟨e, rfl, he, M', hp⟩
      obtain rfl := List.eq_nil_of_length_eq_zero he
      rw [List.append_nil] at hp ⊢
      rw [if_pos, List.mem_singleton]
      rw [allThree_iff]
      intro s hs
      obtain ⟨p, hp1, hp2⟩ := has s hs
      have := (hp.rng p (by omega)).2
      obtain ⟨t, ht, _⟩ := hp.thr s (by omega)
      rw [ht]; rfl
  | r + 1, l, M, hG, has, l' => by
    rw [lisP, lisF_mem]
    have has1 : ∀ x : Int, ∀ s : Nat, s < M → ∃ p, p < (l ++ [x]).length ∧ (l ++ [x]).getD p 0 = s := fun x s hs => by
      obtain ⟨p, h1, h2⟩ := has s hs
      exact ⟨p, by simp; omega, by rw [getD_app_lt h1]; exact h2⟩
    have has2 : ∀ x s : Nat, s < max M (x + 1) → x ≤ M → ∃ p, p < (l ++ [(x : Int)]).length ∧ (l ++ [(x : Int)]).getD p 0 = s := fun x s hs hx => by
      by_cases e : s = x
      · exact ⟨l.length, by simp, by rw [getD_app_at, e]⟩
      · exact has1 _ s (by omega)
    have hsum : ∀ x : Int, (l ++ [x]).length + r = l.length + (r + 1) := fun x => by simp; omega
    constructor
    · rintro (h | ⟨s, h1, h2, h3⟩)
      · obtain ⟨e, he, hl, hM⟩ := (lis_mem r _ M hG.none (has1 _) l').1 h
        rw [hsum] at hM
        exact ⟨-1 :: e, by rw [he]; simp, by simp [hl], hM⟩
      · obtain ⟨e, he, hl, hM⟩ := (lis_mem r _ _ (hG.more has (by omega) h2) (fun u hu => has2 s u hu (by omega)) l').1 h3
        rw [hsum] at hM
        exact ⟨(s : Int) :: e, by rw [he]; simp, by simp [hl], hM⟩
    · rintro ⟨e, rfl, he, M', hp⟩
      match e, he with
      | x :: e, he =>
        have hx : (l ++ x :: e).getD l.length 0 = x := getD_app_at l x e
        have hr := hp.rng l.length (by omega)
        rw [hx] at hr
        have happ : l ++ x :: e = (l ++ [x]) ++ e := by simp
        have hel : e.length = r := by simpa using he
        rcases Int.lt_or_le x 0 with g | g
        · obtain rfl : x = -1 := by omega
          exact .inl ((lis_mem r _ M hG.none (has1 _) _).2 ⟨e, happ, hel, M', by rw [hsum]; exact hp⟩)
        · obtain ⟨s, rfl⟩ : ∃ s : Nat, x = s := ⟨x.toNat, by omega⟩
          have hsM : s ≤ M := by
            rcases Nat.lt_or_ge M s with g2 | g2
            · exfalso
              obtain ⟨p, hp1, hp2⟩ := hp.num l.length (by omega) M (by rw [hx]; omega)
              rw [getD_app_lt hp1] at hp2
              have := (hG.rng p hp1).2
              omega
            · exact g2
          obtain ⟨t, ht, hQ⟩ := hp.thr s (by omega)
          obtain ⟨u, hu⟩ := ofP_len_mono (l ++ [(s : Int)]) e (s : Int)
          rw [← happ, ht, ofP_app, if_pos rfl] at hu
          have hb : badP Q l s = false := by
            have hlen := congrArg List.length hu
            simp only [List.length_append, List.length_cons, List.length_nil] at hlen
            unfold badP
            rw [Bool.or_eq_false_iff, beq_eq_false_iff_ne]
            refine ⟨by omega, ?_⟩
            by_cases h2 : (ofP l (s : Int)).length = 2
            · match hL : ofP l (s : Int), h2 with
              | [a, b], _ =>
                rw [hL] at hu
                have : u = [] := by
                  rw [hL] at hlen
                  simp at hlen
                  exact hlen
                subst this
                simp only [List.cons_append, List.nil_append, List.append_nil, List.cons.injEq, and_true] at hu
                obtain ⟨e1, e2, e3⟩ := hu
                have e4 : t = (a, b, l.length) := by rw [← e1, ← e2, ← e3]
                rw [e4] at hQ
                simp [hQ]
            · rw [beq_eq_false_iff_ne.2 h2]; rfl
          exact .inr ⟨s, by omega, hb, (lis_mem r _ _ (hG.more has hsM hb) (fun u hu => has2 s u hu hsM) _).2 ⟨e, happ, hel, M', by rw [hsum]; exact hp⟩⟩
/-- All part lists, as the model makes them. -/
def allPL (Q : Tri → Bool) (n : Nat) : List (List Int) := lisP Q n [] 0
theorem allPL_mem {Q : Tri → Bool} {n : Nat} {l : List Int} : l ∈ allPL Q n ↔ l ∈ visP 0 (noP n) (triP Q n) := by
  unfold allPL
  rw [lis_mem n [] 0 (GP.nil Q) (fun s hs => absurd hs (by omega)) l, vis_iff]
  constructor
  · rintro ⟨e, rfl, _, M, h⟩
    exact ⟨M, by simpa using h⟩
  · rintro ⟨M, h⟩
    exact ⟨l, by simp, h.len, M, by simpa using h⟩

/-! The order of lists. -/
theorem lessB_cons (x : Int) (a b : List Int) : lessB (x :: a) (x :: b) = lessB a b := by rw [lessB, if_pos rfl]
theorem lessB_app (l a b : List Int) : lessB (l ++ a) (l ++ b) = lessB a b := by
  induction l with
  | nil => rfl
  | cons x l ih => rw [List.cons_append, List.cons_append, lessB_cons, ih]
theorem lessB_head {x y : Int} (h : x < y) (a b : List Int) : lessB (x :: a) (y :: b) = true := by
  rw [lessB, if_neg (by omega)]; simpa using h
theorem lessB_irr : ∀ a : List Int, lessB a a = false
  | [] => rfl
  | x :: a => by rw [lessB_cons]; exact lessB_irr a
theorem lessB_asymm : ∀ a b : List Int, lessB a b = true → lessB b a = false
  | [], b, h => by simp [lessB] at h
  | x :: a, [], h => by simp [lessB] at h
  | x :: a, y :: b, h => by
    rw [lessB] at h ⊢
    by_cases e : x = y
    · subst e
      rw [if_pos rfl] at h ⊢
      exact lessB_asymm a b h
    · rw [if_neg e] at h
      rw [if_neg fun g => e g.symm]
      simp at h ⊢; omega
theorem lessB_trans : ∀ a b c : List Int, lessB a b = true → lessB b c = true → lessB a c = true
  | [], b, c, h, _ => by simp [lessB] at h
  | x :: a, [], c, h, _ => by simp [lessB] at h
  | x :: a, y :: b, [], _, h => by simp [lessB] at h
  | x :: a, y :: b, z :: c, h1, h2 => by
    rw [lessB] at h1 h2 ⊢
    by_cases e1 : x = y
    · subst e1
      rw [if_pos rfl] at h1
      by_cases e2 : x = z
      · rw [if_pos e2] at h2 ⊢; exact lessB_trans a b c h1 h2
      · rw [if_neg e2] at h2 ⊢; exact h2
    · rw [if_neg e1] at h1
      by_cases e2 : y = z
      · subst e2; rw [if_neg e1]; exact h1
      · rw [if_neg e2] at h2
        simp at h1 h2
        rw [if_neg (by omega)]; simp; omega
theorem lessB_total : ∀ a b : List Int, a.length = b.length → a ≠ b → lessB a b = false → lessB b a = true
  | [], [], _, h, _ => absurd rfl h
  | [], y :: b, h, _, _ => by simp at h
  | x :: a, [], h, _, _ => by simp at h
  | x :: a, y :: b, hl, hne, h => by
    rw [lessB] at h ⊢
    by_cases e : x = y
    · subst e
      rw [if_pos rfl] at h ⊢
      exact lessB_total a b (by simpa using hl) (fun g => hne (by rw [g])) h
    · rw [if_neg e] at h
      rw [if_neg fun g => e g.symm]
      simp at h ⊢; omega
theorem lis_pre {Q : Tri → Bool} : ∀ (r : Nat) (l : List Int) (M : Nat), ∀ l' ∈ lisP Q r l M, ∃ e, l' = l ++ e
  | 0, l, M, l', h => by
    rw [lisP] at h
    by_cases h3 : allThree l M = true
    · rw [if_pos h3, List.mem_singleton] at h; exact ⟨[], by simp [h]⟩
    · rw [if_neg h3] at h; simp at h
  | r + 1, l, M, l', h => by
    rw [lisP, lisF_mem] at h
    rcases h with h | ⟨s, _, _, h⟩
    · obtain ⟨e, he⟩ := lis_pre r _ _ l' h; exact ⟨-1 :: e, by rw [he]; simp⟩
    · obtain ⟨e, he⟩ := lis_pre r _ _ l' h; exact ⟨(s : Int) :: e, by rw [he]; simp⟩
theorem lis_srt {Q : Tri → Bool} : ∀ (r : Nat) (l : List Int) (M : Nat), (lisP Q r l M).Pairwise fun a b => lessB a b = true
  | 0, l, M => by
    rw [lisP]
    split
    · exact List.pairwise_singleton _ _
    · exact List.Pairwise.nil
  | r + 1, l, M => by
    rw [lisP]
    generalize M + 1 = c
    induction c with
    | zero => rw [lisF]; exact lis_srt r _ M
    | succ c ih =>
      rw [lisF, List.pairwise_append]
      refine ⟨ih, ?_, fun a ha b hb => ?_⟩
      · split
        · exact List.Pairwise.nil
        · exact lis_srt r _ _
      · by_cases hbad : badP Q l c = true
        · rw [if_pos hbad] at hb; simp at hb
        · rw [if_neg hbad] at hb
          obtain ⟨e, rfl⟩ := lis_pre r _ _ b hb
          rw [lisF_mem] at ha
          rw [List.append_assoc]
          rcases ha with ha | ⟨s, h1, _, ha⟩
          · obtain ⟨e', rfl⟩ := lis_pre r _ _ a ha
            rw [List.append_assoc, lessB_app]
            exact lessB_head (by omega) _ _
          · obtain ⟨e', rfl⟩ := lis_pre r _ _ a ha
            rw [List.append_assoc, lessB_app]
            exact lessB_head (by omega) _ _
/-- The first one of most threes. -/
def bstL (b : List Int) (L : List (List Int)) : List Int := L.foldl (fun b l => if thrL b < thrL l then l else b) b
theorem bst_is : ∀ (L : List (List Int)) (b : List Int), (b :: L).Pairwise (fun a c => lessB a c = true) →
    bstL b L ∈ b :: L ∧ (∀ l ∈ b :: L, thrL l ≤ thrL (bstL b L)) ∧ ∀ l ∈ b :: L, thrL l = thrL (bstL b L) → l = bstL b L ∨ lessB (bstL b L) l = true
  | [], b, _ => ⟨by simp [bstL], fun l hl => by rw [List.mem_singleton] at hl; rw [hl]; exact Int.le_refl _, fun l hl _ => by rw [List.mem_singleton] at hl; exact .inl hl⟩
  | x :: L, b, h => by
    rw [List.pairwise_cons] at h
    have hx := List.pairwise_cons.1 h.2
    have e : bstL b (x :: L) = bstL (if thrL b < thrL x then x else b) L := rfl
    rw [e]
    by_cases g : thrL b < thrL x
    · rw [if_pos g]
      obtain ⟨h1, h2, h3⟩ := bst_is L x h.2
      refine ⟨by simp at h1 ⊢; exact .inr h1, fun l hl => ?_, fun l hl he => ?_⟩
      · rcases List.mem_cons.1 hl with rfl | hl
        · have := h2 x (by simp); omega
        · exact h2 l hl
      · rcases List.mem_cons.1 hl with rfl | hl
        · have := h2 x (by simp); omega
        · exact h3 l hl he
    · rw [if_neg g]
      obtain ⟨h1, h2, h3⟩ := bst_is L b (List.pairwise_cons.2 ⟨fun l hl => h.1 l (by simp [hl]), hx.2⟩)
      refine ⟨?_, fun l hl => ?_, fun l hl he => ?_⟩
      · rcases List.mem_cons.1 h1 with h1 | h1
        · rw [h1]; simp
        · simp [h1]
      · rcases List.mem_cons.1 hl with rfl | hl
        · exact h2 l (by simp)
        · rcases List.mem_cons.1 hl with rfl | hl
          · have := h2 b (by simp); omega
          · exact h2 l (by simp [hl])
      · rcases List.mem_cons.1 hl with rfl | hl
        · exact h3 l (by simp) he
        · rcases List.mem_cons.1 hl with rfl | hl
          · have hb := h2 b (by simp)
            right
            rcases List.mem_cons.1 h1 with h4 | h4
            · rw [h4]; exact h.1 l (by simp)
            · exfalso
              have hbb := h3 b (by simp) (by omega)
              rcases hbb with hbb | hbb
              · rw [← hbb] at h4
                have := h.1 b (by simp [h4])
                rw [lessB_irr] at this; cases this
              · have := h.1 (bstL b L) (by simp [h4])
                rw [lessB_asymm _ _ this] at hbb; cases hbb
          · exact h3 l (by simp [hl]) he
/-- The model's best one. -/
def bstP (Q : Tri → Bool) (n : Nat) : List Int := bstL ((allPL Q n).headD []) ((allPL Q n).drop 1)
/-- What the program keeps. -/
def fstL9 (most : Int) (b : List Int) (L : List (List Int)) : List Int := L.foldl (fun b l => if thrL l = most ∧ (b.length = 0 ∨ lessB l b = true) then l else b) b
theorem fst9_is (most : Int) {n : Nat} (hn : 1 ≤ n) : ∀ (L : List (List Int)) (b : List Int), (∀ l ∈ L, l.length = n) → (b.length = 0 ∨ (b.length = n ∧ thrL b = most)) →
    ((∃ l ∈ L, thrL l = most) ∨ b.length = n) → (fstL9 most b L).length = n ∧ thrL (fstL9 most b L) = most ∧ (fstL9 most b L ∈ L ∨ fstL9 most b L = b) ∧ (∀ l ∈ L, thrL l = most → l = fstL9 most b L ∨ lessB (fstL9 most b L) l = true) ∧ (b.length = n → b = fstL9 most b L ∨ lessB (fstL9 most b L) b = true)
  | [], b, _, hb, hs => by
    rcases hs with ⟨l, hl, _⟩ | hs
    · simp at hl
    · refine ⟨hs, ?_, .inr rfl, fun l hl => by simp at hl, fun _ => .inl rfl⟩
      rcases hb with hb | hb
      · omega
      · exact hb.2
  | x :: L, b, hL, hb, hs => by
    have e : fstL9 most b (x :: L) = fstL9 most (if thrL x = most ∧ (b.length = 0 ∨ lessB x b = true) then x else b) L := rfl
    rw [e]
    have hLx := hL x (by simp)
    by_cases g : thrL x = most ∧ (b.length = 0 ∨ lessB x b = true)
    · rw [if_pos g]
      obtain ⟨h1, h2, h3, h4, h5⟩ := fst9_is most hn L x (fun l hl => hL l (by simp [hl])) (.inr ⟨hLx, g.1⟩) (.inr hLx)
      refine ⟨h1, h2, ?_, fun l hl he => ?_, fun hbn => ?_⟩
      · rcases h3 with h3 | h3
        · exact .inl (by simp [h3])
        · exact .inl (by rw [h3]; simp)
      · rcases List.mem_cons.1 hl with rfl | hl
        · exact h5 hLx
        · exact h4 l hl he
      · rcases g.2 with g2 | g2
        · omega
        · rcases h5 hLx with h6 | h6
          · rw [← h6]; exact .inr g2
          · exact .inr (lessB_trans _ _ _ h6 g2)
    · rw [if_neg g]
      have hs' : (∃ l ∈ L, thrL l = most) ∨ b.length = n := by
        rcases hs with ⟨l, hl, he⟩ | hs
        · rcases List.mem_cons.1 hl with rfl | hl
          · rcases hb with hb | hb
            · exact absurd ⟨he, .inl hb⟩ g
            · exact .inr hb.1
          · exact .inl ⟨l, hl, he⟩
        · exact .inr hs
      obtain ⟨h1, h2, h3, h4, h5⟩ := fst9_is most hn L b (fun l hl => hL l (by simp [hl])) hb hs'
      refine ⟨h1, h2, ?_, fun l hl he => ?_, h5⟩
      · rcases h3 with h3 | h3
        · exact .inl (by simp [h3])
        · exact .inr h3
      · rcases List.mem_cons.1 hl with rfl | hl
        · have hb0 : b.length ≠ 0 := fun h => g ⟨he, .inl h⟩
          have hbn : b.length = n := by
            rcases hb with hb | hb
            · exact absurd hb hb0
            · exact hb.1
          have hnl : lessB l b = false := by
            cases hc : lessB l b with
            | false => rfl
            | true => exact absurd ⟨he, .inr hc⟩ g
          by_cases ee : l = b
          · rw [ee]; exact h5 hbn
          · have h7 := lessB_total l b (by rw [hLx, hbn]) ee hnl
            rcases h5 hbn with h6 | h6
            · rw [← h6]; exact .inr h7
            · exact .inr (lessB_trans _ _ _ h6 h7)
        · exact h4 l hl he
/-- The first part list of most threes: program and model take the same. -/
def fstP (Q : Tri → Bool) (n : Nat) : List Int := fstL9 (mstP Q n) [] (visP 0 (noP n) (triP Q n))
theorem bstP_mem {Q : Tri → Bool} {n : Nat} : bstP Q n ∈ allPL Q n ∧ (∀ l ∈ allPL Q n, thrL l ≤ thrL (bstP Q n)) ∧ ∀ l ∈ allPL Q n, thrL l = thrL (bstP Q n) → l = bstP Q n ∨ lessB (bstP Q n) l = true := by
  have hne : noP n ∈ allPL Q n := allPL_mem.2 (by simp [visP])
  have hs : (allPL Q n).Pairwise fun a b => lessB a b = true := lis_srt n [] 0
  unfold bstP
  rcases hA : allPL Q n with _ | ⟨b, L⟩
  · rw [hA] at hne; simp at hne
  · rw [hA] at hs
    exact bst_is L b hs
theorem bst_thr {Q : Tri → Bool} {n : Nat} : thrL (bstP Q n) = mstP Q n := by
  obtain ⟨h1, h2, _⟩ := bstP_mem (Q := Q) (n := n)
  have h3 : mstP Q n ≤ thrL (bstP Q n) := (mxR_le _ _).2 ⟨by
    have := h2 (noP n) (allPL_mem.2 (by simp [visP]))
    rw [(noP_pv Q n).pl.threes] at this; exact this, fun l hl => h2 l (allPL_mem.2 hl)⟩
  have h4 : thrL (bstP Q n) ≤ mstP Q n := mxR_ge.2 _ (allPL_mem.1 h1)
  omega
theorem fst_bst {Q : Tri → Bool} {n : Nat} (hn : 1 ≤ n) : fstP Q n = bstP Q n := by
  obtain ⟨h1, h2, h3⟩ := bstP_mem (Q := Q) (n := n)
  have hlen : ∀ l ∈ visP 0 (noP n) (triP Q n), l.length = n := fun l hl => by
    obtain ⟨M, h⟩ := visP_pl hl
    exact h.len
  have hb := allPL_mem.1 h1
  obtain ⟨k1, k2, k3, k4, _⟩ := fst9_is (mstP Q n) hn (visP 0 (noP n) (triP Q n)) [] hlen (.inl rfl) (.inl ⟨_, hb, bst_thr⟩)
  have k5 : fstP Q n ∈ visP 0 (noP n) (triP Q n) := by
    rcases k3 with k3 | k3
    · exact k3
    · exfalso
      rw [k3] at k1
      simp at k1; omega
  have k6 := k4 _ hb bst_thr
  have k7 := h3 _ (allPL_mem.2 k5) (by rw [bst_thr]; exact k2)
  rcases k7 with k7 | k7
  · exact k7
  · rcases k6 with k6 | k6
    · exact k6.symm
    · rw [show fstL9 (mstP Q n) [] (visP 0 (noP n) (triP Q n)) = fstP Q n from rfl, lessB_asymm _ _ k7] at k6
      cases k6
theorem fst_pl {Q : Tri → Bool} {n : Nat} (hn : 1 ≤ n) : ∃ M, PL Q n (fstP Q n) M ∧ mstP Q n = (M : Int) := by
  have h1 := allPL_mem.1 (bstP_mem (Q := Q) (n := n)).1
  rw [← fst_bst hn] at h1
  obtain ⟨M, h⟩ := visP_pl h1
  refine ⟨M, h, ?_⟩
  rw [← bst_thr, ← fst_bst hn, h.threes]
/-- The sum of a list's sticks in threes, as the model takes it. -/
def inL (f : Nat → Int) (l : List Int) : Int := sI l.length fun p => if 0 ≤ l.getD p 0 then f p else 0
theorem PL.inL {Q : Tri → Bool} {n M : Nat} {l : List Int} (h : PL Q n l M) (f : Nat → Int) : rndL f n l = inL f l := by
  have : sI n f = Go.Proofs.Ytaffdppmpfgghaa.inL f l + sumW f l (-1) := by
    unfold Go.Proofs.Ytaffdppmpfgghaa.inL sumW
    rw [h.len, ← sI_add]
    refine sI_ext n fun p hp => ?_
    have := h.rng p hp
    by_cases g : 0 ≤ l.getD p 0
    · rw [if_pos g, if_neg (by omega)]; omega
    · rw [if_neg g, if_pos (by omega)]; omega
  unfold rndL
  omega
theorem rnd_all {Q : Tri → Bool} {f : Nat → Int} {n : Nat} : rndP Q f n = mxR (inL f) (allPL Q n) 0 := by
  refine mxR_eq (fun l => allPL_mem.symm) (fun l hl => ?_) 0
  obtain ⟨M, h⟩ := visP_pl hl
  exact h.inL f
end Go.Proofs.Ytaffdppmpfgghaa
