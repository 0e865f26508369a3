/- Pure facts of chapter 7: all orders of steps, each once. -/
import Derived.Test.YtkjhkcnmhakfcaaOrdP
namespace Go.Proofs.Ytkjhkcnmhakfcaa

/-! Each different step once. -/
def dd : List Pt → List Pt
  | [] => []
  | a :: t => if a ∈ t then dd t else a :: dd t
theorem mem_dd {x : Pt} : ∀ {l : List Pt}, x ∈ dd l ↔ x ∈ l
  | [] => Iff.rfl
  | a :: t => by
    unfold dd
    split
    · rename_i h
      rw [mem_dd (l := t), List.mem_cons]
      exact ⟨.inr, fun h' => h'.elim (fun e => by rw [e]; exact h) id⟩
    · rw [List.mem_cons, List.mem_cons, mem_dd (l := t)]
theorem nodup_dd : ∀ l : List Pt, (dd l).Nodup
  | [] => List.nodup_nil
  | a :: t => by
    unfold dd
    split
    · exact nodup_dd t
    · rename_i h
      exact List.nodup_cons.2 ⟨fun h' => h (mem_dd.1 h'), nodup_dd t⟩
theorem same_perm {A B : List Pt} (hA : A.Nodup) (hB : B.Nodup) (h : ∀ x, x ∈ A ↔ x ∈ B) : A.Perm B := by
  rw [List.perm_iff_count]
  intro x
  rw [hA.count, hB.count]
  simp only [h x]
theorem sum_perm {f : Pt → Nat} {A B : List Pt} (h : A.Perm B) : (A.map f).sum = (B.map f).sum := by
  induction h with
  | nil => rfl
  | cons x _ ih => simp only [List.map_cons, List.sum_cons, ih]
  | swap x y t => simp only [List.map_cons, List.sum_cons]; omega
  | trans _ _ h1 h2 => exact h1.trans h2
theorem sum_on {f g : Pt → Nat} : ∀ {A : List Pt}, (∀ x ∈ A, f x = g x) → (A.map f).sum = (A.map g).sum
  | [], _ => rfl
  | x :: t, h => by
    simp only [List.map_cons, List.sum_cons]
    rw [h x (by simp), sum_on (A := t) fun y hy => h y (by simp [hy])]
theorem sum_scale {f : Pt → Nat} (c : Nat) : ∀ {A : List Pt}, (A.map fun x => f x * c).sum = (A.map f).sum * c
  | [] => by simp
  | x :: t => by simp only [List.map_cons, List.sum_cons]; rw [sum_scale c (A := t), Nat.add_mul]

/-- The number of different orders. -/
def nD : Nat → List Pt → Nat
  | 0, _ => 1
  | m + 1, l => ((dd l).map fun x => nD m (l.erase x)).sum
theorem nD_perm : ∀ (m : Nat) {l l' : List Pt}, l.Perm l' → nD m l = nD m l'
  | 0, _, _, _ => rfl
  | m + 1, l, l', h => by
    unfold nD
    rw [sum_perm (same_perm (nodup_dd l) (nodup_dd l') fun x => by rw [mem_dd, mem_dd, h.mem_iff])]
    exact sum_on fun x _ => nD_perm m (h.erase x)
theorem nD_split (m : Nat) (x : Pt) (l : List Pt) : nD (m + 1) (x :: l) = nD m l + (((dd l).filter fun y => decide (y ≠ x)).map fun y => nD m (x :: l.erase y)).sum := by
  have hp : (dd (x :: l)).Perm (x :: (dd l).filter fun y => decide (y ≠ x)) := by
    refine same_perm (nodup_dd _) (List.nodup_cons.2 ⟨by simp, (nodup_dd l).filter _⟩) fun y => ?_
    rw [mem_dd, List.mem_cons, List.mem_cons, List.mem_filter, mem_dd]
    by_cases e : y = x
    · simp [e]
    · simp [e]
  show ((dd (x :: l)).map fun y => nD m ((x :: l).erase y)).sum = _
  rw [sum_perm hp, List.map_cons, List.sum_cons, List.erase_cons_head]
  congr 1
  refine sum_on fun y hy => ?_
  have hne : y ≠ x := by have := (List.mem_filter.1 hy).2; simpa using this
  rw [List.erase_cons_tail (by simpa using fun e => hne e.symm)]
theorem nD_some (m : Nat) (x : Pt) (l : List Pt) : nD (m + 1) l = (if x ∈ l then nD m (l.erase x) else 0) + (((dd l).filter fun y => decide (y ≠ x)).map fun y => nD m (l.erase y)).sum := by
  show ((dd l).map fun y => nD m (l.erase y)).sum = _
  by_cases hx : x ∈ l
  · have hp : (dd l).Perm (x :: (dd l).filter fun y => decide (y ≠ x)) := by
      refine same_perm (nodup_dd _) (List.nodup_cons.2 ⟨by simp, (nodup_dd l).filter _⟩) fun y => ?_
      rw [mem_dd, List.mem_cons, List.mem_filter, mem_dd]
      by_cases e : y = x
      · simp [e, hx]
      · simp [e]
    rw [sum_perm hp, List.map_cons, List.sum_cons, if_pos hx]
  · have he : ((dd l).filter fun y => decide (y ≠ x)) = dd l := List.filter_eq_self.2 fun y hy => by
      have : y ≠ x := fun e => hx (by rw [← e]; exact mem_dd.1 hy)
      simpa using this
    rw [he, if_neg hx, Nat.zero_add]
theorem nD_step : ∀ (m : Nat) (l : List Pt) (x : Pt), l.length = m → nD (m + 1) (x :: l) * (l.count x + 1) = nD m l * (m + 1)
  | 0, l, x, h => by
    have : l = [] := List.eq_nil_of_length_eq_zero h
    subst this
    simp [nD, dd]
  | k + 1, l, x, h => by
    rw [nD_split, Nat.add_mul, ← sum_scale]
    have e1 : ((((dd l).filter fun y => decide (y ≠ x)).map fun y => nD (k + 1) (x :: l.erase y) * (l.count x + 1)).sum) = (((dd l).filter fun y => decide (y ≠ x)).map fun y => nD k (l.erase y)).sum * (k + 1) := by
      rw [← sum_scale]
      refine sum_on fun y hy => ?_
      have hy' := List.mem_filter.1 hy
      have hne : y ≠ x := by simpa using hy'.2
      have hm : y ∈ l := mem_dd.1 hy'.1
      have hl : (l.erase y).length = k := by rw [List.length_erase_of_mem hm, h]; rfl
      have := nD_step k (l.erase y) x hl
      rwa [List.count_erase_of_ne hne.symm] at this
    rw [e1]
    have e2 := nD_some k x l
    by_cases hx : x ∈ l
    · rw [if_pos hx] at e2
      have hl : (l.erase x).length = k := by rw [List.length_erase_of_mem hx, h]; rfl
      have e3 := nD_step k (l.erase x) x hl
      have hc : 0 < l.count x := List.count_pos_iff.2 hx
      rw [List.count_erase_self, show l.count x - 1 + 1 = l.count x by omega, ← nD_perm (k + 1) (List.perm_cons_erase hx)] at e3
      have e4 : nD (k + 1) l * (k + 1) = nD k (l.erase x) * (k + 1) + ((((dd l).filter fun y => decide (y ≠ x)).map fun y => nD k (l.erase y)).sum) * (k + 1) := by rw [← Nat.add_mul, ← e2]
      rw [Nat.mul_add (nD (k + 1) l) (k + 1) 1, e4, Nat.mul_add (nD (k + 1) l) _ 1, e3]
      omega
    · rw [if_neg hx, Nat.zero_add] at e2
      have hc : l.count x = 0 := List.count_eq_zero.2 hx
      rw [hc, ← e2, Nat.mul_add (nD (k + 1) l) (k + 1) 1, Nat.zero_add]
      omega
theorem nD_pos : ∀ (m : Nat) (l : List Pt), l.length = m → 0 < nD m l
  | 0, _, _ => by simp [nD]
  | m + 1, x :: l, h => by
    rw [nD_split]
    have := nD_pos m l (by simpa using h)
    omega
def fac : Nat → Nat
  | 0 => 1
  | n + 1 => fac n * (n + 1)
theorem nD_fac : ∀ (m : Nat) (l : List Pt), l.length = m → nD m l ≤ fac m
  | 0, _, _ => by simp [nD, fac]
  | m + 1, x :: l, h => by
    have h1 := nD_step m l x (by simpa using h)
    have h2 := nD_fac m l (by simpa using h)
    have h3 : nD (m + 1) (x :: l) * 1 ≤ nD (m + 1) (x :: l) * (l.count x + 1) := Nat.mul_le_mul_left _ (by omega)
    have h4 := Nat.mul_le_mul_right (m + 1) h2
    show _ ≤ fac m * (m + 1)
    omega
/-- The model's step: one more of the front. -/
theorem nD_take {l : List Pt} {i : Nat} (h : i < l.length) : nD (i + 1) (l.take (i + 1)) * ((l.take (i + 1)).count (atP l i)) = nD i (l.take i) * (i + 1) := by
  have e : l.take (i + 1) = l.take i ++ [atP l i] := by rw [List.take_succ_eq_append_getElem h, atP_lt h]
  have hp : (l.take i ++ [atP l i]).Perm (atP l i :: l.take i) := List.perm_append_comm
  have := nD_step i (l.take i) (atP l i) (by simp; omega)
  rw [e, nD_perm (i + 1) hp, hp.count_eq, List.count_cons_self]
  exact this
theorem nD_div {l : List Pt} {i : Nat} (h : i < l.length) : (nD i (l.take i) * (i + 1)) / ((l.take (i + 1)).count (atP l i)) = nD (i + 1) (l.take (i + 1)) := by
  rw [← nD_take h]
  refine Nat.mul_div_cancel _ (List.count_pos_iff.2 ?_)
  rw [atP_lt h, List.take_succ_eq_append_getElem h]
  exact List.mem_append_right _ (List.mem_singleton.2 rfl)

/-! The program's way: exchange, go on, exchange back. -/
def swpP (l : List Pt) (i j : Nat) : List Pt := (l.set i (atP l j)).set j (atP l i)
theorem swpP_len (l : List Pt) (i j : Nat) : (swpP l i j).length = l.length := by simp [swpP]
theorem swpP_perm {l : List Pt} {i j : Nat} (hi : i < l.length) (hj : j < l.length) : (swpP l i j).Perm l := by
  unfold swpP
  rw [atP_lt hi, atP_lt hj]
  exact List.set_set_perm hi hj
theorem set_at {l : List Pt} {i j : Nat} {q : Pt} (h : i < l.length) : atP (l.set i q) j = if j = i then q else atP l j := by
  by_cases e : j = i
  · subst e; simp [atP, List.getD_eq_getElem?_getD, h]
  · simp [atP, List.getD_eq_getElem?_getD, e, Ne.symm e]
theorem swpP_at {l : List Pt} {i j k : Nat} (hi : i < l.length) (hj : j < l.length) : atP (swpP l i j) k = if k = j then atP l i else if k = i then atP l j else atP l k := by
  unfold swpP
  rw [set_at (by rw [List.length_set]; exact hj), set_at hi]
theorem list_atP {a b : List Pt} (hl : a.length = b.length) (h : ∀ i, i < a.length → atP a i = atP b i) : a = b := by
  apply List.ext_getElem hl
  intro i h1 h2
  have := h i h1
  rwa [atP_lt h1, atP_lt h2] at this
theorem swpP_back {l : List Pt} {i j : Nat} (hi : i < l.length) (hj : j < l.length) : swpP (swpP l i j) i j = l := by
  refine list_atP (by rw [swpP_len, swpP_len]) fun k hk => ?_
  rw [swpP_at (by rw [swpP_len]; exact hi) (by rw [swpP_len]; exact hj), swpP_at hi hj, swpP_at hi hj, swpP_at hi hj]
  by_cases e1 : k = j
  · subst e1
    rw [if_pos rfl]
    by_cases e2 : i = k
    · subst e2; simp
    · rw [if_neg e2, if_pos rfl]
  · rw [if_neg e1]
    by_cases e2 : k = i
    · subst e2; rw [if_pos rfl, if_pos rfl]
    · rw [if_neg e2, if_neg e1, if_neg e2]
theorem swpP_take {l : List Pt} {i j k : Nat} (hi : i < l.length) (hj : j < l.length) (hki : k ≤ i) (hkj : k ≤ j) : (swpP l i j).take k = l.take k := by
  refine list_atP (by simp [swpP_len]) fun m hm => ?_
  have hmk : m < k := by simp [swpP_len] at hm; omega
  have e : ∀ a : List Pt, atP (a.take k) m = atP a m := fun a => by simp [atP, List.getD_eq_getElem?_getD, hmk]
  rw [e, e, swpP_at hi hj, if_neg (by omega), if_neg (by omega)]
def seenB (o : List Pt) (at_ d : Nat) : Bool := decide (atP o (at_ + d) ∈ (o.drop at_).take d)
def lvStep (r : List Pt → List (List Pt)) (o : List Pt) (at_ : Nat) : Nat → List (List Pt)
  | 0 => []
  | d + 1 => lvStep r o at_ d ++ (if seenB o at_ d then [] else r (swpP o at_ (at_ + d)))
/-- The orders that come with the first steps as they are. -/
def lvP : Nat → List Pt → Nat → List (List Pt)
  | 0, o, _ => [o]
  | m + 1, o, at_ => lvStep (fun o' => lvP m o' (at_ + 1)) o at_ (m + 1)
/-- The first places of steps. -/
def foTo (l : List Pt) : Nat → List Pt
  | 0 => []
  | d + 1 => foTo l d ++ (if atP l d ∈ l.take d then [] else [atP l d])
theorem mem_foTo {l : List Pt} {x : Pt} : ∀ {k : Nat}, k ≤ l.length → (x ∈ foTo l k ↔ x ∈ l.take k)
  | 0, _ => by simp [foTo]
  | k + 1, h => by
    have e : l.take (k + 1) = l.take k ++ [atP l k] := by rw [List.take_succ_eq_append_getElem (by omega), atP_lt (by omega)]
    rw [e, foTo, List.mem_append, List.mem_append, mem_foTo (k := k) (by omega)]
    split
    · rename_i hm
      constructor
      · rintro (h1 | h1)
        · exact .inl h1
        · cases h1
      · rintro (h1 | h1)
        · exact .inl h1
        · exact .inl (by rw [List.mem_singleton.1 h1]; exact hm)
    · exact Iff.rfl
theorem nodup_foTo {l : List Pt} : ∀ {k : Nat}, k ≤ l.length → (foTo l k).Nodup
  | 0, _ => List.nodup_nil
  | k + 1, h => by
    rw [foTo]
    split
    · rw [List.append_nil]; exact nodup_foTo (by omega)
    · rename_i hm
      rw [List.nodup_append]
      refine ⟨nodup_foTo (by omega), by simp, fun a ha b hb e => ?_⟩
      rw [List.mem_singleton.1 hb] at e
      subst e
      exact hm ((mem_foTo (by omega)).1 ha)
theorem drop_atP (o : List Pt) (k d : Nat) : atP (o.drop k) d = atP o (k + d) := by simp [atP, List.getD_eq_getElem?_getD]
theorem swp_rest {o : List Pt} {k d : Nat} (h : k + d < o.length) : ((swpP o k (k + d)).drop (k + 1)).Perm ((o.drop k).erase (atP o (k + d))) := by
  have h1 := swpP_perm (l := o) (i := k) (j := k + d) (by omega) h
  have h2 := swpP_take (l := o) (i := k) (j := k + d) (k := k) (by omega) h (Nat.le_refl _) (by omega)
  have hl := swpP_len o k (k + d)
  have h3 : swpP o k (k + d) = o.take k ++ (atP o (k + d) :: (swpP o k (k + d)).drop (k + 1)) := by
    conv => lhs; rw [← List.take_append_drop k (swpP o k (k + d))]
    rw [h2]
    congr 1
    rw [List.drop_eq_getElem_cons (by omega), ← atP_lt (by omega), swpP_at (by omega) h]
    congr 1
    by_cases e : k = k + d
    · rw [if_pos e, ← e]
    · rw [if_neg e, if_pos rfl]
  rw [h3] at h1
  have h4 : (o.take k ++ (atP o (k + d) :: (swpP o k (k + d)).drop (k + 1))).Perm (o.take k ++ o.drop k) := by rw [List.take_append_drop]; exact h1
  have h5 := ((List.perm_append_left_iff _).1 h4).erase (atP o (k + d))
  rwa [List.erase_cons_head] at h5
theorem lvP_count : ∀ (m : Nat) (o : List Pt) (k : Nat), o.length = k + m → (lvP m o k).length = nD m (o.drop k)
  | 0, _, _, _ => rfl
  | m + 1, o, k, h => by
    have hl : (o.drop k).length = m + 1 := by simp; omega
    have key : ∀ d, d ≤ m + 1 → (lvStep (fun o' => lvP m o' (k + 1)) o k d).length = ((foTo (o.drop k) d).map fun x => nD m ((o.drop k).erase x)).sum := fun d => by
      induction d with
      | zero => intro _; rfl
      | succ d ih =>
        intro hd
        rw [lvStep, List.length_append, ih (by omega), foTo, List.map_append, List.sum_append]
        congr 1
        unfold seenB
        rw [drop_atP]
        by_cases hs : atP o (k + d) ∈ (o.drop k).take d
        · rw [if_pos (by simpa using hs), if_pos hs]; rfl
        · rw [if_neg (by simpa using hs), if_neg hs, lvP_count m _ _ (by rw [swpP_len]; omega), List.map_cons, List.map_nil, List.sum_cons, List.sum_nil, Nat.add_zero]
          exact nD_perm m (swp_rest (by omega))
    rw [lvP, key (m + 1) (Nat.le_refl _), nD]
    refine sum_perm (same_perm (nodup_foTo (by omega)) (nodup_dd _) fun x => ?_)
    rw [mem_foTo (by omega), mem_dd, List.take_of_length_le (by omega)]

theorem lvStep_sub {r : List Pt → List (List Pt)} {o x : List Pt} {k : Nat} : ∀ {d : Nat}, x ∈ lvStep r o k d → ∃ j, j < d ∧ seenB o k j = false ∧ x ∈ r (swpP o k (k + j))
  | 0, h => by cases h
  | d + 1, h => by
    rw [lvStep, List.mem_append] at h
    rcases h with h | h
    · obtain ⟨j, h1, h2⟩ := lvStep_sub h
      exact ⟨j, by omega, h2⟩
    · cases hs : seenB o k d with
      | true => rw [hs] at h; cases h
      | false => rw [hs] at h; exact ⟨d, by omega, hs, h⟩
theorem lvStep_in {r : List Pt → List (List Pt)} {o x : List Pt} {k j : Nat} : ∀ {d : Nat}, j < d → seenB o k j = false → x ∈ r (swpP o k (k + j)) → x ∈ lvStep r o k d
  | 0, h, _, _ => by omega
  | d + 1, h, hs, hx => by
    rw [lvStep, List.mem_append]
    by_cases e : j = d
    · subst e; rw [hs]; exact .inr hx
    · exact .inl (lvStep_in (by omega) hs hx)
theorem lvP_perm : ∀ (m : Nat) (o : List Pt) (k : Nat), o.length = k + m → ∀ x ∈ lvP m o k, x.Perm o
  | 0, o, _, _, x, hx => by rw [lvP, List.mem_singleton] at hx; rw [hx]
  | m + 1, o, k, h, x, hx => by
    obtain ⟨j, hj, _, h2⟩ := lvStep_sub (by rw [lvP] at hx; exact hx)
    exact (lvP_perm m _ _ (by rw [swpP_len]; omega) x h2).trans (swpP_perm (by omega) (by omega))
theorem first_place {l : List Pt} {x : Pt} (h : x ∈ l) : ∃ j, j < l.length ∧ atP l j = x ∧ x ∉ l.take j := by
  induction l with
  | nil => cases h
  | cons a t ih =>
    by_cases e : x = a
    · exact ⟨0, by simp, by simp [atP, e], by simp⟩
    · obtain ⟨j, h1, h2, h3⟩ := ih (by simpa [e] using h)
      exact ⟨j + 1, by simp; omega, by simpa [atP] using h2, by simp [e, h3]⟩
theorem lvP_all : ∀ (m : Nat) (o : List Pt) (k : Nat), o.length = k + m → ∀ x, x.Perm o → x.take k = o.take k → x ∈ lvP m o k
  | 0, o, k, h, x, hp, ht => by
    have hx : x.length = o.length := hp.length_eq
    rw [List.take_of_length_le (by omega), List.take_of_length_le (by omega)] at ht
    simp [lvP, ht]
  | m + 1, o, k, h, x, hp, ht => by
    have hx : x.length = o.length := hp.length_eq
    have hd : (x.drop k).Perm (o.drop k) := by
      have h1 : (x.take k ++ x.drop k).Perm (o.take k ++ o.drop k) := by rw [List.take_append_drop, List.take_append_drop]; exact hp
      rw [ht] at h1
      exact (List.perm_append_left_iff _).1 h1
    have hm : atP x k ∈ o.drop k := by
      rw [← hd.mem_iff, List.drop_eq_getElem_cons (by omega), atP_lt (by omega)]
      exact List.mem_cons_self
    obtain ⟨j, h1, h2, h3⟩ := first_place hm
    have hj : k + j < o.length := by simp at h1; omega
    rw [drop_atP] at h2
    refine lvStep_in (j := j) (by simp at h1; omega) (by unfold seenB; rw [h2]; simpa using h3) ?_
    refine lvP_all m _ _ (by rw [swpP_len]; omega) x (hp.trans (swpP_perm (by omega) hj).symm) ?_
    rw [List.take_succ_eq_append_getElem (by omega), List.take_succ_eq_append_getElem (by rw [swpP_len]; omega), swpP_take (by omega) hj (Nat.le_refl _) (by omega), ht, ← atP_lt (by omega), ← atP_lt (by rw [swpP_len]; omega), swpP_at (by omega) hj]
    congr 2
    by_cases e : k = k + j
    · rw [if_pos e, ← h2, ← e]
    · rw [if_neg e, if_pos rfl, h2]

/-! The greatest area of all orders. -/
def msTo (r : Nat → Int) : Nat → Int
  | 0 => -1000000
  | d + 1 => max (msTo r d) (r d)
/-- The model's way. -/
def msP : Nat → List Pt → List Pt → Int
  | 0, a, _ => areaP a
  | m + 1, a, r => msTo (fun i => msP m (a ++ [atP r i]) (r.eraseIdx i)) (m + 1)
theorem msTo_le {r : Nat → Int} {i : Nat} : ∀ {d : Nat}, i < d → r i ≤ msTo r d
  | 0, h => by omega
  | d + 1, h => by
    rw [msTo]
    by_cases e : i = d
    · subst e; omega
    · have := msTo_le (r := r) (i := i) (d := d) (by omega); omega
theorem msTo_in {r : Nat → Int} : ∀ {d : Nat}, 0 < d → (∀ i, i < d → -1000000 ≤ r i) → ∃ i, i < d ∧ msTo r d = r i
  | 0, h, _ => by omega
  | d + 1, _, hb => by
    rw [msTo]
    by_cases h0 : d = 0
    · subst h0
      exact ⟨0, by omega, by have := hb 0 (by omega); show max (-1000000) (r 0) = r 0; omega⟩
    · obtain ⟨i, h1, h2⟩ := msTo_in (r := r) (d := d) (by omega) (fun i hi => hb i (by omega))
      by_cases hc : r d ≤ msTo r d
      · exact ⟨i, by omega, by rw [← h2]; omega⟩
      · exact ⟨d, by omega, by omega⟩
theorem eraseIdx_split {r : List Pt} {i : Nat} (h : i < r.length) : r.Perm (atP r i :: r.eraseIdx i) := by
  rw [atP_lt h, List.eraseIdx_eq_take_drop_succ]
  conv => lhs; rw [← List.take_append_drop i r, List.drop_eq_getElem_cons h]
  exact List.perm_middle
theorem area_bd {l : List Pt} (h : IsPath l) : -82944 ≤ areaP l ∧ areaP l ≤ 82944 := areaP_part_bd h (Nat.le_refl _)
theorem msP_spec {l : List Pt} (hl : IsPath l) : ∀ (m : Nat) (a r : List Pt), r.length = m → (a ++ r).Perm l → (∀ x, x.Perm r → areaP (a ++ x) ≤ msP m a r) ∧ ∃ x, x.Perm r ∧ msP m a r = areaP (a ++ x)
  | 0, a, r, hr, _ => by
    have : r = [] := List.eq_nil_of_length_eq_zero hr
    subst this
    refine ⟨fun x hx => ?_, [], List.Perm.refl _, by rw [msP, List.append_nil]⟩
    rw [List.Perm.eq_nil hx, List.append_nil, msP]
    exact Int.le_refl _
  | m + 1, a, r, hr, hp => by
    have hi : ∀ i, i < m + 1 → (r.eraseIdx i).length = m ∧ ((a ++ [atP r i]) ++ r.eraseIdx i).Perm l := fun i hi => by
      refine ⟨by rw [List.length_eraseIdx_of_lt (by omega)]; omega, ?_⟩
      refine List.Perm.trans ?_ hp
      rw [List.append_assoc]
      exact (eraseIdx_split (by omega)).symm.append_left a
    constructor
    · intro x hx
      match x, hx with
      | [], hx => have := hx.length_eq; simp at this; omega
      | q :: t, hx =>
        have hm : q ∈ r := hx.mem_iff.1 (by simp)
        obtain ⟨i, h1, h2, _⟩ := first_place hm
        have h3 := (msP_spec hl m (a ++ [atP r i]) (r.eraseIdx i) (hi i (by omega)).1 (hi i (by omega)).2).1 t (by
          have h4 := hx.trans (eraseIdx_split h1)
          rw [h2] at h4
          exact (List.perm_cons q).1 h4)
        rw [h2, List.append_assoc] at h3
        have h5 := msTo_le (r := fun i => msP m (a ++ [atP r i]) (r.eraseIdx i)) (i := i) (d := m + 1) (by omega)
        rw [msP]
        simp only [h2] at h5
        exact Int.le_trans h3 h5
    · have hb : ∀ i, i < m + 1 → -1000000 ≤ msP m (a ++ [atP r i]) (r.eraseIdx i) := fun i h1 => by
        obtain ⟨x, hx, e⟩ := (msP_spec hl m (a ++ [atP r i]) (r.eraseIdx i) (hi i h1).1 (hi i h1).2).2
        rw [e]
        have := area_bd (hl.perm (m := (a ++ [atP r i]) ++ x) ((hx.append_left _).trans (hi i h1).2))
        omega
      obtain ⟨i, h1, h2⟩ := msTo_in (d := m + 1) (by omega) hb
      obtain ⟨x, hx, e⟩ := (msP_spec hl m (a ++ [atP r i]) (r.eraseIdx i) (hi i h1).1 (hi i h1).2).2
      refine ⟨atP r i :: x, (hx.cons _).trans (eraseIdx_split (by omega)).symm, ?_⟩
      rw [msP, h2, e, List.append_assoc]
      rfl
def mxA (s : Int) : List (List Pt) → Int
  | [] => s
  | x :: t => mxA (max s (areaP x)) t
theorem mxA_app (s : Int) : ∀ (a b : List (List Pt)), mxA s (a ++ b) = mxA (mxA s a) b := fun a => by
  induction a generalizing s with
  | nil => intro b; rfl
  | cons x t ih => intro b; exact ih _ b
theorem mxA_le {s : Int} : ∀ {a : List (List Pt)}, s ≤ mxA s a ∧ ∀ x ∈ a, areaP x ≤ mxA s a := fun {a} => by
  induction a generalizing s with
  | nil => exact ⟨Int.le_refl _, fun x hx => by cases hx⟩
  | cons y t ih =>
    have h := ih (s := max s (areaP y))
    refine ⟨by show s ≤ mxA (max s (areaP y)) t; omega, fun x hx => ?_⟩
    show areaP x ≤ mxA (max s (areaP y)) t
    rcases List.mem_cons.1 hx with rfl | hx
    · omega
    · exact h.2 x hx
theorem mxA_in {s : Int} : ∀ {a : List (List Pt)}, mxA s a = s ∨ ∃ x ∈ a, mxA s a = areaP x := fun {a} => by
  induction a generalizing s with
  | nil => exact .inl rfl
  | cons y t ih =>
    rcases ih (s := max s (areaP y)) with h | ⟨x, h1, h2⟩
    · by_cases hc : areaP y ≤ s
      · left; show mxA (max s (areaP y)) t = s; omega
      · right; exact ⟨y, by simp, by show mxA (max s (areaP y)) t = areaP y; omega⟩
    · exact .inr ⟨x, by simp [h1], h2⟩
theorem arP_rev : ∀ l : List Pt, arP (0, 0) l.reverse = -arP (0, 0) l
  | [] => rfl
  | s :: t => by
    rw [List.reverse_cons, arP_last, arP_cons, arP_rev t, tot_perm (List.reverse_perm t), crs_swap (tot t) s]
    omega
theorem most_eq {l : List Pt} (hl : IsPath l) : mxA 0 (lvP l.length l 0) = msP l.length [] l := by
  obtain ⟨h1, x, hx, h2⟩ := msP_spec hl l.length [] l rfl (List.Perm.refl _)
  simp only [List.nil_append] at h1 h2
  have h3 := mxA_le (s := 0) (a := lvP l.length l 0)
  have hrev : (l.reverse).Perm l := List.reverse_perm l
  have h0 : 0 ≤ msP l.length [] l := by
    have ha := h1 l (List.Perm.refl _)
    have hb := h1 _ hrev
    rw [areaP_ar hl.closed] at ha
    rw [areaP_ar (hl.perm hrev).closed, arP_rev] at hb
    omega
  have h4 := h3.2 x (lvP_all l.length l 0 (by omega) x hx (by simp))
  rcases mxA_in (s := 0) (a := lvP l.length l 0) with h5 | ⟨y, hy, h5⟩
  · omega
  · have := h1 y (lvP_perm l.length l 0 (by omega) y hy)
    omega
end Go.Proofs.Ytkjhkcnmhakfcaa
