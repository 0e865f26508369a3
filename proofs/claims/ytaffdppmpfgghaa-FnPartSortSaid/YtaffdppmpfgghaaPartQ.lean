/- Pure facts of parting: part lists, the program's way through them. Nothing of the program. -/
import Derived.Test.YtaffdppmpfgghaaPartP
namespace Go.Proofs.Ytaffdppmpfgghaa

/-- The places that have a number. -/
def ofP (l : List Int) (s : Int) : List Nat := (List.range l.length).filter fun p => l.getD p 0 == s
theorem ofP_mem {l : List Int} {s : Int} {p : Nat} : p ∈ ofP l s ↔ p < l.length ∧ l.getD p 0 = s := by
  unfold ofP
  rw [List.mem_filter, List.mem_range, beq_iff_eq]
theorem ofP_srt (l : List Int) (s : Int) : (ofP l s).Pairwise (· < ·) := List.Pairwise.filter _ List.pairwise_lt_range
theorem eq_of_srt : ∀ {a b : List Nat}, a.Pairwise (· < ·) → b.Pairwise (· < ·) → (∀ p, p ∈ a ↔ p ∈ b) → a = b
  | [], [], _, _, _ => rfl
  | [], y :: b, _, _, h => absurd ((h y).2 (by simp)) (by simp)
  | x :: a, [], _, _, h => absurd ((h x).1 (by simp)) (by simp)
  | x :: a, y :: b, ha, hb, h => by
    rw [List.pairwise_cons] at ha hb
    have e : x = y := by
      have h1 := (h x).1 (by simp)
      have h2 := (h y).2 (by simp)
      rw [List.mem_cons] at h1 h2
      rcases h1 with h1 | h1
      · exact h1
      · rcases h2 with h2 | h2
        · exact h2.symm
        · have := hb.1 x h1; have := ha.1 y h2; omega
    subst e
    rw [eq_of_srt ha.2 hb.2 fun p => ?_]
    have h3 := h p
    rw [List.mem_cons, List.mem_cons] at h3
    constructor
    · intro hp
      rcases h3.1 (.inr hp) with h4 | h4
      · have := ha.1 p hp; omega
      · exact h4
    · intro hp
      rcases h3.2 (.inr hp) with h4 | h4
      · have := hb.1 p hp; omega
      · exact h4
theorem ofP_app (l : List Int) (x s : Int) : ofP (l ++ [x]) s = ofP l s ++ if x = s then [l.length] else [] := by
  unfold ofP
  rw [List.length_append, List.length_singleton, List.range_succ, List.filter_append]
  congr 1
  · refine List.filter_congr fun p hp => ?_
    rw [List.mem_range] at hp
    rw [List.getD_eq_getElem?_getD, List.getD_eq_getElem?_getD, List.getElem?_append_left hp]
  · rw [List.filter_cons, List.filter_nil]
    by_cases h : x = s
    · rw [if_pos h, if_pos]; simp [h]
    · rw [if_neg h, if_neg]; simp [h]
theorem getD_app_lt {l e : List Int} {p : Nat} (h : p < l.length) : (l ++ e).getD p 0 = l.getD p 0 := by
  rw [List.getD_eq_getElem?_getD, List.getD_eq_getElem?_getD, List.getElem?_append_left h]
theorem getD_app_at (l : List Int) (x : Int) (e : List Int) : (l ++ x :: e).getD l.length 0 = x := by
  rw [List.getD_eq_getElem?_getD, List.getElem?_append_right (Nat.le_refl _)]; simp

/-- A part list: M threes, numbered from 0 on by their least places, each as told. -/
structure PL (Q : Tri → Bool) (n : Nat) (l : List Int) (M : Nat) : Prop where
  len : l.length = n
  rng : ∀ p, p < n → -1 ≤ l.getD p 0 ∧ l.getD p 0 < M
  num : ∀ q, q < n → ∀ s : Nat, (s : Int) < l.getD q 0 → ∃ p, p < q ∧ l.getD p 0 = s
  thr : ∀ s : Nat, s < M → ∃ t : Tri, ofP l s = [t.1, t.2.1, t.2.2] ∧ Q t = true
/-- The three with a number. -/
def triOf (l : List Int) (s : Int) : Tri := ((ofP l s).getD 0 0, (ofP l s).getD 1 0, (ofP l s).getD 2 0)
theorem PL.tri {Q : Tri → Bool} {n M : Nat} {l : List Int} (h : PL Q n l M) {s : Nat} (hs : s < M) : ofP l s = [(triOf l s).1, (triOf l s).2.1, (triOf l s).2.2] ∧ Q (triOf l s) = true := by
  obtain ⟨t, h1, h2⟩ := h.thr s hs
  have e : triOf l s = t := by unfold triOf; rw [h1]; rfl
  rw [e]
  exact ⟨h1, h2⟩
theorem inc_of {l : List Int} {s : Int} {t : Tri} (h : ofP l s = [t.1, t.2.1, t.2.2]) : t.1 < t.2.1 ∧ t.2.1 < t.2.2 ∧ t.2.2 < l.length := by
  have h1 := ofP_srt l s
  rw [h] at h1
  simp only [List.pairwise_cons, List.mem_cons, List.not_mem_nil, or_false, forall_eq_or_imp, forall_eq] at h1
  have h2 : t.2.2 ∈ ofP l s := by rw [h]; simp
  exact ⟨h1.1.1, h1.2.1, (ofP_mem.1 h2).1⟩

/-! The program's way. -/
def okT (l : List Int) (t : Tri) : Bool := (l.getD t.1 0 == -1) && (l.getD t.2.1 0 == -1) && (l.getD t.2.2 0 == -1)
def putT (l : List Int) (t : Tri) (m : Nat) : List Int := ((l.set t.1 m).set t.2.1 m).set t.2.2 m
def visT (m : Nat) (l : List Int) : List Tri → List (List Int)
  | [] => []
  | t :: T => (if okT l t = true then putT l t m :: visT (m + 1) (putT l t m) T else []) ++ visT m l T
def visP (m : Nat) (l : List Int) (T : List Tri) : List (List Int) := l :: visT m l T
theorem getD_setI (l : List Int) (k j : Nat) (u : Int) (hk : k < l.length) : (l.set k u).getD j 0 = if j = k then u else l.getD j 0 := by
  by_cases h : j = k
  · subst h; simp [hk]
  · simp [h, Ne.symm h, List.getD_eq_getElem?_getD]
theorem put_len (l : List Int) (t : Tri) (m : Nat) : (putT l t m).length = l.length := by simp [putT]
theorem put_get {l : List Int} {t : Tri} {m : Nat} (h1 : t.1 < l.length) (h2 : t.2.1 < l.length) (h3 : t.2.2 < l.length) (p : Nat) :
    (putT l t m).getD p 0 = if p = t.1 ∨ p = t.2.1 ∨ p = t.2.2 then (m : Int) else l.getD p 0 := by
  unfold putT
  rw [getD_setI _ _ _ _ (by simpa using h3), getD_setI _ _ _ _ (by simpa using h2), getD_setI _ _ _ _ h1]
  by_cases e3 : p = t.2.2
  · rw [if_pos e3, if_pos (.inr (.inr e3))]
  · rw [if_neg e3]
    by_cases e2 : p = t.2.1
    · rw [if_pos e2, if_pos (.inr (.inl e2))]
    · rw [if_neg e2]
      by_cases e1 : p = t.1
      · rw [if_pos e1, if_pos (.inl e1)]
      · rw [if_neg e1, if_neg (by rintro (h | h | h) <;> contradiction)]
theorem okT_true {l : List Int} {t : Tri} (h : okT l t = true) : l.getD t.1 0 = -1 ∧ l.getD t.2.1 0 = -1 ∧ l.getD t.2.2 0 = -1 := by
  unfold okT at h
  simp only [Bool.and_eq_true, beq_iff_eq] at h
  exact ⟨h.1.1, h.1.2, h.2⟩
theorem okT_mk {l : List Int} {t : Tri} (h1 : l.getD t.1 0 = -1) (h2 : l.getD t.2.1 0 = -1) (h3 : l.getD t.2.2 0 = -1) : okT l t = true := by
  unfold okT; simp only [h1, h2, h3]; rfl
/-- What the way knows on its way. -/
structure PV (Q : Tri → Bool) (n : Nat) (l : List Int) (m : Nat) (T : List Tri) : Prop where
  pl : PL Q n l m
  srt : T.Pairwise ltT
  inT : ∀ t ∈ T, t.1 < t.2.1 ∧ t.2.1 < t.2.2 ∧ t.2.2 < n ∧ Q t = true
  beh : ∀ t ∈ T, ∀ s : Nat, s < m → ∃ p, p ≤ t.1 ∧ l.getD p 0 = s
theorem PV.skip {Q : Tri → Bool} {n m : Nat} {l : List Int} {t : Tri} {T : List Tri} (h : PV Q n l m (t :: T)) : PV Q n l m T :=
  ⟨h.pl, (List.pairwise_cons.1 h.srt).2, fun s hs => h.inT s (by simp [hs]), fun s hs => h.beh s (by simp [hs])⟩
theorem ofP_put {l : List Int} {t : Tri} {m : Nat} {k : Int} (h1 : t.1 < t.2.1) (h2 : t.2.1 < t.2.2) (h3 : t.2.2 < l.length) (hok : okT l t = true) (hk : k ≠ m) (hk1 : k ≠ -1) : ofP (putT l t m) k = ofP l k := by
  obtain ⟨o1, o2, o3⟩ := okT_true hok
  refine eq_of_srt (ofP_srt _ _) (ofP_srt _ _) fun p => ?_
  rw [ofP_mem, ofP_mem, put_len, put_get (by omega) (by omega) h3]
  by_cases e : p = t.1 ∨ p = t.2.1 ∨ p = t.2.2
  · rw [if_pos e]
    constructor
    · rintro ⟨_, h⟩; exact absurd h.symm hk
    · rintro ⟨_, h⟩
      exfalso
      rcases e with e | e | e
      · rw [e, o1] at h; exact hk1 h.symm
      · rw [e, o2] at h; exact hk1 h.symm
      · rw [e, o3] at h; exact hk1 h.symm
  · rw [if_neg e]
theorem ofP_putm {l : List Int} {t : Tri} {m : Nat} (h1 : t.1 < t.2.1) (h2 : t.2.1 < t.2.2) (h3 : t.2.2 < l.length) (hno : ∀ p, p < l.length → l.getD p 0 ≠ (m : Int)) : ofP (putT l t m) m = [t.1, t.2.1, t.2.2] := by
  refine eq_of_srt (ofP_srt _ _) (by simp only [List.pairwise_cons, List.mem_cons, List.not_mem_nil, or_false, forall_eq_or_imp, forall_eq]; simp; omega) fun p => ?_
  rw [ofP_mem, put_len, put_get (by omega) (by omega) h3]
  simp only [List.mem_cons, List.not_mem_nil, or_false]
  by_cases e : p = t.1 ∨ p = t.2.1 ∨ p = t.2.2
  · rw [if_pos e]
    exact ⟨fun _ => e, fun _ => ⟨by omega, rfl⟩⟩
  · rw [if_neg e]
    exact ⟨fun h => absurd h.2 (hno p h.1), fun h => absurd h e⟩
theorem PV.put {Q : Tri → Bool} {n m : Nat} {l : List Int} {t : Tri} {T : List Tri} (h : PV Q n l m (t :: T)) (hok : okT l t = true) : PV Q n (putT l t m) (m + 1) T := by
  obtain ⟨h1, h2, h3, hQ⟩ := h.inT t (by simp)
  obtain ⟨o1, o2, o3⟩ := okT_true hok
  have hl := h.pl.len
  have hs := List.pairwise_cons.1 h.srt
  have hg := fun p => put_get (l := l) (t := t) (m := m) (by omega) (by omega) (by omega) p
  -- what has a number below m keeps it
  have hkeep : ∀ p (s : Nat), l.getD p 0 = (s : Int) → (putT l t m).getD p 0 = s := fun p s hp => by
    rw [hg p, if_neg]
    · exact hp
    · rintro (e | e | e) <;> rw [e] at hp <;> omega
  refine ⟨⟨by rw [put_len]; exact hl, fun p hp => ?_, fun q hq s hs' => ?_, fun s hs' => ?_⟩, hs.2, fun s hs' => h.inT s (by simp [hs']), fun u hu s hs' => ?_⟩
  · rw [hg p]
    have := h.pl.rng p hp
    split <;> omega
  · rw [hg q] at hs'
    by_cases e : q = t.1 ∨ q = t.2.1 ∨ q = t.2.2
    · rw [if_pos e] at hs'
      obtain ⟨p, hp, hp2⟩ := h.beh t (by simp) s (by omega)
      refine ⟨p, ?_, hkeep p s hp2⟩
      have : p ≠ t.1 := fun e => by rw [e] at hp2; omega
      omega
    · rw [if_neg e] at hs'
      obtain ⟨p, hp, hp2⟩ := h.pl.num q hq s hs'
      exact ⟨p, hp, hkeep p s hp2⟩
  · by_cases e : s = m
    · subst e
      exact ⟨t, ofP_putm h1 h2 (by omega) (fun p hp => by have := h.pl.rng p (by omega); omega), hQ⟩
    · obtain ⟨u, hu⟩ := h.pl.thr s (by omega)
      refine ⟨u, ?_, hu.2⟩
      rw [ofP_put h1 h2 (by omega) hok (by omega) (by omega)]
      exact hu.1
  · by_cases e : s = m
    · subst e
      refine ⟨t.1, ?_, ?_⟩
      · have := hs.1 u hu
        unfold ltT at this
        omega
      · rw [hg, if_pos (.inl rfl)]
    · obtain ⟨p, hp, hp2⟩ := h.beh u (by simp [hu]) s (by omega)
      exact ⟨p, hp, hkeep p s hp2⟩
theorem vis_pl {Q : Tri → Bool} {n : Nat} : ∀ (T : List Tri) (m : Nat) (l : List Int), PV Q n l m T → ∀ l' ∈ visT m l T, ∃ M, m < M ∧ PL Q n l' M
  | [], _, _, _, _, h => by simp [visT] at h
  | t :: T, m, l, hv, l', h => by
    rw [visT, List.mem_append] at h
    rcases h with h | h
    · by_cases hok : okT l t = true
      · rw [if_pos hok, List.mem_cons] at h
        have hp := hv.put hok
        rcases h with h | h
        · subst h; exact ⟨m + 1, by omega, hp.pl⟩
        · obtain ⟨M, h1, h2⟩ := vis_pl T (m + 1) _ hp l' h
          exact ⟨M, by omega, h2⟩
      · rw [if_neg hok] at h; simp at h
    · exact vis_pl T m l hv.skip l' h
/-- What has a number on the way keeps its places. -/
theorem vis_keep {Q : Tri → Bool} {n : Nat} : ∀ (T : List Tri) (m : Nat) (l : List Int), PV Q n l m T → ∀ l' ∈ visT m l T, ∀ k : Nat, k < m → ofP l' k = ofP l k
  | [], _, _, _, _, h, _, _ => by simp [visT] at h
  | t :: T, m, l, hv, l', h, k, hk => by
    rw [visT, List.mem_append] at h
    rcases h with h | h
    · by_cases hok : okT l t = true
      · rw [if_pos hok, List.mem_cons] at h
        have hp := hv.put hok
        obtain ⟨h1, h2, h3, _⟩ := hv.inT t (by simp)
        have e := ofP_put h1 h2 (by rw [hv.pl.len]; exact h3) hok (m := m) (k := (k : Int)) (by omega) (by omega)
        rcases h with h | h
        · subst h; exact e
        · rw [vis_keep T (m + 1) _ hp l' h k (by omega)]; exact e
      · rw [if_neg hok] at h; simp at h
    · exact vis_keep T m l hv.skip l' h k hk
/-- No part. -/
def noP (n : Nat) : List Int := List.replicate n (-1)
def triP (Q : Tri → Bool) (n : Nat) : List Tri := (allQ n).filter Q
theorem noP_get {n p : Nat} (h : p < n) : (noP n).getD p 0 = -1 := by unfold noP; simp [List.getD_eq_getElem?_getD, h]
theorem noP_pv (Q : Tri → Bool) (n : Nat) : PV Q n (noP n) 0 (triP Q n) :=
  ⟨⟨by simp [noP], fun p hp => by rw [noP_get hp]; omega, fun q hq s hs => by rw [noP_get hq] at hs; omega, fun s hs => by omega⟩,
   List.Pairwise.filter _ (q1_srt n n), fun t ht => by
     have h := List.mem_filter.1 ht
     have h2 := allQ_mem.1 h.1
     exact ⟨h2.1, h2.2.1, h2.2.2, h.2⟩, fun t ht s hs => by omega⟩
theorem visP_pl {Q : Tri → Bool} {n : Nat} {l : List Int} (h : l ∈ visP 0 (noP n) (triP Q n)) : ∃ M, PL Q n l M := by
  unfold visP at h
  rw [List.mem_cons] at h
  rcases h with h | h
  · subst h; exact ⟨0, (noP_pv Q n).pl⟩
  · obtain ⟨M, _, h2⟩ := vis_pl _ 0 _ (noP_pv Q n) l h
    exact ⟨M, h2⟩

/-! All part lists come. -/
def putA : List Int → Nat → List Tri → List Int
  | l, _, [] => l
  | l, m, t :: ts => putA (putT l t m) (m + 1) ts
def okA : List Int → Nat → List Tri → Prop
  | _, _, [] => True
  | l, m, t :: ts => okT l t = true ∧ okA (putT l t m) (m + 1) ts
theorem vis_has {ts T : List Tri} (h : ts.Sublist T) : ∀ (m : Nat) (l : List Int), okA l m ts → putA l m ts ∈ visP m l T := by
  induction h with
  | slnil => intro m l _; simp [putA, visP]
  | cons t _ ih =>
    intro m l hok
    have := ih m l hok
    unfold visP at this ⊢
    rw [List.mem_cons] at this ⊢
    rw [visT, List.mem_append]
    rcases this with h | h
    · exact .inl h
    · exact .inr (.inr h)
  | cons_cons t _ ih =>
    intro m l hok
    have := ih (m + 1) (putT l t m) hok.2
    unfold visP at this ⊢
    rw [putA, List.mem_cons, visT, List.mem_append, if_pos hok.1]
    exact .inr (.inl this)
theorem sub_of_srt : ∀ {T ts : List Tri}, T.Pairwise ltT → ts.Pairwise ltT → (∀ t ∈ ts, t ∈ T) → ts.Sublist T
  | [], [], _, _, _ => .slnil
  | [], t :: ts, _, _, h => absurd (h t (by simp)) (by simp)
  | a :: T, [], _, _, _ => List.nil_sublist _
  | a :: T, t :: ts, hT, hs, h => by
    rw [List.pairwise_cons] at hT hs
    by_cases e : t = a
    · subst e
      refine .cons_cons t (sub_of_srt hT.2 hs.2 fun u hu => ?_)
      rcases List.mem_cons.1 (h u (by simp [hu])) with e | e
      · have := hs.1 u hu; rw [e] at this; unfold ltT at this; omega
      · exact e
    · refine .cons a (sub_of_srt hT.2 (List.pairwise_cons.2 hs) fun u hu => ?_)
      rcases List.mem_cons.1 (h u hu) with e2 | e2
      · exfalso
        rcases List.mem_cons.1 (h t (by simp)) with e3 | e3
        · exact e e3
        · have h1 := hT.1 t e3
          rcases List.mem_cons.1 hu with e4 | e4
          · rw [← e4, e2] at e3; exact e (e4.symm.trans e2)
          · have h2 := hs.1 u e4
            rw [e2] at h2
            unfold ltT at h1 h2
            omega
      · exact e2
/-- A part list's first threes alone. -/
def cutL (l : List Int) (m : Nat) : List Int := l.map fun x : Int => if x < (m : Int) then x else -1
theorem cut_len (l : List Int) (m : Nat) : (cutL l m).length = l.length := by simp [cutL]
theorem cut_get {l : List Int} {m p : Nat} (h : p < l.length) : (cutL l m).getD p 0 = if l.getD p 0 < m then l.getD p 0 else -1 := by
  unfold cutL
  simp [List.getD_eq_getElem?_getD, h]
def tsF (l : List Int) : Nat → Nat → List Tri
  | _, 0 => []
  | m, k + 1 => triOf l m :: tsF l (m + 1) k
theorem tsF_mem {l : List Int} {t : Tri} : ∀ (k m : Nat), t ∈ tsF l m k → ∃ s : Nat, m ≤ s ∧ s < m + k ∧ t = triOf l s
  | 0, m, h => by simp [tsF] at h
  | k + 1, m, h => by
    rw [tsF, List.mem_cons] at h
    rcases h with h | h
    · exact ⟨m, Nat.le_refl _, by omega, h⟩
    · obtain ⟨s, h1, h2, h3⟩ := tsF_mem k (m + 1) h
      exact ⟨s, by omega, by omega, h3⟩
theorem PL.cut {Q : Tri → Bool} {n M : Nat} {l : List Int} (h : PL Q n l M) {m : Nat} (hm : m < M) : okT (cutL l m) (triOf l m) = true ∧ putT (cutL l m) (triOf l m) m = cutL l (m + 1) := by
  obtain ⟨h1, _⟩ := h.tri hm
  obtain ⟨i1, i2, i3⟩ := inc_of h1
  have hin : ∀ p, p < l.length → (l.getD p 0 = (m : Int) ↔ p = (triOf l m).1 ∨ p = (triOf l m).2.1 ∨ p = (triOf l m).2.2) := fun p hp => by
    have : p ∈ ofP l (m : Int) ↔ p ∈ [(triOf l m).1, (triOf l m).2.1, (triOf l m).2.2] := by rw [h1]
    rw [ofP_mem] at this
    simp only [List.mem_cons, List.not_mem_nil, or_false] at this
    exact ⟨fun h => this.1 ⟨hp, h⟩, fun h => (this.2 h).2⟩
  constructor
  · refine okT_mk ?_ ?_ ?_
    · rw [cut_get (by omega), (hin _ (by omega)).2 (.inl rfl), if_neg (by omega)]
    · rw [cut_get (by omega), (hin _ (by omega)).2 (.inr (.inl rfl)), if_neg (by omega)]
    · rw [cut_get (by omega), (hin _ (by omega)).2 (.inr (.inr rfl)), if_neg (by omega)]
  · refine ext_getD (by rw [put_len, cut_len, cut_len]) fun p hp => ?_
    rw [put_len, cut_len] at hp
    rw [put_get (by rw [cut_len]; omega) (by rw [cut_len]; omega) (by rw [cut_len]; omega), cut_get hp, cut_get hp]
    have := hin p hp
    by_cases e : p = (triOf l m).1 ∨ p = (triOf l m).2.1 ∨ p = (triOf l m).2.2
    · rw [if_pos e, this.2 e, if_pos (by omega)]
    · rw [if_neg e]
      have hne : l.getD p 0 ≠ (m : Int) := fun h => e (this.1 h)
      by_cases g : l.getD p 0 < m
      · rw [if_pos g, if_pos (by omega)]
      · rw [if_neg g, if_neg (by omega)]
theorem PL.putA {Q : Tri → Bool} {n M : Nat} {l : List Int} (h : PL Q n l M) : ∀ (k m : Nat), m + k ≤ M → okA (cutL l m) m (tsF l m k) ∧ putA (cutL l m) m (tsF l m k) = cutL l (m + k)
  | 0, m, _ => ⟨trivial, rfl⟩
  | k + 1, m, hm => by
    obtain ⟨h1, h2⟩ := h.cut (m := m) (by omega)
    obtain ⟨h3, h4⟩ := h.putA k (m + 1) (by omega)
    rw [tsF, okA, Go.Proofs.Ytaffdppmpfgghaa.putA, h2]
    exact ⟨⟨h1, h3⟩, by rw [h4]; congr 1; omega⟩
theorem PL.asc {Q : Tri → Bool} {n M : Nat} {l : List Int} (h : PL Q n l M) {a b : Nat} (hab : a < b) (hb : b < M) : (triOf l a).1 < (triOf l b).1 := by
  obtain ⟨h1, _⟩ := h.tri (s := a) (by omega)
  obtain ⟨h2, _⟩ := h.tri hb
  have m2 : (triOf l b).1 ∈ ofP l (b : Int) := by rw [h2]; simp
  rw [ofP_mem] at m2
  obtain ⟨p, hp, hp2⟩ := h.num (triOf l b).1 (by rw [← h.len]; exact m2.1) a (by rw [m2.2]; omega)
  have hp3 : p ∈ ofP l (a : Int) := ofP_mem.2 ⟨by omega, hp2⟩
  rw [h1] at hp3
  obtain ⟨i1, i2, i3⟩ := inc_of h1
  simp only [List.mem_cons, List.not_mem_nil, or_false] at hp3
  omega
theorem PL.tsF {Q : Tri → Bool} {n M : Nat} {l : List Int} (h : PL Q n l M) : ∀ (k m : Nat), m + k ≤ M → (tsF l m k).Pairwise ltT
  | 0, m, _ => List.Pairwise.nil
  | k + 1, m, hm => by
    rw [Go.Proofs.Ytaffdppmpfgghaa.tsF, List.pairwise_cons]
    refine ⟨fun t ht => ?_, h.tsF k (m + 1) (by omega)⟩
    obtain ⟨s, h1, h2, rfl⟩ := tsF_mem k (m + 1) ht
    exact .inl (h.asc (by omega) (by omega))
theorem PL.vis {Q : Tri → Bool} {n M : Nat} {l : List Int} (h : PL Q n l M) : l ∈ visP 0 (noP n) (triP Q n) := by
  obtain ⟨h1, h2⟩ := h.putA M 0 (by omega)
  have e0 : cutL l 0 = noP n := ext_getD (by rw [cut_len, h.len]; simp [noP]) fun p hp => by
    rw [cut_len] at hp
    have := h.rng p (by rw [← h.len]; exact hp)
    rw [cut_get hp, noP_get (by rw [← h.len]; exact hp)]
    split <;> omega
  have e1 : cutL l (0 + M) = l := ext_getD (cut_len _ _) fun p hp => by
    rw [cut_len] at hp
    have := h.rng p (by rw [← h.len]; exact hp)
    rw [cut_get hp, if_pos (by rw [Nat.zero_add]; exact this.2)]
  rw [e0] at h1 h2
  rw [e1] at h2
  rw [← h2]
  refine vis_has (sub_of_srt (noP_pv Q n).srt (h.tsF M 0 (by omega)) fun t ht => ?_) 0 _ h1
  obtain ⟨s, _, hs, rfl⟩ := tsF_mem M 0 ht
  obtain ⟨k1, k2⟩ := h.tri (s := s) (by omega)
  obtain ⟨i1, i2, i3⟩ := inc_of k1
  exact List.mem_filter.2 ⟨allQ_mem.2 ⟨i1, i2, by rw [← h.len]; exact i3⟩, k2⟩
theorem vis_iff {Q : Tri → Bool} {n : Nat} {l : List Int} : l ∈ visP 0 (noP n) (triP Q n) ↔ ∃ M, PL Q n l M :=
  ⟨visP_pl, fun ⟨_, h⟩ => h.vis⟩
end Go.Proofs.Ytaffdppmpfgghaa
