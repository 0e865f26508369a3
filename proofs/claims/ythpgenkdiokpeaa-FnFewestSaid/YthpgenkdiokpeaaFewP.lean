/- Pure: the search in breadth for the fewest runs. -/
import Derived.Test.YthpgenkdiokpeaaOrdP
namespace Go.Proofs.Ythpgenkdiokpeaa

/-- One order more, if it is new. -/
def addO (m : List (List Pt)) (o : List Pt) : List (List Pt) := if o ∈ m then m else m ++ [o]
/-- The runs of x that begin at f, the first k of them. -/
def expT (x : List Pt) (f : Nat) : Nat → List (List Pt) → List (List Pt)
  | 0, m => m
  | k + 1, m => addO (expT x f k m) (runP x f (f + 1 + k))
/-- The runs of x that begin ahead of f. -/
def expA (x : List Pt) (n : Nat) : Nat → List (List Pt) → List (List Pt)
  | 0, m => m
  | f + 1, m => expT x f (n - 1 - f) (expA x n f m)
/-- How far the orders of m are told to lie that are new against d. -/
def farD (m : List (List Pt)) (d : List Nat) (r : Nat) : List Nat := d ++ List.replicate (m.length - d.length) r

/-- What the search in breadth tells from the k-th order on. -/
def fewR (n : Nat) : Nat → List (List Pt) → List Nat → Nat → Option Nat
  | 0, _, _, _ => none
  | fu + 1, m, d, k =>
    if k < m.length then
      if convB (m.getD k []) then some (d.getD k 0)
      else fewR n fu (expA (m.getD k []) n n m) (farD (expA (m.getD k []) n n m) d (d.getD k 0 + 1)) (k + 1)
    else none
def fewP (l : List Pt) : Option Nat := fewR l.length 4000 [l] [0] 0

theorem addO_pre (m : List (List Pt)) (o : List Pt) : ∃ s, addO m o = m ++ s := by
  unfold addO; split
  · exact ⟨[], by simp⟩
  · exact ⟨[o], rfl⟩
theorem expT_pre (x : List Pt) (f : Nat) (m : List (List Pt)) : ∀ k, ∃ s, expT x f k m = m ++ s
  | 0 => ⟨[], by simp [expT]⟩
  | k + 1 => by
    obtain ⟨s, e⟩ := expT_pre x f m k
    obtain ⟨s', e'⟩ := addO_pre (expT x f k m) (runP x f (f + 1 + k))
    exact ⟨s ++ s', by rw [expT, e', e, List.append_assoc]⟩
theorem expA_pre (x : List Pt) (n : Nat) (m : List (List Pt)) : ∀ f, ∃ s, expA x n f m = m ++ s
  | 0 => ⟨[], by simp [expA]⟩
  | f + 1 => by
    obtain ⟨s, e⟩ := expA_pre x n m f
    obtain ⟨s', e'⟩ := expT_pre x f (expA x n f m) (n - 1 - f)
    exact ⟨s ++ s', by rw [expA, e', e, List.append_assoc]⟩
theorem addO_mem (m : List (List Pt)) (o : List Pt) : o ∈ addO m o := by
  unfold addO; split
  · assumption
  · simp
theorem addO_sub {m : List (List Pt)} {o y : List Pt} (h : y ∈ addO m o) : y ∈ m ∨ y = o := by
  unfold addO at h
  split at h
  · exact .inl h
  · rcases List.mem_append.1 h with h | h
    · exact .inl h
    · exact .inr (by simpa using h)
theorem addO_nd {m : List (List Pt)} {o : List Pt} (h : m.Nodup) : (addO m o).Nodup := by
  unfold addO; split
  · exact h
  · rename_i hn
    rw [List.nodup_append]
    exact ⟨h, by simp, fun a ha b hb => by simp at hb; subst hb; exact fun e => hn (e ▸ ha)⟩

/-- What holds of the orders met: no two the same, each an order of l's steps. -/
structure Met (l : List Pt) (m : List (List Pt)) : Prop where
  nd : m.Nodup
  pm : ∀ x ∈ m, x.Perm l
theorem Met.add {l : List Pt} {m : List (List Pt)} {o : List Pt} (h : Met l m) (ho : o.Perm l) : Met l (addO m o) :=
  ⟨addO_nd h.nd, fun x hx => by rcases addO_sub hx with hx | rfl; exact h.pm x hx; exact ho⟩
theorem Met.expT {l x : List Pt} {m : List (List Pt)} (h : Met l m) (hx : x.Perm l) (f : Nat) : ∀ k, Met l (expT x f k m)
  | 0 => h
  | k + 1 => (Met.expT h hx f k).add ((runP_perm x (by omega)).trans hx)
theorem Met.expA {l x : List Pt} {m : List (List Pt)} (h : Met l m) (hx : x.Perm l) (n : Nat) : ∀ f, Met l (expA x n f m)
  | 0 => h
  | f + 1 => Met.expT (Met.expA h hx n f) hx f _

/-- All lists of n steps of l. -/
def allL (l : List Pt) : Nat → List (List Pt)
  | 0 => [[]]
  | n + 1 => l.flatMap fun a => (allL l n).map (a :: ·)
theorem flat_len {α β : Type} (f : α → List β) (c : Nat) : ∀ l : List α, (∀ a ∈ l, (f a).length = c) → (l.flatMap f).length = l.length * c
  | [], _ => by simp
  | a :: t, h => by
    rw [List.flatMap_cons, List.length_append, h a (by simp), flat_len f c t (fun b hb => h b (by simp [hb])), List.length_cons, Nat.succ_mul, Nat.add_comm]
theorem allL_len (l : List Pt) : ∀ n, (allL l n).length = l.length ^ n
  | 0 => rfl
  | n + 1 => by rw [allL, flat_len _ (l.length ^ n) l (fun a _ => by rw [List.length_map, allL_len l n]), Nat.pow_succ, Nat.mul_comm]
theorem mem_allL {l : List Pt} : ∀ {x : List Pt}, (∀ a ∈ x, a ∈ l) → x ∈ allL l x.length
  | [], _ => by simp [allL]
  | a :: t, h => by
    rw [List.length_cons, allL, List.mem_flatMap]
    exact ⟨a, h a (by simp), List.mem_map.2 ⟨t, mem_allL (fun b hb => h b (by simp [hb])), rfl⟩⟩
theorem nodup_le {α : Type} [DecidableEq α] : ∀ {m s : List α}, m.Nodup → (∀ x ∈ m, x ∈ s) → m.length ≤ s.length
  | [], _, _, _ => by simp
  | a :: t, s, hn, h => by
    rw [List.nodup_cons] at hn
    have ha := h a (by simp)
    have := nodup_le (m := t) (s := s.erase a) hn.2 (fun x hx => by
      have hne : x ≠ a := fun e => hn.1 (e ▸ hx)
      exact (List.mem_erase_of_ne hne).2 (h x (by simp [hx])))
    rw [List.length_erase_of_mem ha] at this
    have hp := List.length_pos_of_mem ha
    rw [List.length_cons]
    omega
theorem Met.few {l : List Pt} {m : List (List Pt)} (h : Met l m) (hl : l.length ≤ 5) : m.length ≤ 3125 := by
  have h1 := nodup_le h.nd (s := allL l l.length) (fun x hx => by
    have hp := h.pm x hx
    rw [← hp.length_eq]
    exact mem_allL (fun a ha => hp.mem_iff.1 ha))
  rw [allL_len] at h1
  have : l.length = 0 ∨ l.length = 1 ∨ l.length = 2 ∨ l.length = 3 ∨ l.length = 4 ∨ l.length = 5 := by omega
  rcases this with e | e | e | e | e | e <;> rw [e] at h1 <;> omega

theorem fewR_done {n fu : Nat} {m : List (List Pt)} {d : List Nat} {k : Nat} (h : m.length ≤ k) : fewR n fu m d k = none := by
  cases fu with
  | zero => rfl
  | succ fu => rw [fewR, if_neg (by omega)]
theorem fewR_hit {n fu : Nat} {m : List (List Pt)} {d : List Nat} {k : Nat} (h : k < m.length) (hf : 0 < fu) (hc : convB (m.getD k []) = true) : fewR n fu m d k = some (d.getD k 0) := by
  cases fu with
  | zero => omega
  | succ fu => rw [fewR, if_pos h, if_pos hc]
theorem fewR_step {n fu : Nat} {m : List (List Pt)} {d : List Nat} {k : Nat} (h : k < m.length) (hf : 0 < fu) (hc : convB (m.getD k []) = false) :
    fewR n fu m d k = fewR n (fu - 1) (expA (m.getD k []) n n m) (farD (expA (m.getD k []) n n m) d (d.getD k 0 + 1)) (k + 1) := by
  cases fu with
  | zero => omega
  | succ fu => rw [fewR, if_pos h, if_neg (by rw [hc]; exact fun e => by cases e)]; rfl

/-! How far: what the search tells is the least number of runs. -/
theorem expT_mem {x : List Pt} {f : Nat} {m : List (List Pt)} : ∀ {k j : Nat}, j < k → runP x f (f + 1 + j) ∈ expT x f k m
  | k + 1, j, h => by
    rw [expT]
    by_cases e : j = k
    · subst e; exact addO_mem _ _
    · obtain ⟨s, e'⟩ := addO_pre (expT x f k m) (runP x f (f + 1 + k))
      rw [e']
      exact List.mem_append_left _ (expT_mem (by omega))
theorem expA_mem {x : List Pt} {n : Nat} {m : List (List Pt)} : ∀ {g f t : Nat}, f < g → f < t → t < n → runP x f t ∈ expA x n g m
  | g + 1, f, t, h1, h2, h3 => by
    rw [expA]
    by_cases e : f = g
    · subst e
      have := expT_mem (x := x) (f := f) (m := expA x n f m) (k := n - 1 - f) (j := t - f - 1) (by omega)
      rwa [show f + 1 + (t - f - 1) = t by omega] at this
    · obtain ⟨s, e'⟩ := expT_pre x g (expA x n g m) (n - 1 - g)
      rw [e']
      exact List.mem_append_left _ (expA_mem (by omega) h2 h3)

/-- What holds ahead of the k-th order. -/
structure Bfs (l : List Pt) (n : Nat) (m : List (List Pt)) (d : List Nat) (k : Nat) : Prop where
  met : Met l m
  len : d.length = m.length
  hd : m.getD 0 [] = l ∧ d.getD 0 0 = 0 ∧ 0 < m.length
  up : ∀ i j, i ≤ j → j < m.length → d.getD i 0 ≤ d.getD j 0
  top : ∀ j, j < m.length → k < m.length → d.getD j 0 ≤ d.getD k 0 + 1
  nb : ∀ i, i < k → i < m.length → ∀ f t, f < t → t < n → ∃ j, j < m.length ∧ m.getD j [] = runP (m.getD i []) f t ∧ d.getD j 0 ≤ d.getD i 0 + 1
  no : ∀ i, i < k → i < m.length → convB (m.getD i []) = false
  pos : ∀ j, 0 < j → j < m.length → 0 < d.getD j 0
  ix : ∀ j, j < m.length → d.getD j 0 ≤ j
theorem Bfs.start (l : List Pt) (n : Nat) : Bfs l n [l] [0] 0 :=
  ⟨⟨by simp, fun x hx => by
      obtain rfl : x = l := by simpa using hx
      exact List.Perm.refl _⟩, rfl, ⟨rfl, rfl, by simp⟩, fun i j h1 h2 => by
      obtain rfl : j = 0 := by simpa using h2
      obtain rfl : i = 0 := by omega
      exact Nat.le_refl _, fun j h _ => by
      obtain rfl : j = 0 := by simpa using h
      simp, fun i h => by omega, fun i h => by omega, fun j h1 h2 => by
      have : j < 1 := h2
      omega, fun j h => by
      obtain rfl : j = 0 := by simpa using h
      simp⟩
theorem getD_pre {α : Type} {m s : List α} {i : Nat} {a : α} (h : i < m.length) : (m ++ s).getD i a = m.getD i a := by
  simp only [List.getD_eq_getElem?_getD]
  rw [List.getElem?_append_left h]
theorem far_old {m : List (List Pt)} {d : List Nat} {r i : Nat} (h : i < d.length) : (farD m d r).getD i 0 = d.getD i 0 := getD_pre h
theorem far_new {m : List (List Pt)} {d : List Nat} {r i : Nat} (h : d.length ≤ i) (h2 : i < m.length) : (farD m d r).getD i 0 = r := by
  unfold farD
  simp only [List.getD_eq_getElem?_getD]
  rw [List.getElem?_append_right h, List.getElem?_replicate, if_pos (by omega)]
  rfl
theorem getD_mem' {α : Type} {m : List α} {i : Nat} {a : α} (h : i < m.length) : m.getD i a ∈ m := by
  simp only [List.getD_eq_getElem?_getD, List.getElem?_eq_getElem h]
  exact List.getElem_mem h
theorem Bfs.step {l : List Pt} {n : Nat} {m : List (List Pt)} {d : List Nat} {k : Nat} (h : Bfs l n m d k) (hk : k < m.length) (hc : convB (m.getD k []) = false) :
    Bfs l n (expA (m.getD k []) n n m) (farD (expA (m.getD k []) n n m) d (d.getD k 0 + 1)) (k + 1) := by
  have hx : (m.getD k []).Perm l := h.met.pm _ (getD_mem' hk)
  have hmem := fun f t h1 h2 => expA_mem (x := m.getD k []) (n := n) (m := m) (g := n) (f := f) (t := t) (by omega) h1 h2
  have hmet := h.met.expA hx n n
  obtain ⟨s, e⟩ := expA_pre (m.getD k []) n m n
  rw [e] at hmem hmet ⊢
  have hl : (m ++ s).length = m.length + s.length := List.length_append
  have hdl : (farD (m ++ s) d (d.getD k 0 + 1)).length = (m ++ s).length := by unfold farD; rw [List.length_append, List.length_replicate, hl, h.len]; omega
  have hold : ∀ i, i < m.length → (farD (m ++ s) d (d.getD k 0 + 1)).getD i 0 = d.getD i 0 := fun i hi => far_old (by rw [h.len]; exact hi)
  have hnew : ∀ i, m.length ≤ i → i < (m ++ s).length → (farD (m ++ s) d (d.getD k 0 + 1)).getD i 0 = d.getD k 0 + 1 := fun i h1 h2 => far_new (by rw [h.len]; exact h1) h2
  have htop : ∀ j, j < (m ++ s).length → (farD (m ++ s) d (d.getD k 0 + 1)).getD j 0 ≤ d.getD k 0 + 1 := fun j hj => by
    by_cases c : j < m.length
    · rw [hold j c]; exact h.top j c hk
    · rw [hnew j (by omega) hj]; exact Nat.le_refl _
  have hm : ∀ i, i < m.length → (m ++ s).getD i [] = m.getD i [] := fun i hi => getD_pre hi
  refine ⟨hmet, hdl, ⟨by rw [hm 0 h.hd.2.2]; exact h.hd.1, by rw [hold 0 h.hd.2.2]; exact h.hd.2.1, by omega⟩, fun i j h1 h2 => ?_, fun j h1 h2 => ?_, fun i h1 h2 f t h3 h4 => ?_, fun i h1 h2 => ?_, fun j h1 h2 => ?_, fun j h1 => ?_⟩
  · by_cases c : j < m.length
    · rw [hold j c, hold i (by omega)]; exact h.up i j h1 c
    · rw [hnew j (by omega) h2]; exact htop i (by omega)
  · have h5 := htop j h1
    by_cases c : k + 1 < m.length
    · rw [hold _ c]; have := h.up k (k + 1) (by omega) c; omega
    · rw [hnew _ (by omega) h2]; omega
  · by_cases c : i < k
    · obtain ⟨j, j1, j2, j3⟩ := h.nb i c (by omega) f t h3 h4
      exact ⟨j, by omega, by rw [hm j j1, hm i (by omega)]; exact j2, by rw [hold j j1, hold i (by omega)]; exact j3⟩
    · obtain rfl : i = k := by omega
      obtain ⟨j, j1, j2⟩ := List.mem_iff_getElem.1 (hmem f t h3 h4)
      refine ⟨j, j1, ?_, ?_⟩
      · rw [hm i hk, ← j2, List.getD_eq_getElem?_getD, List.getElem?_eq_getElem j1]; rfl
      · rw [hold i hk]; exact htop j j1
  · by_cases c : i < k
    · rw [hm i (by omega)]; exact h.no i c (by omega)
    · obtain rfl : i = k := by omega
      rw [hm i hk]; exact hc
  · by_cases c : j < m.length
    · rw [hold j c]; exact h.pos j h1 c
    · rw [hnew j (by omega) h2]; omega
  · by_cases c : j < m.length
    · rw [hold j c]; exact h.ix j c
    · rw [hnew j (by omega) h1]; have := h.ix k hk; omega

/-- Orders that lie s runs away. -/
inductive Away (n : Nat) (l : List Pt) : Nat → List Pt → Prop
  | zero : Away n l 0 l
  | one {s : Nat} {x : List Pt} (f t : Nat) : Away n l s x → f < t → t < n → Away n l (s + 1) (runP x f t)
theorem Bfs.away {l : List Pt} {n : Nat} {m : List (List Pt)} {d : List Nat} {k : Nat} (h : Bfs l n m d k) : ∀ {s : Nat} {x : List Pt}, Away n l s x → s ≤ d.getD k 0 → ∃ j, j < m.length ∧ m.getD j [] = x ∧ d.getD j 0 ≤ s := by
  intro s x ha
  induction ha with
  | zero => exact fun _ => ⟨0, h.hd.2.2, h.hd.1, by rw [h.hd.2.1]; exact Nat.le_refl _⟩
  | one f t _ h1 h2 ih =>
    intro hs
    obtain ⟨j, j1, j2, j3⟩ := ih (by omega)
    have hjk : j < k := Nat.lt_of_not_le fun hle => by have := h.up k j hle j1; omega
    obtain ⟨i, i1, i2, i3⟩ := h.nb j hjk j1 f t h1 h2
    exact ⟨i, i1, by rw [i2, j2], by omega⟩

/-- What is told of a search that finds: a convex order of the steps, not further than any convex one; 0 only for the path itself. -/
theorem fewR_some {l : List Pt} {n : Nat} : ∀ (fu : Nat) (m : List (List Pt)) (d : List Nat) (k r : Nat), Bfs l n m d k → fewR n fu m d k = some r →
    (∃ x, x.Perm l ∧ convB x = true) ∧ (∀ s x, Away n l s x → convB x = true → r ≤ s) ∧ (r = 0 ↔ convB l = true)
  | 0, _, _, _, _, _, h => by cases h
  | fu + 1, m, d, k, r, B, h => by
    by_cases hk : k < m.length
    · cases hc : convB (m.getD k []) with
      | true =>
        rw [fewR_hit hk (by omega) hc] at h
        obtain rfl := Option.some.inj h
        refine ⟨⟨_, B.met.pm _ (getD_mem' hk), hc⟩, fun s x ha hx => Nat.le_of_not_lt fun hlt => ?_, fun h0 => ?_, fun hl => ?_⟩
        · obtain ⟨j, j1, j2, j3⟩ := B.away ha (by omega)
          have hjk : j < k := Nat.lt_of_not_le fun hle => by have := B.up k j hle j1; omega
          have := B.no j hjk j1
          rw [j2, hx] at this
          cases this
        · have : k = 0 := Nat.eq_zero_of_not_pos fun hp => by have := B.pos k hp hk; omega
          subst this
          rw [← B.hd.1]; exact hc
        · have : k = 0 := Nat.eq_zero_of_not_pos fun hp => by
            have := B.no 0 hp B.hd.2.2
            rw [B.hd.1, hl] at this
            cases this
          subst this
          exact B.hd.2.1
      | false =>
        rw [fewR_step hk (by omega) hc] at h
        exact fewR_some fu _ _ _ r (B.step hk hc) h
    · rw [fewR_done (by omega)] at h
      cases h

/-- Any order of the steps lies at most as many runs away as there are steps but one. -/
theorem sel {l T : List Pt} (hT : T.Perm l) : ∀ i, i + 1 ≤ l.length → ∃ s x, s ≤ i ∧ Away l.length l s x ∧ x.Perm l ∧ x.take i = T.take i
  | 0, _ => ⟨0, l, Nat.le_refl _, .zero, List.Perm.refl _, by simp⟩
  | i + 1, hi => by
    obtain ⟨s, x, hs, ha, hx, ht⟩ := sel hT i (by omega)
    have hxl := hx.length_eq
    have hTl := hT.length_eq
    have hd : (T.drop i).Perm (x.drop i) := by
      have h1 : (T.take i ++ T.drop i).Perm (T.take i ++ x.drop i) := by
        rw [List.take_append_drop]
        conv => rhs; rw [← ht, List.take_append_drop]
        exact hT.trans hx.symm
      exact (List.perm_append_left_iff _).1 h1
    have hm : T[i]'(by omega) ∈ x.drop i := hd.mem_iff.1 (by
      rw [List.drop_eq_getElem_cons (by omega)]
      exact List.mem_cons_self)
    obtain ⟨q, hq, eq⟩ := List.mem_iff_getElem.1 hm
    rw [List.length_drop] at hq
    rw [List.getElem_drop] at eq
    have key : ∀ y : List Pt, y.length = l.length → y.take i = x.take i → y[i]? = some (T[i]'(by omega)) → y.take (i + 1) = T.take (i + 1) := fun y hy h1 h2 => by
      rw [List.take_add_one, List.take_add_one, h1, ht, h2, List.getElem?_eq_getElem (show i < T.length by omega)]
    by_cases e : q = 0
    · subst e
      exact ⟨s, x, by omega, ha, hx, key x hxl rfl (by rw [List.getElem?_eq_getElem (by omega)]; exact congrArg some eq)⟩
    · have hlt : i + q < x.length := by omega
      refine ⟨s + 1, runP x i (i + q), by omega, .one i (i + q) ha (by omega) (by omega), (runP_perm x (by omega)).trans hx, key _ (by rw [runP_len x (by omega)]; exact hxl) ?_ ?_⟩
      · unfold runP
        rw [List.take_append_of_le_length (by rw [List.length_take]; omega), List.take_take, Nat.min_self]
      · have h1 := runP_at (l := x) (f := i) (t := i + q) (i := i) (by omega) hlt
        rw [if_pos (by omega), show i + (i + q) - i = i + q by omega] at h1
        have h2 : i < (runP x i (i + q)).length := by rw [runP_len x (by omega)]; omega
        rw [atP_lt h2, atP_lt hlt] at h1
        rw [List.getElem?_eq_getElem h2, h1]
        exact congrArg some eq
theorem away_few {l T : List Pt} (hT : T.Perm l) (h0 : 0 < l.length) : ∃ s, s < l.length ∧ Away l.length l s T := by
  obtain ⟨s, x, hs, ha, hx, ht⟩ := sel hT (l.length - 1) (by omega)
  refine ⟨s, by omega, ?_⟩
  have hxl := hx.length_eq
  have hTl := hT.length_eq
  have hd : (T.drop (l.length - 1)).Perm (x.drop (l.length - 1)) := by
    have h1 : (T.take (l.length - 1) ++ T.drop (l.length - 1)).Perm (T.take (l.length - 1) ++ x.drop (l.length - 1)) := by
      rw [List.take_append_drop]
      conv => rhs; rw [← ht, List.take_append_drop]
      exact hT.trans hx.symm
    exact (List.perm_append_left_iff _).1 h1
  have e1 : ∀ y : List Pt, y.length = l.length → ∃ a, y.drop (l.length - 1) = [a] := fun y hy => by
    have : (y.drop (l.length - 1)).length = 1 := by rw [List.length_drop]; omega
    exact List.length_eq_one_iff.1 this
  obtain ⟨a, ea⟩ := e1 T hTl
  obtain ⟨b, eb⟩ := e1 x hxl
  rw [ea, eb] at hd
  have : a = b := by simpa using hd
  subst this
  have : x = T := by rw [← List.take_append_drop (l.length - 1) x, ht, eb, ← ea, List.take_append_drop]
  rw [← this]
  exact ha

/-- What is told where the search finds. -/
theorem fewP_some {l : List Pt} {r : Nat} (h0 : 0 < l.length) (h : fewP l = some r) : (∃ x, x.Perm l ∧ convB x = true) ∧ r < l.length ∧ (r = 0 ↔ convB l = true) := by
  obtain ⟨⟨x, hx, hc⟩, h2, h3⟩ := fewR_some 4000 _ _ _ _ (Bfs.start l l.length) h
  obtain ⟨s, hs, ha⟩ := away_few hx h0
  exact ⟨⟨x, hx, hc⟩, Nat.lt_of_le_of_lt (h2 s x ha hc) hs, h3⟩
end Go.Proofs.Ythpgenkdiokpeaa
