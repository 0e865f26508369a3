/- Terms, told apart from program and model: reading, writing, walks, ends, areas, tidying, turns. Nothing of the program. -/
namespace Go.Proofs.YtegpidlhhneilaaDoor

/-- A term: a letter (0 to 3: e n w s), a walk backwards, turned, so many times, one behind another. -/
inductive Tm where
  | l (k : Nat)
  | b (t : Tm)
  | u (t : Tm)
  | r (d : Nat) (t : Tm)
  | j (a c : Tm)

/-- The letters' bytes. -/
def letB (k : Nat) : UInt8 := if k = 0 then 101 else if k = 1 then 110 else if k = 2 then 119 else 115
def letK (c : UInt8) : Option Nat := if c = 101 then some 0 else if c = 110 then some 1 else if c = 119 then some 2 else if c = 115 then some 3 else none
/-- What a sign makes of the term behind it. -/
def sgnT (c : UInt8) (t : Tm) : Option Tm :=
  if c = 45 then some (.b t) else if c = 64 then some (.u t) else if 50 ≤ c ∧ c ≤ 57 then some (.r (c.toNat - 48) t) else none
/-- A term and a mark behind it. -/
def rdAnd (x : Option (Tm × List UInt8)) (m : UInt8) : Option (Tm × List UInt8) :=
  match x with
  | some (t, c :: r) => if c = m then some (t, r) else none
  | _ => none
/-- The term with which a list of bytes begins, and what is behind it. -/
def rdT : Nat → List UInt8 → Option (Tm × List UInt8)
  | 0, _ => none
  | _ + 1, [] => none
  | f + 1, c :: s =>
    match letK c with
    | some k => some (.l k, s)
    | none =>
      if c = 40 then
        match rdAnd (rdT f s) 43 with
        | none => none
        | some (a, s2) =>
          match rdAnd (rdT f s2) 41 with
          | none => none
          | some (e, s4) => some (.j a e, s4)
      else
        match rdT f s with
        | none => none
        | some (t, s2) =>
          match sgnT c t with
          | none => none
          | some t2 => some (t2, s2)
/-- A term as bytes. -/
def wrT : Tm → List UInt8
  | .l k => [letB k]
  | .b t => 45 :: wrT t
  | .u t => 64 :: wrT t
  | .r d t => UInt8.ofNat (48 + d) :: wrT t
  | .j a c => 40 :: (wrT a ++ 43 :: (wrT c ++ [41]))
/-- A term that can be read. -/
def okTm : Tm → Bool
  | .l k => decide (k < 4)
  | .b t => okTm t
  | .u t => okTm t
  | .r d t => decide (2 ≤ d ∧ d ≤ 9) && okTm t
  | .j a c => okTm a && okTm c
theorem letK_some {c : UInt8} {k : Nat} (h : letK c = some k) : k < 4 ∧ c = letB k := by
  unfold letK at h
  split at h
  · cases h; exact ⟨by omega, by assumption⟩
  · split at h
    · cases h; exact ⟨by omega, by assumption⟩
    · split at h
      · cases h; exact ⟨by omega, by assumption⟩
      · split at h
        · cases h; exact ⟨by omega, by assumption⟩
        · cases h
theorem letK_let {k : Nat} (h : k < 4) : letK (letB k) = some k := by
  match k, h with
  | 0, _ => rfl
  | 1, _ => rfl
  | 2, _ => rfl
  | 3, _ => rfl
theorem digit_nat {c : UInt8} (h : 50 ≤ c ∧ c ≤ 57) : 50 ≤ c.toNat ∧ c.toNat ≤ 57 := by
  have h1 : (50 : UInt8).toNat ≤ c.toNat := UInt8.le_iff_toNat_le.1 h.1
  have h2 : c.toNat ≤ (57 : UInt8).toNat := UInt8.le_iff_toNat_le.1 h.2
  simp at h1 h2
  exact ⟨h1, h2⟩
theorem digit_back {c : UInt8} (h : 50 ≤ c ∧ c ≤ 57) : UInt8.ofNat (48 + (c.toNat - 48)) = c := by
  have := digit_nat h
  rw [show 48 + (c.toNat - 48) = c.toNat by omega]
  simp
theorem sgnT_some {c : UInt8} {t t2 : Tm} (h : sgnT c t = some t2) (ht : okTm t = true) : okTm t2 = true ∧ c :: wrT t = wrT t2 := by
  unfold sgnT at h
  split at h
  · rename_i e; cases h; rw [e]; exact ⟨ht, rfl⟩
  · split at h
    · rename_i e; cases h; rw [e]; exact ⟨ht, rfl⟩
    · split at h
      · rename_i e
        cases h
        have hd := digit_nat e
        refine ⟨?_, ?_⟩
        · unfold okTm
          rw [ht, decide_eq_true (by omega)]; rfl
        · rw [wrT, digit_back e]
      · cases h
theorem rdAnd_some {x : Option (Tm × List UInt8)} {m : UInt8} {t : Tm} {r : List UInt8} (h : rdAnd x m = some (t, r)) : x = some (t, m :: r) := by
  unfold rdAnd at h
  split at h
  · split at h
    · rename_i e; cases h; rw [e]
    · cases h
  · cases h
/-- What is read is what was written. -/
theorem rd_wr : ∀ (f : Nat) (s : List UInt8) (t : Tm) (r : List UInt8), rdT f s = some (t, r) → okTm t = true ∧ s = wrT t ++ r
  | 0, s, t, r, h => by simp [rdT] at h
  | _ + 1, [], t, r, h => by simp [rdT] at h
  | f + 1, c :: s, t, r, h => by
    unfold rdT at h
    split at h
    · rename_i k hk
      cases h
      have := letK_some hk
      exact ⟨by unfold okTm; exact decide_eq_true this.1, by rw [this.2]; rfl⟩
    · split at h
      · rename_i hc
        split at h
        · cases h
        · rename_i a s2 h1
          split at h
          · cases h
          · rename_i e s4 h2
            cases h
            have k1 := rd_wr f _ _ _ (rdAnd_some h1)
            have k2 := rd_wr f _ _ _ (rdAnd_some h2)
            refine ⟨by unfold okTm; rw [k1.1, k2.1]; rfl, ?_⟩
            rw [hc, k1.2, k2.2]
            simp [wrT]
      · split at h
        · cases h
        · rename_i t1 s2 h1
          split at h
          · cases h
          · rename_i t2 h2
            cases h
            have k1 := rd_wr f _ _ _ h1
            have k2 := sgnT_some h2 k1.1
            refine ⟨k2.1, ?_⟩
            rw [← k2.2, k1.2]; rfl
theorem sgn_digit {d : Nat} (h : 2 ≤ d ∧ d ≤ 9) (t : Tm) : letK (UInt8.ofNat (48 + d)) = none ∧ UInt8.ofNat (48 + d) ≠ 40 ∧ sgnT (UInt8.ofNat (48 + d)) t = some (.r d t) := by
  obtain ⟨h1, h2⟩ := h
  have : d = 2 ∨ d = 3 ∨ d = 4 ∨ d = 5 ∨ d = 6 ∨ d = 7 ∨ d = 8 ∨ d = 9 := by omega
  rcases this with rfl | rfl | rfl | rfl | rfl | rfl | rfl | rfl <;> exact ⟨rfl, by decide, rfl⟩
theorem wr_rd : ∀ (t : Tm) (f : Nat) (r : List UInt8), okTm t = true → (wrT t).length ≤ f → rdT f (wrT t ++ r) = some (t, r) := by
  intro t
  induction t with
  | l k =>
    intro f r ht hf
    match f, hf with
    | f + 1, _ =>
      show rdT (f + 1) (letB k :: r) = _
      unfold rdT
      rw [letK_let (by simpa [okTm] using ht)]
    | 0, hf => simp [wrT] at hf
  | b t ih =>
    intro f r ht hf
    match f, hf with
    | f + 1, hf =>
      show rdT (f + 1) (45 :: (wrT t ++ r)) = _
      have hk : letK 45 = none := rfl
      unfold rdT
      rw [hk]
      dsimp only
      rw [if_neg (by decide), ih f r ht (by simp [wrT] at hf; omega)]
      rfl
    | 0, hf => simp [wrT] at hf
  | u t ih =>
    intro f r ht hf
    match f, hf with
    | f + 1, hf =>
      show rdT (f + 1) (64 :: (wrT t ++ r)) = _
      have hk : letK 64 = none := rfl
      unfold rdT
      rw [hk]
      dsimp only
      rw [if_neg (by decide), ih f r ht (by simp [wrT] at hf; omega)]
      rfl
    | 0, hf => simp [wrT] at hf
  | r d t ih =>
    intro f r ht hf
    match f, hf with
    | f + 1, hf =>
      unfold okTm at ht
      simp only [Bool.and_eq_true, decide_eq_true_eq] at ht
      have hs := sgn_digit ht.1 t
      show rdT (f + 1) (UInt8.ofNat (48 + d) :: (wrT t ++ r)) = _
      unfold rdT
      rw [hs.1]
      dsimp only
      rw [if_neg hs.2.1, ih f r ht.2 (by simp [wrT] at hf; omega)]
      dsimp only
      rw [hs.2.2]
    | 0, hf => simp [wrT] at hf
  | j a c iha ihc =>
    intro f r ht hf
    match f, hf with
    | f + 1, hf =>
      unfold okTm at ht
      simp only [Bool.and_eq_true] at ht
      have hl : (wrT (.j a c)).length = (wrT a).length + (wrT c).length + 3 := by simp [wrT]; omega
      have e : wrT (.j a c) ++ r = 40 :: (wrT a ++ (43 :: (wrT c ++ (41 :: r)))) := by simp [wrT]
      rw [e]
      have hk : letK 40 = none := rfl
      unfold rdT
      rw [hk]
      dsimp only
      rw [if_pos rfl, iha f _ ht.1 (by omega)]
      unfold rdAnd
      dsimp only
      rw [if_pos rfl]
      dsimp only
      rw [ihc f _ ht.2 (by omega)]
      dsimp only
      rw [if_pos rfl]
    | 0, hf => simp [wrT] at hf
theorem wr_pos (t : Tm) : 1 ≤ (wrT t).length := by cases t <;> simp [wrT]
/-- Which term a text is. -/
def tmOf (s : List UInt8) : Option Tm :=
  if 60 < s.length then none else
    match rdT 61 s with
    | some (t, []) => some t
    | _ => none
theorem tmOf_iff {s : List UInt8} {t : Tm} : tmOf s = some t ↔ s.length ≤ 60 ∧ okTm t = true ∧ s = wrT t := by
  unfold tmOf
  constructor
  · intro h
    split at h
    · cases h
    · rename_i hl
      split at h
      · rename_i t2 h2
        cases h
        have := rd_wr _ _ _ _ h2
        exact ⟨by omega, this.1, by simpa using this.2⟩
      · cases h
  · rintro ⟨h1, h2, rfl⟩
    rw [if_neg (by omega)]
    have := wr_rd t 61 [] h2 (by omega)
    rw [List.append_nil] at this
    rw [this]
/-- More fuel reads the same. -/
theorem rd_fuel {f g : Nat} {s : List UInt8} (hf : s.length ≤ f) (hg : s.length ≤ g) : rdT f s = rdT g s := by
  have key : ∀ {f g : Nat} (t : Tm) (r : List UInt8), s.length ≤ g → rdT f s = some (t, r) → rdT g s = some (t, r) := by
    intro f g t r hg h
    have := rd_wr _ _ _ _ h
    rw [this.2]
    refine wr_rd t g r this.1 ?_
    have e := congrArg List.length this.2
    simp at e
    omega
  cases h1 : rdT f s with
  | some x => exact (key x.1 x.2 hg h1).symm
  | none =>
    cases h2 : rdT g s with
    | none => rfl
    | some x => rw [key x.1 x.2 hf h2] at h1; cases h1
theorem rd_len {f : Nat} {s r : List UInt8} {t : Tm} (h : rdT f s = some (t, r)) : r.length < s.length := by
  have := (rd_wr _ _ _ _ h).2
  have h2 := wr_pos t
  rw [this, List.length_append]; omega
theorem wr_inj {t t' : Tm} {r r' : List UInt8} (h : okTm t = true) (h' : okTm t' = true) (e : wrT t ++ r = wrT t' ++ r') : t = t' ∧ r = r' := by
  have k1 := wr_rd t ((wrT t).length + (wrT t').length) r h (by omega)
  have k2 := wr_rd t' ((wrT t).length + (wrT t').length) r' h' (by omega)
  rw [e, k2] at k1
  cases k1
  exact ⟨rfl, rfl⟩
/-- A bracket behind a term makes it none. -/
theorem tm_behind {s : List UInt8} {t : Tm} (h : tmOf s = some t) {c : UInt8} : tmOf (s ++ [c]) = none := by
  obtain ⟨h1, h2, h3⟩ := tmOf_iff.1 h
  cases hx : tmOf (s ++ [c]) with
  | none => rfl
  | some t2 =>
    obtain ⟨_, k2, k3⟩ := tmOf_iff.1 hx
    rw [h3] at k3
    have := wr_inj (r := [c]) (r' := []) h2 k2 (by simpa using k3)
    cases this.2
theorem tm_back {s : List UInt8} {t : Tm} (h : tmOf s = some t) (hl : s.length < 60) : tmOf (45 :: s) = some (.b t) := by
  obtain ⟨h1, h2, h3⟩ := tmOf_iff.1 h
  exact tmOf_iff.2 ⟨by simp; omega, h2, by rw [h3]; rfl⟩
theorem tm_turn {s : List UInt8} {t : Tm} (h : tmOf s = some t) (hl : s.length < 60) : tmOf (64 :: s) = some (.u t) := by
  obtain ⟨h1, h2, h3⟩ := tmOf_iff.1 h
  exact tmOf_iff.2 ⟨by simp; omega, h2, by rw [h3]; rfl⟩
theorem tm_two {s : List UInt8} {t : Tm} (h : tmOf s = some t) (hl : s.length < 60) : tmOf (50 :: s) = some (.r 2 t) := by
  obtain ⟨h1, h2, h3⟩ := tmOf_iff.1 h
  exact tmOf_iff.2 ⟨by simp; omega, by unfold okTm; rw [h2]; rfl, by rw [h3]; rfl⟩
theorem tm_long {s : List UInt8} (h : 60 < s.length) : tmOf s = none := by unfold tmOf; rw [if_pos h]

/-- The number of letters. -/
def lenT : Tm → Nat
  | .l _ => 1
  | .b t => lenT t
  | .u t => lenT t
  | .r d t => d * lenT t
  | .j a c => lenT a + lenT c
/-- The letters. -/
def stpW : Tm → List Nat
  | .l k => [k]
  | .b t => (stpW t).reverse.map fun k => (k + 2) % 4
  | .u t => (stpW t).map fun k => (k + 1) % 4
  | .r d t => (List.replicate d (stpW t)).flatten
  | .j a c => stpW a ++ stpW c
theorem stp_len : ∀ t, (stpW t).length = lenT t
  | .l _ => rfl
  | .b t => by simp [stpW, lenT, stp_len t]
  | .u t => by simp [stpW, lenT, stp_len t]
  | .r d t => by simp [stpW, lenT, stp_len t]
  | .j a c => by simp [stpW, lenT, stp_len a, stp_len c]
theorem lenT_pos : ∀ t, okTm t = true → 1 ≤ lenT t
  | .l _, _ => Nat.le_refl _
  | .b t, h => lenT_pos t h
  | .u t, h => lenT_pos t h
  | .r d t, h => by
    unfold okTm at h
    simp only [Bool.and_eq_true, decide_eq_true_eq] at h
    have := lenT_pos t h.2
    unfold lenT
    exact Nat.mul_pos (by omega) this
  | .j a c, h => by
    unfold okTm at h
    simp only [Bool.and_eq_true] at h
    have := lenT_pos a h.1
    unfold lenT; omega
/-- The number of letters, or one more than a number. -/
def capT (m : Nat) : Tm → Nat
  | .l _ => 1
  | .b t => capT m t
  | .u t => capT m t
  | .r d t => min (d * capT m t) m
  | .j a c => min (capT m a + capT m c) m
theorem cap_is {m : Nat} (hm : 1 ≤ m) : ∀ t, okTm t = true → capT m t = min (lenT t) m
  | .l _, _ => by simp [capT, lenT]; omega
  | .b t, h => cap_is hm t h
  | .u t, h => cap_is hm t h
  | .r d t, h => by
    unfold okTm at h
    simp only [Bool.and_eq_true, decide_eq_true_eq] at h
    have := cap_is hm t h.2
    unfold capT lenT
    rw [this]
    rcases Nat.le_total (lenT t) m with g | g
    · rw [Nat.min_eq_left g]
    · rw [Nat.min_eq_right g]
      have h1 : m ≤ d * m := Nat.le_mul_of_pos_left m (by omega)
      have h2 : d * m ≤ d * lenT t := Nat.mul_le_mul_left d g
      omega
  | .j a c, h => by
    unfold okTm at h
    simp only [Bool.and_eq_true] at h
    have h1 := cap_is hm a h.1
    have h2 := cap_is hm c h.2
    unfold capT lenT
    rw [h1, h2]; omega
theorem stp_lt : ∀ t, okTm t = true → ∀ k ∈ stpW t, k < 4
  | .l k, h, x, hx => by simp [stpW] at hx; rw [hx]; simpa [okTm] using h
  | .b t, h, x, hx => by
    simp only [stpW, List.mem_map, List.mem_reverse] at hx
    obtain ⟨y, _, rfl⟩ := hx
    omega
  | .u t, h, x, hx => by
    simp only [stpW, List.mem_map] at hx
    obtain ⟨y, _, rfl⟩ := hx
    omega
  | .r d t, h, x, hx => by
    unfold okTm at h
    simp only [Bool.and_eq_true, decide_eq_true_eq] at h
    simp only [stpW, List.mem_flatten, List.mem_replicate] at hx
    obtain ⟨l, ⟨_, rfl⟩, hx⟩ := hx
    exact stp_lt t h.2 x hx
  | .j a c, h, x, hx => by
    unfold okTm at h
    simp only [Bool.and_eq_true] at h
    simp only [stpW, List.mem_append] at hx
    rcases hx with hx | hx
    · exact stp_lt a h.1 x hx
    · exact stp_lt c h.2 x hx
theorem stp_back2 {t : Tm} (h : okTm t = true) : stpW (.b (.b t)) = stpW t := by
  simp only [stpW, ← List.map_reverse, List.reverse_reverse, List.map_map]
  conv => rhs; rw [← List.map_id (stpW t)]
  refine List.map_congr_left fun k hk => ?_
  have := stp_lt t h k hk
  simp only [Function.comp_apply, id_eq]
  omega

/-- A step's x and y. -/
def dxN (k : Nat) : Int := if k = 0 then 1 else if k = 2 then -1 else 0
def dyN (k : Nat) : Int := if k = 1 then 1 else if k = 3 then -1 else 0
/-- The end and twice the area, from those of the terms in it. -/
def crT : Tm → Int × Int × Int
  | .l k => (dxN k, dyN k, 0)
  | .b t => (-(crT t).1, -(crT t).2.1, -(crT t).2.2)
  | .u t => (-(crT t).2.1, (crT t).1, (crT t).2.2)
  | .r d t => (d * (crT t).1, d * (crT t).2.1, d * (crT t).2.2)
  | .j a c => ((crT a).1 + (crT c).1, (crT a).2.1 + (crT c).2.1, (crT a).2.2 + (crT c).2.2 + ((crT a).1 * (crT c).2.1 - (crT a).2.1 * (crT c).1))
/-- The end of a list of letters, and twice its area. -/
def crL : List Nat → Int × Int × Int
  | [] => (0, 0, 0)
  | k :: s => (dxN k + (crL s).1, dyN k + (crL s).2.1, (crL s).2.2 + (dxN k * (crL s).2.1 - dyN k * (crL s).1))
theorem crL_app : ∀ a c : List Nat, crL (a ++ c) = ((crL a).1 + (crL c).1, (crL a).2.1 + (crL c).2.1, (crL a).2.2 + (crL c).2.2 + ((crL a).1 * (crL c).2.1 - (crL a).2.1 * (crL c).1))
  | [], c => by simp [crL]
  | k :: a, c => by
    rw [List.cons_append, crL, crL_app a c, crL]
    dsimp only
    refine Prod.ext (by dsimp only; omega) (Prod.ext (by dsimp only; omega) ?_)
    dsimp only
    grind
theorem dx_turn {k : Nat} (h : k < 4) : dxN ((k + 1) % 4) = -dyN k ∧ dyN ((k + 1) % 4) = dxN k ∧ dxN ((k + 2) % 4) = -dxN k ∧ dyN ((k + 2) % 4) = -dyN k := by
  match k, h with
  | 0, _ => decide
  | 1, _ => decide
  | 2, _ => decide
  | 3, _ => decide
theorem crL_turn : ∀ s : List Nat, (∀ k ∈ s, k < 4) → crL (s.map fun k => (k + 1) % 4) = (-(crL s).2.1, (crL s).1, (crL s).2.2)
  | [], _ => rfl
  | k :: s, h => by
    have ih := crL_turn s fun x hx => h x (by simp [hx])
    have hk := dx_turn (h k (by simp))
    rw [List.map_cons, crL, ih, crL, hk.1, hk.2.1]
    dsimp only
    refine Prod.ext (by dsimp only; omega) (Prod.ext (by dsimp only) ?_)
    dsimp only
    grind
theorem crL_back : ∀ s : List Nat, (∀ k ∈ s, k < 4) → crL (s.reverse.map fun k => (k + 2) % 4) = (-(crL s).1, -(crL s).2.1, -(crL s).2.2)
  | [], _ => rfl
  | k :: s, h => by
    have ih := crL_back s fun x hx => h x (by simp [hx])
    have hk := dx_turn (h k (by simp))
    rw [List.reverse_cons, List.map_append, crL_app, ih, List.map_singleton]
    simp only [crL]
    rw [hk.2.2.1, hk.2.2.2]
    refine Prod.ext (by dsimp only; omega) (Prod.ext (by dsimp only; omega) ?_)
    dsimp only
    grind
theorem crL_rep (s : List Nat) : ∀ d : Nat, crL (List.replicate d s).flatten = ((d : Int) * (crL s).1, (d : Int) * (crL s).2.1, (d : Int) * (crL s).2.2)
  | 0 => by simp [crL]
  | d + 1 => by
    rw [List.replicate_succ, List.flatten_cons, crL_app, crL_rep s d]
    dsimp only
    refine Prod.ext ?_ (Prod.ext ?_ ?_) <;> dsimp only <;> push_cast <;> grind
theorem crT_is : ∀ t, okTm t = true → crT t = crL (stpW t)
  | .l k, _ => by simp [crT, stpW, crL]
  | .b t, h => by rw [stpW, crL_back _ (stp_lt t h), ← crT_is t h]; rfl
  | .u t, h => by rw [stpW, crL_turn _ (stp_lt t h), ← crT_is t h]; rfl
  | .r d t, h => by
    unfold okTm at h
    simp only [Bool.and_eq_true, decide_eq_true_eq] at h
    rw [stpW, crL_rep, ← crT_is t h.2]; rfl
  | .j a c, h => by
    unfold okTm at h
    simp only [Bool.and_eq_true] at h
    rw [stpW, crL_app, ← crT_is a h.1, ← crT_is c h.2]; rfl
theorem dxy (k : Nat) : (dxN k = 0 ∧ (dyN k = 0 ∨ dyN k = 1 ∨ dyN k = -1)) ∨ (dyN k = 0 ∧ (dxN k = 1 ∨ dxN k = -1)) := by
  unfold dxN dyN
  by_cases h0 : k = 0
  · subst h0; decide
  · by_cases h1 : k = 1
    · subst h1; decide
    · by_cases h2 : k = 2
      · subst h2; decide
      · by_cases h3 : k = 3
        · subst h3; decide
        · simp [h0, h1, h2, h3]
theorem crL_bd : ∀ s : List Nat, (-(s.length : Int) ≤ (crL s).1 ∧ (crL s).1 ≤ s.length) ∧ (-(s.length : Int) ≤ (crL s).2.1 ∧ (crL s).2.1 ≤ s.length)
  | [] => by simp [crL]
  | k :: s => by
    have ih := crL_bd s
    rw [crL, List.length_cons]
    have hd := dxy k
    dsimp only
    push_cast
    omega
theorem crL_area : ∀ s : List Nat, -((s.length : Int) * s.length) ≤ (crL s).2.2 ∧ (crL s).2.2 ≤ (s.length : Int) * s.length
  | [] => by simp [crL]
  | k :: s => by
    have ih := crL_area s
    have hb := crL_bd s
    rw [crL, List.length_cons]
    dsimp only
    push_cast
    rw [show ((s.length : Int) + 1) * ((s.length : Int) + 1) = (s.length : Int) * s.length + 2 * s.length + 1 by grind]
    generalize (s.length : Int) * s.length = q at *
    rcases dxy k with ⟨h1, h2 | h2 | h2⟩ | ⟨h1, h2 | h2⟩ <;> rw [h1, h2] <;> omega
theorem crL_par : ∀ s : List Nat, (∀ k ∈ s, k < 4) → ((crL s).1 + (crL s).2.1 - s.length) % 2 = 0
  | [], _ => by simp [crL]
  | k :: s, h => by
    have ih := crL_par s fun x hx => h x (by simp [hx])
    have hk := h k (by simp)
    rw [crL, List.length_cons]
    dsimp only
    push_cast
    have : (dxN k + dyN k - 1) % 2 = 0 := by
      match k, hk with
      | 0, _ => decide
      | 1, _ => decide
      | 2, _ => decide
      | 3, _ => decide
    omega

/-- The term without signs: what it becomes backwards or not, turned by some quarters. -/
def tdT : Tm → Bool → Nat → Tm
  | .l k, w, q => .l ((k + (if w = true then 2 else 0) + q) % 4)
  | .b t, w, q => tdT t (!w) q
  | .u t, w, q => tdT t w (q + 1)
  | .r d t, w, q => .r d (tdT t w q)
  | .j a c, w, q => if w = true then .j (tdT c w q) (tdT a w q) else .j (tdT a w q) (tdT c w q)
theorem td_ok : ∀ t w q, okTm t = true → okTm (tdT t w q) = true
  | .l k, w, q, _ => by unfold tdT okTm; exact decide_eq_true (by omega)
  | .b t, w, q, h => td_ok t _ _ h
  | .u t, w, q, h => td_ok t _ _ h
  | .r d t, w, q, h => by
    unfold okTm at h
    simp only [Bool.and_eq_true] at h
    unfold tdT okTm
    rw [h.1, td_ok t w q h.2]; rfl
  | .j a c, w, q, h => by
    unfold okTm at h
    simp only [Bool.and_eq_true] at h
    unfold tdT
    split <;> (unfold okTm; rw [td_ok a w q h.1, td_ok c w q h.2]; rfl)
theorem td_len : ∀ t w q, (wrT (tdT t w q)).length ≤ (wrT t).length
  | .l k, w, q => by simp [tdT, wrT]
  | .b t, w, q => by have := td_len t (!w) q; simp only [tdT, wrT, List.length_cons]; omega
  | .u t, w, q => by have := td_len t w (q + 1); simp only [tdT, wrT, List.length_cons]; omega
  | .r d t, w, q => by have := td_len t w q; simp only [tdT, wrT, List.length_cons]; omega
  | .j a c, w, q => by
    have h1 := td_len a w q
    have h2 := td_len c w q
    unfold tdT
    split <;> (simp only [wrT, List.length_cons, List.length_append, List.length_nil]; omega)
/-- Letters backwards or not, turned. -/
def mvL (w : Bool) (q : Nat) (s : List Nat) : List Nat := (if w = true then s.reverse else s).map fun k => (k + (if w = true then 2 else 0) + q) % 4
theorem mv_app (w : Bool) (q : Nat) (a c : List Nat) : mvL w q (a ++ c) = if w = true then mvL w q c ++ mvL w q a else mvL w q a ++ mvL w q c := by
  unfold mvL
  cases w <;> simp
theorem mv_rep (w : Bool) (q : Nat) (s : List Nat) : ∀ d, mvL w q (List.replicate d s).flatten = (List.replicate d (mvL w q s)).flatten
  | 0 => by cases w <;> simp [mvL]
  | d + 1 => by
    have ih := mv_rep w q s d
    rw [List.replicate_succ, List.flatten_cons, mv_app, ih]
    cases w
    · rw [if_neg Bool.false_ne_true, List.replicate_succ, List.flatten_cons]
    · rw [if_pos rfl, List.replicate_succ', List.flatten_append]; simp
theorem td_stp : ∀ t w q, okTm t = true → stpW (tdT t w q) = mvL w q (stpW t)
  | .l k, w, q, _ => by cases w <;> simp [tdT, stpW, mvL]
  | .b t, w, q, h => by
    rw [tdT, td_stp t (!w) q h, stpW]
    unfold mvL
    cases w
    · simp only [Bool.not_false, if_true, if_neg Bool.false_ne_true, List.map_map]
      refine List.map_congr_left fun k _ => ?_
      simp only [Function.comp_apply]
      omega
    · simp only [Bool.not_true, if_true, if_neg Bool.false_ne_true, List.map_map, ← List.map_reverse, List.reverse_reverse]
      refine List.map_congr_left fun k _ => ?_
      simp only [Function.comp_apply]
      omega
  | .u t, w, q, h => by
    rw [tdT, td_stp t w (q + 1) h, stpW]
    unfold mvL
    cases w
    · simp only [if_neg Bool.false_ne_true, List.map_map]
      refine List.map_congr_left fun k _ => ?_
      simp only [Function.comp_apply]
      omega
    · simp only [if_true, List.map_map, ← List.map_reverse]
      refine List.map_congr_left fun k _ => ?_
      simp only [Function.comp_apply]
      omega
  | .r d t, w, q, h => by
    unfold okTm at h
    simp only [Bool.and_eq_true] at h
    rw [tdT, stpW, td_stp t w q h.2, stpW, mv_rep]
  | .j a c, w, q, h => by
    unfold okTm at h
    simp only [Bool.and_eq_true] at h
    rw [tdT, stpW, mv_app]
    split <;> rw [stpW, td_stp a w q h.1, td_stp c w q h.2]
theorem td_same {t : Tm} (h : okTm t = true) : stpW (tdT t false 0) = stpW t := by
  rw [td_stp t false 0 h]
  unfold mvL
  rw [if_neg Bool.false_ne_true]
  conv => rhs; rw [← List.map_id (stpW t)]
  refine List.map_congr_left fun k hk => ?_
  have := stp_lt t h k hk
  simp
  omega
/-- A term without signs. -/
def noS : Tm → Bool
  | .l _ => true
  | .b _ => false
  | .u _ => false
  | .r _ t => noS t
  | .j a c => noS a && noS c
theorem td_noS : ∀ t w q, noS (tdT t w q) = true
  | .l _, _, _ => rfl
  | .b t, w, q => td_noS t _ _
  | .u t, w, q => td_noS t _ _
  | .r d t, w, q => td_noS t w q
  | .j a c, w, q => by unfold tdT; split <;> (unfold noS; rw [td_noS a w q, td_noS c w q]; rfl)
theorem td_still : ∀ t, okTm t = true → noS t = true → tdT t false 0 = t
  | .l k, h, _ => by
    have : k < 4 := by simpa [okTm] using h
    simp [tdT]; omega
  | .b t, _, h => by simp [noS] at h
  | .u t, _, h => by simp [noS] at h
  | .r d t, h, hn => by
    unfold okTm at h
    simp only [Bool.and_eq_true] at h
    rw [tdT, td_still t h.2 hn]
  | .j a c, h, hn => by
    unfold okTm at h
    unfold noS at hn
    simp only [Bool.and_eq_true] at h hn
    rw [tdT, if_neg Bool.false_ne_true, td_still a h.1 hn.1, td_still c h.2 hn.2]
theorem letB_no (k : Nat) : letB k ≠ 45 ∧ letB k ≠ 64 := by
  unfold letB
  split
  · decide
  · split
    · decide
    · split <;> decide
theorem noS_wr : ∀ t, okTm t = true → noS t = true → ∀ c ∈ wrT t, c ≠ 45 ∧ c ≠ 64
  | .l k, _, _, c, hc => by simp [wrT] at hc; rw [hc]; exact letB_no k
  | .b t, _, h, _, _ => by simp [noS] at h
  | .u t, _, h, _, _ => by simp [noS] at h
  | .r d t, h, hn, c, hc => by
    unfold okTm at h
    simp only [Bool.and_eq_true, decide_eq_true_eq] at h
    simp only [wrT, List.mem_cons] at hc
    rcases hc with rfl | hc
    · have : d = 2 ∨ d = 3 ∨ d = 4 ∨ d = 5 ∨ d = 6 ∨ d = 7 ∨ d = 8 ∨ d = 9 := by omega
      rcases this with rfl | rfl | rfl | rfl | rfl | rfl | rfl | rfl <;> decide
    · exact noS_wr t h.2 hn c hc
  | .j a d, h, hn, c, hc => by
    unfold okTm at h
    unfold noS at hn
    simp only [Bool.and_eq_true] at h hn
    simp only [wrT, List.mem_cons, List.mem_append, List.not_mem_nil, or_false] at hc
    rcases hc with rfl | hc | rfl | hc | rfl
    · decide
    · exact noS_wr a h.1 hn.1 c hc
    · decide
    · exact noS_wr d h.2 hn.2 c hc
    · decide
/-- The tidy text. -/
def tidB (t : Tm) (w : Bool) (q : Nat) : List UInt8 := wrT (tdT t w q)
theorem tid_tm {s : List UInt8} {t : Tm} (h : tmOf s = some t) : tmOf (tidB t false 0) = some (tdT t false 0) ∧ (tidB t false 0).length ≤ s.length := by
  obtain ⟨h1, h2, h3⟩ := tmOf_iff.1 h
  have := td_len t false 0
  rw [← h3] at this
  exact ⟨tmOf_iff.2 ⟨by unfold tidB; omega, td_ok t _ _ h2, rfl⟩, this⟩

/-- How often the next letter is so many quarters to the left. -/
def trnL (d : Nat) : List Nat → Nat
  | a :: b :: s => (if (b + 4 - a) % 4 = d then 1 else 0) + trnL d (b :: s)
  | _ => 0
theorem trn_snoc (d : Nat) : ∀ (s : List Nat) (a b : Nat), trnL d (s ++ [a, b]) = trnL d (s ++ [a]) + if (b + 4 - a) % 4 = d then 1 else 0
  | [], a, b => by simp [trnL]
  | [x], a, b => by simp [trnL]
  | x :: y :: s, a, b => by
    have := trn_snoc d (y :: s) a b
    simp only [List.cons_append] at this ⊢
    rw [trnL, this, trnL]; omega
theorem trn_back {d e : Nat} (hde : (d + e) % 4 = 0) (hd : d < 4) (he : e < 4) : ∀ s : List Nat, (∀ k ∈ s, k < 4) → trnL d (s.reverse.map fun k => (k + 2) % 4) = trnL e s
  | [], _ => rfl
  | [x], _ => rfl
  | x :: y :: s, h => by
    have ih := trn_back hde hd he (y :: s) fun k hk => h k (List.mem_cons_of_mem _ hk)
    have hx := h x (by simp)
    have hy := h y (by simp)
    rw [List.reverse_cons, List.map_append, List.reverse_cons, List.map_append, List.append_assoc]
    rw [List.reverse_cons, List.map_append] at ih
    simp only [List.map_cons, List.map_nil, List.singleton_append] at ih ⊢
    rw [trn_snoc, ih, trnL]
    have : (((x + 2) % 4 + 4 - (y + 2) % 4) % 4 = d) ↔ ((y + 4 - x) % 4 = e) := by omega
    by_cases g : (y + 4 - x) % 4 = e
    · rw [if_pos g, if_pos (this.2 g)]; omega
    · rw [if_neg g, if_neg (fun h => g (this.1 h))]; omega
theorem trn_few : ∀ s : List Nat, s ≠ [] → trnL 1 s + trnL 3 s + trnL 2 s < s.length
  | [], h => absurd rfl h
  | [x], _ => by simp [trnL]
  | x :: y :: s, _ => by
    have ih := trn_few (y :: s) (by simp)
    rw [trnL, trnL, trnL, List.length_cons]
    have h4 : (y + 4 - x) % 4 < 4 := by omega
    split <;> split <;> split <;> omega
end Go.Proofs.YtegpidlhhneilaaDoor
