/- Pure facts of points inside: area and rim tell their number (chains). -/
import Derived.Test.YthpgenkdiokpeaaBoxP
namespace Go.Proofs.Ythpgenkdiokpeaa

/-! Chains to the right. -/
/-- A step to the right, or straight down. -/
def rgtP (s : Pt) : Prop := 0 < s.1 ∨ (s.1 = 0 ∧ s.2 < 0)
structure ChR (t : List Pt) : Prop where
  rgt : ∀ s ∈ t, rgtP s
  srt : SortP t
theorem ChR.tail {s : Pt} {t : List Pt} (h : ChR (s :: t)) : ChR t := ⟨fun b hb => h.rgt b (by simp [hb]), (List.pairwise_cons.1 h.srt).2⟩
theorem ChR.head {s : Pt} {t : List Pt} (h : ChR (s :: t)) : ∀ b ∈ t, 0 ≤ crs s b := (List.pairwise_cons.1 h.srt).1
/-- What comes behind a step to the right leads to the right. -/
theorem rgt_behind {s b : Pt} (hs : 0 < s.1) (hb : rgtP b) (h : 0 ≤ crs s b) : 0 < b.1 := by
  rcases hb with hb | ⟨hb, hb2⟩
  · exact hb
  · have := Int.mul_neg_of_pos_of_neg hs hb2
    simp only [crs, hb] at h
    simp at h
    omega
theorem cross_id (a p d : Pt) : a.1 * crs p d = p.1 * crs a d + d.1 * crs p a := by simp only [crs]; grind
theorem tot_fst {t : List Pt} (h : ∀ b ∈ t, 0 ≤ b.1) : 0 ≤ (tot t).1 := by
  induction t with
  | nil => simp [tot]
  | cons s t ih =>
    have h1 := ih fun b hb => h b (by simp [hb])
    have h2 := h s (by simp)
    rw [tot_cons]
    simp only [addP]; omega
theorem rgt_nn {b : Pt} (h : rgtP b) : 0 ≤ b.1 := by rcases h with h | ⟨h, _⟩ <;> omega
/-- To the left of all steps of a chain. -/
def lefC (q : Pt) : Pt → List Pt → Prop
  | _, [] => True
  | o, s :: t => 0 < crs s (subP q o) ∧ lefC q (addP o s) t
/-- The whole part of a chain's height. -/
def loC (x : Int) : Pt → List Pt → Int
  | _, [] => 0
  | o, s :: t => if x < o.1 + s.1 then o.2 + s.2 * (x - o.1) / s.1 else loC x (addP o s) t
theorem lef_behind {q : Pt} : ∀ (t : List Pt) (o s : Pt), 0 < s.1 → (∀ b ∈ t, 0 ≤ crs s b) → ChR t → q.1 ≤ o.1 → 0 < crs s (subP q o) → lefC q o t
  | [], _, _, _, _, _, _, _ => trivial
  | b :: t, o, s, hs, hb, ht, hq, hc => by
    have h1 := hb b (by simp)
    have hb1 := rgt_behind hs (ht.rgt b (by simp)) h1
    have h2 : 0 < crs b (subP q o) := by
      have e := cross_id s b (subP q o)
      have e2 := crs_swap b s
      have k1 := Int.mul_pos hb1 hc
      have k2 : 0 ≤ (subP q o).1 * crs b s := Int.mul_nonneg_of_nonpos_of_nonpos (by simp only [subP]; omega) (by omega)
      exact pos_left hs (by omega)
    refine ⟨h2, lef_behind t (addP o b) b hb1 ht.head ht.tail (by simp only [addP]; omega) ?_⟩
    have : crs b (subP q (addP o b)) = crs b (subP q o) := by simp only [crs, subP, addP]; grind
    omega
theorem lef_ahead {q : Pt} : ∀ (t : List Pt) (o s : Pt), 0 < s.1 → (∀ b ∈ t, 0 ≤ crs s b) → ChR t → o.1 ≤ q.1 → q.1 < o.1 + (tot t).1 → lefC q o t → 0 < crs s (subP q o)
  | [], o, s, _, _, _, h1, h2, _ => by simp [tot] at h2; omega
  | b :: t, o, s, hs, hb, ht, h1, h2, hl => by
    have k1 := hb b (by simp)
    have hb1 := rgt_behind hs (ht.rgt b (by simp)) k1
    by_cases c : q.1 < o.1 + b.1
    · have e := cross_id b s (subP q o)
      have k2 := Int.mul_pos hs hl.1
      have k3 : 0 ≤ (subP q o).1 * crs s b := Int.mul_nonneg (by simp only [subP]; omega) k1
      exact pos_left hb1 (by omega)
    · have h3 := lef_ahead t (addP o b) s hs (fun x hx => hb x (by simp [hx])) ht.tail (by simp only [addP]; omega) (by rw [tot_cons] at h2; simp only [addP] at h2 ⊢; omega) hl.2
      have e : crs s (subP q o) = crs s (subP q (addP o b)) + crs s b := by simp only [crs, subP, addP]; grind
      omega
theorem lo_one {q o s : Pt} (hs : 0 < s.1) : 0 < crs s (subP q o) ↔ o.2 + s.2 * (q.1 - o.1) / s.1 < q.2 := by
  have h := Int.ediv_lt_iff_lt_mul (a := s.2 * (q.1 - o.1)) (b := q.2 - o.2) hs
  have e : crs s (subP q o) = (q.2 - o.2) * s.1 - s.2 * (q.1 - o.1) := by simp only [crs, subP]; grind
  rw [e]
  omega
/-- The chain's height tells what is to the left. -/
theorem lef_lo {q : Pt} : ∀ (t : List Pt) (o : Pt), ChR t → o.1 ≤ q.1 → q.1 < o.1 + (tot t).1 → (o.1 < q.1 ∨ ∀ b ∈ t, 0 < b.1) → (lefC q o t ↔ loC q.1 o t < q.2)
  | [], o, _, h1, h2, _ => by simp [tot] at h2; omega
  | s :: t, o, ht, h1, h2, h3 => by
    have hr := ht.rgt s (by simp)
    unfold lefC loC
    by_cases c : q.1 < o.1 + s.1
    · rw [if_pos c]
      have hs : 0 < s.1 := by omega
      rw [lo_one hs]
      constructor
      · exact fun h => h.1
      · intro h
        refine ⟨h, lef_behind t (addP o s) s hs ht.head ht.tail (by simp only [addP]; omega) ?_⟩
        have := (lo_one (q := q) (o := o) hs).2 h
        have e : crs s (subP q (addP o s)) = crs s (subP q o) := by simp only [crs, subP, addP]; grind
        omega
    · rw [if_neg c]
      have h2' : q.1 < (addP o s).1 + (tot t).1 := by rw [tot_cons] at h2; simp only [addP] at h2 ⊢; omega
      rcases hr with hs | ⟨hs, hs2⟩
      · have hall : ∀ b ∈ t, 0 < b.1 := fun b hb => rgt_behind hs (ht.rgt b (by simp [hb])) (ht.head b hb)
        rw [← lef_lo t (addP o s) ht.tail (by simp only [addP]; omega) h2' (.inr hall)]
        constructor
        · exact fun h => h.2
        · intro h
          refine ⟨?_, h⟩
          have := lef_ahead t (addP o s) s hs ht.head ht.tail (by simp only [addP]; omega) h2' h
          have e : crs s (subP q (addP o s)) = crs s (subP q o) := by simp only [crs, subP, addP]; grind
          omega
      · have hlt : o.1 < q.1 := by
          rcases h3 with h | h
          · exact h
          · have := h s (by simp); omega
        rw [← lef_lo t (addP o s) ht.tail (by simp only [addP]; omega) h2' (.inl (by simp only [addP]; omega))]
        constructor
        · exact fun h => h.2
        · intro h
          refine ⟨?_, h⟩
          have k := Int.mul_pos_of_neg_of_neg hs2 (show o.1 - q.1 < 0 by omega)
          have e : crs s (subP q o) = s.2 * (o.1 - q.1) := by simp only [crs, subP, hs]; grind
          omega

/-! The sum of heights. -/
def gS (t : List Pt) : Int := (t.map gcdP).sum
def vN : List Pt → Int
  | [] => 0
  | s :: t => (if s.1 = 0 then gcdP s else 0) + vN t
theorem floor_sum {s : Pt} (h : stepP s) (h1 : 0 < s.1) : 2 * sumF (fun j => s.2 * (j : Nat) / s.1) s.1.toNat = s.1 * s.2 - s.2 - s.1 + gcdP s := by
  have key : ∀ m : Fin 9, ∀ b : Fin 19, 2 * sumF (fun j => ((b.1 : Int) - 9) * (j : Nat) / ((m.1 : Int) + 1)) (m.1 + 1) = ((m.1 : Int) + 1) * ((b.1 : Int) - 9) - ((b.1 : Int) - 9) - ((m.1 : Int) + 1) + ((Nat.gcd ((m.1 : Int) + 1).natAbs ((b.1 : Int) - 9).natAbs : Nat) : Int) := by decide +kernel
  obtain ⟨x, y⟩ := s
  obtain ⟨h2, h3, _⟩ := h
  dsimp only at h1 h2 h3 ⊢
  have := key ⟨(x - 1).toNat, by omega⟩ ⟨(y + 9).toNat, by omega⟩
  have ex : (((x - 1).toNat : Nat) : Int) + 1 = x := by omega
  have ey : (((y + 9).toNat : Nat) : Int) - 9 = y := by omega
  have en : (x - 1).toNat + 1 = x.toNat := by omega
  simp only [ex, ey, en] at this
  exact this
/-- What the chain's steps give. -/
def chC : Pt → List Pt → Int
  | _, [] => 0
  | o, s :: t => ((2 * o.2 + s.2) * s.1 - s.2 - s.1 + gcdP s) + chC (addP o s) t
theorem chC_ar : ∀ (t : List Pt) (o : Pt), chC o t = -arP o t + ((o.1 + (tot t).1) * (o.2 + (tot t).2) - o.1 * o.2) - (tot t).2 - (tot t).1 + gS t
  | [], o => by simp [chC, arP, tot, gS]
  | s :: t, o => by
    have h := chC_ar t (addP o s)
    have e : gS (s :: t) = gcdP s + gS t := by simp [gS]
    have e2 : arP o (s :: t) = crs o s + arP (addP o s) t := rfl
    rw [chC, h, e, e2, tot_cons]
    generalize arP (addP o s) t = w
    simp only [addP, crs]
    grind
theorem sumF_split (f : Nat → Int) (a : Nat) : ∀ b, sumF f (a + b) = sumF f a + sumF (fun i => f (a + i)) b
  | 0 => by simp [sumF]
  | b + 1 => by rw [← Nat.add_assoc, sumF, sumF, sumF_split f a b]; omega
theorem sumF_const (c : Int) (f : Nat → Int) : ∀ n, sumF (fun i => c + f i) n = c * n + sumF f n
  | 0 => by simp [sumF]
  | n + 1 => by
    simp only [sumF, sumF_const c f n]
    have : c * ((n + 1 : Nat) : Int) = c * n + c := by rw [Int.natCast_add, Int.mul_add]; simp
    omega
theorem lo_sum : ∀ (t : List Pt) (o : Pt), ChR t → (∀ s ∈ t, stepP s) → 2 * sumF (fun j => loC (o.1 + (j : Nat)) o t) (tot t).1.toNat = chC o t - 2 * vN t
  | [], o, _, _ => by simp [tot, sumF, chC, vN]
  | s :: t, o, ht, hst => by
    have ih := lo_sum t (addP o s) ht.tail (fun b hb => hst b (by simp [hb]))
    have hs := hst s (by simp)
    have hnn := tot_fst fun b hb => rgt_nn (ht.tail.rgt b hb)
    have ew : (tot (s :: t)).1.toNat = s.1.toNat + (tot t).1.toNat := by
      have := rgt_nn (ht.rgt s (by simp))
      rw [tot_cons]; simp only [addP]; omega
    rw [ew, sumF_split, Int.mul_add]
    have hs0 := rgt_nn (ht.rgt s (by simp))
    have e2 : sumF (fun i => loC (o.1 + ((s.1.toNat + i : Nat) : Int)) o (s :: t)) (tot t).1.toNat = sumF (fun j => loC ((addP o s).1 + (j : Nat)) (addP o s) t) (tot t).1.toNat := by
      refine sumF_congr fun i _ => ?_
      rw [loC, if_neg (by omega)]
      congr 1
      simp only [addP]; omega
    rw [e2, ih]
    rcases ht.rgt s (by simp) with h1 | ⟨h1, h2⟩
    · have e1 : sumF (fun j => loC (o.1 + (j : Nat)) o (s :: t)) s.1.toNat = sumF (fun j => o.2 + s.2 * (j : Nat) / s.1) s.1.toNat := by
        refine sumF_congr fun j hj => ?_
        rw [loC, if_pos (by omega)]
        congr 3
        omega
      have e3 : vN (s :: t) = vN t := by rw [vN, if_neg (by omega)]; omega
      have e4 : ((s.1.toNat : Nat) : Int) = s.1 := by omega
      rw [e1, sumF_const, Int.mul_add, floor_sum hs h1, e3, e4, chC]
      grind
    · have e1 : s.1.toNat = 0 := by omega
      have e3 : vN (s :: t) = gcdP s + vN t := by rw [vN, if_pos h1]
      have e4 : gcdP s = -s.2 := by unfold gcdP; rw [h1]; simp; omega
      rw [e1, e3, chC, h1, e4]
      simp only [sumF]
      grind
/-- The height at the beginning. -/
theorem lo_first : ∀ (t : List Pt) (o : Pt), ChR t → (∀ s ∈ t, stepP s) → 0 < (tot t).1 → loC o.1 o t = o.2 - vN t
  | [], o, _, _, h => by simp [tot] at h
  | s :: t, o, ht, hst, h => by
    rcases ht.rgt s (by simp) with h1 | ⟨h1, h2⟩
    · have hv : ∀ u : List Pt, (∀ b ∈ u, 0 < b.1) → vN u = 0 := fun u => by
        induction u with
        | nil => intro _; rfl
        | cons b u ih =>
          intro hb
          have := hb b (by simp)
          rw [vN, ih fun x hx => hb x (by simp [hx]), if_neg (by omega)]; rfl
      rw [loC, if_pos (by omega), hv (s :: t) (fun b hb => by
        rcases List.mem_cons.1 hb with rfl | hb
        · exact h1
        · exact rgt_behind h1 (ht.rgt b (by simp [hb])) (ht.head b hb))]
      simp
    · have ih := lo_first t (addP o s) ht.tail (fun b hb => hst b (by simp [hb])) (by rw [tot_cons] at h; simp only [addP] at h; omega)
      have e4 : gcdP s = -s.2 := by unfold gcdP; rw [h1]; simp; omega
      have e5 : (addP o s).1 = o.1 := by simp only [addP]; omega
      rw [loC, if_neg (by omega), vN, if_pos h1, e4]
      rw [e5] at ih
      rw [ih]
      simp only [addP]; omega

/-! Chords. -/
theorem lo_cover {x : Int} : ∀ (t : List Pt) (o : Pt), (∀ s ∈ t, rgtP s) → o.1 ≤ x → x < o.1 + (tot t).1 → ∃ X a Y, t = X ++ (a :: Y) ∧ 0 < a.1 ∧ o.1 + (tot X).1 ≤ x ∧ x < o.1 + (tot X).1 + a.1 ∧ loC x o t = o.2 + (tot X).2 + a.2 * (x - (o.1 + (tot X).1)) / a.1
  | [], o, _, h1, h2 => by simp [tot] at h2; omega
  | s :: t, o, hr, h1, h2 => by
    by_cases c : x < o.1 + s.1
    · exact ⟨[], s, t, rfl, by omega, by simp [tot]; omega, by simp [tot]; omega, by rw [loC, if_pos c]; simp [tot]⟩
    · obtain ⟨X, a, Y, e, h3, h4, h5, h6⟩ := lo_cover (x := x) t (addP o s) (fun b hb => hr b (by simp [hb])) (by simp only [addP]; omega) (by have e := congrArg Prod.fst (tot_cons s t); simp only [addP] at e ⊢; omega)
      refine ⟨s :: X, a, Y, by rw [e]; rfl, h3, ?_, ?_, ?_⟩
      · rw [tot_cons]; simp only [addP] at h4 ⊢; omega
      · rw [tot_cons]; simp only [addP] at h5 ⊢; omega
      · rw [loC, if_neg c, h6, tot_cons]
        simp only [addP]
        rw [show o.1 + s.1 + (tot X).1 = o.1 + (s.1 + (tot X).1) by omega]
        omega
theorem crs_each {a : Pt} {l : List Pt} (h : ∀ s ∈ l, 0 ≤ crs a s) (h0 : crs a (tot l) = 0) : ∀ s ∈ l, crs a s = 0 := by
  have h1 := all_zero (a := negP a) (l := l) (fun s hs => by
    have := h s hs
    have e : crs (negP a) s = -crs a s := by simp only [crs, negP]; grind
    omega) (by
    have e : crs (negP a) (tot l) = -crs a (tot l) := by simp only [crs, negP]; grind
    omega)
  intro s hs
  have := h1 s hs
  have e : crs (negP a) s = -crs a s := by simp only [crs, negP]; grind
  omega
theorem each_crs {a : Pt} {l : List Pt} (h : ∀ s ∈ l, 0 ≤ crs s a) (h0 : crs (tot l) a = 0) : ∀ s ∈ l, crs s a = 0 := by
  have h1 := all_zero (a := a) (l := l) (fun s hs => by have := h s hs; have := crs_swap s a; omega) (by have := crs_swap (tot l) a; omega)
  intro s hs
  have := h1 s hs
  have := crs_swap s a
  omega
theorem crs_two {X Y : List Pt} (h : ∀ a ∈ X, ∀ b ∈ Y, 0 ≤ crs a b) : 0 ≤ crs (tot X) (tot Y) := tot_crs _ X fun a ha => crs_tot a Y (h a ha)
/-- What lies not above a chain lies not above its chord; on it only if the chain is a line. -/
theorem chord {t : List Pt} {o q : Pt} (ht : ChR t) (h0 : ∀ s ∈ t, s ≠ (0, 0)) (h1 : o.1 < q.1) (h2 : q.1 < o.1 + (tot t).1) (hq : q.2 ≤ loC q.1 o t) : crs (tot t) (subP q o) ≤ 0 ∧ (crs (tot t) (subP q o) = 0 → arP (0, 0) t = 0) := by
  obtain ⟨X, a, Y, rfl, ha, h4, h5, h6⟩ := lo_cover t o ht.rgt (by omega) h2
  have p := List.pairwise_append.1 ht.srt
  have p2 := List.pairwise_cons.1 p.2.1
  have cXa : 0 ≤ crs (tot X) a := tot_crs a X fun b hb => p.2.2 b hb a (by simp)
  have cXY : 0 ≤ crs (tot X) (tot Y) := crs_two fun b hb c hc => p.2.2 b hb c (by simp [hc])
  have caY : 0 ≤ crs a (tot Y) := crs_tot a Y p2.1
  obtain ⟨d, ed⟩ : ∃ d, d = subP q (addP o (tot X)) := ⟨_, rfl⟩
  have d1 : 0 ≤ d.1 ∧ d.1 < a.1 := by rw [ed]; simp only [subP, addP]; omega
  have cad : crs a d ≤ 0 := by
    have hh := lo_one (q := q) (o := addP o (tot X)) ha
    rw [← ed] at hh
    simp only [addP] at hh
    rcases Int.lt_or_le 0 (crs a d) with h | h
    · have := hh.1 h
      omega
    · exact h
  have et : tot (X ++ a :: Y) = addP (tot X) (addP a (tot Y)) := by rw [tot_append, tot_cons]
  have hT : 0 < (tot (X ++ a :: Y)).1 := by omega
  have eq : subP q o = addP (tot X) d := by rw [ed]; exact Prod.ext (by simp only [subP, addP]; omega) (by simp only [subP, addP]; omega)
  have key : a.1 * crs (tot (X ++ a :: Y)) (subP q o) = (tot (X ++ a :: Y)).1 * crs a d - (a.1 - d.1) * crs (tot X) a - a.1 * crs (tot X) (tot Y) - d.1 * crs a (tot Y) := by
    rw [eq, et]
    generalize tot X = x
    generalize tot Y = y
    simp only [crs, addP]
    grind
  have k1 : (tot (X ++ a :: Y)).1 * crs a d ≤ 0 := Int.mul_nonpos_of_nonneg_of_nonpos (by omega) cad
  have k2 : 0 ≤ (a.1 - d.1) * crs (tot X) a := Int.mul_nonneg (by omega) cXa
  have k3 : 0 ≤ a.1 * crs (tot X) (tot Y) := Int.mul_nonneg (by omega) cXY
  have k4 : 0 ≤ d.1 * crs a (tot Y) := Int.mul_nonneg d1.1 caY
  refine ⟨?_, fun hz => ?_⟩
  · rcases Int.lt_or_le 0 (crs (tot (X ++ a :: Y)) (subP q o)) with h | h
    · have := Int.mul_pos ha h; omega
    · exact h
  · rw [hz, Int.mul_zero] at key
    have z2 : crs (tot X) a = 0 := by
      rcases Int.mul_eq_zero.1 (show (a.1 - d.1) * crs (tot X) a = 0 by omega) with h | h
      · omega
      · exact h
    have z3 : crs (tot X) (tot Y) = 0 := by
      rcases Int.mul_eq_zero.1 (show a.1 * crs (tot X) (tot Y) = 0 by omega) with h | h
      · omega
      · exact h
    have z4 : crs a (tot Y) = 0 := by
      rcases Int.mul_eq_zero.1 (show d.1 * crs a (tot Y) = 0 by omega) with h | h
      · have hX : tot X ≠ (0, 0) := fun e => by
          rw [ed] at h
          rw [e] at h
          simp only [subP, addP] at h
          omega
        have z5 : crs a (tot X) = 0 := by rw [crs_swap, z2]; rfl
        exact flat_trans hX z5 z3
      · exact h
    have a0 : a ≠ (0, 0) := h0 a (by simp)
    have wX := each_crs (fun b hb => p.2.2 b hb a (by simp)) z2
    have wY := crs_each p2.1 z4
    have flat : ∀ s ∈ X ++ a :: Y, crs a s = 0 := fun s hs => by
      rcases List.mem_append.1 hs with hs | hs
      · rw [crs_swap, wX s hs]; rfl
      · rcases List.mem_cons.1 hs with rfl | hs
        · simp only [crs]; grind
        · exact wY s hs
    exact arP_flat _ _ (fun s _ => by simp [crs]) fun s hs u hu => flat_trans a0 (by rw [crs_swap, flat s hs]; rfl) (flat u hu)
end Go.Proofs.Ythpgenkdiokpeaa
