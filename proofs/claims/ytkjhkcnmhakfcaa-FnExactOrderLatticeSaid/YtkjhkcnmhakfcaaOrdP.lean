/- Pure facts of chapter 7: runs, orders by directions, pairs, zonogons. -/
import Derived.Test.YtkjhkcnmhakfcaaPathQ
namespace Go.Proofs.Ytkjhkcnmhakfcaa

/-! Steps in another order. -/
theorem addP_comm (a b : Pt) : addP a b = addP b a := Prod.ext (Int.add_comm _ _) (Int.add_comm _ _)
theorem addP_assoc (a b c : Pt) : addP (addP a b) c = addP a (addP b c) := Prod.ext (Int.add_assoc _ _ _) (Int.add_assoc _ _ _)
theorem addP_zero (a : Pt) : addP a (0, 0) = a := Prod.ext (Int.add_zero _) (Int.add_zero _)
theorem tot_cons (a : Pt) (t : List Pt) : tot (a :: t) = addP a (tot t) := rfl
theorem tot_perm {l m : List Pt} (h : l.Perm m) : tot l = tot m := by
  induction h with
  | nil => rfl
  | cons x _ ih => rw [tot_cons, tot_cons, ih]
  | swap x y t => rw [tot_cons, tot_cons, tot_cons, tot_cons, ← addP_assoc, ← addP_assoc, addP_comm y x]
  | trans _ _ h1 h2 => exact h1.trans h2
theorem IsPath.perm {l m : List Pt} (h : IsPath l) (p : m.Perm l) : IsPath m :=
  ⟨by rw [p.length_eq]; exact h.lo, by rw [p.length_eq]; exact h.hi, fun s hs => h.steps s (p.mem_iff.1 hs), by rw [tot_perm p]; exact h.closed⟩

/-! Runs. -/
def runP (l : List Pt) (f t : Nat) : List Pt := l.take f ++ (((l.drop f).take (t + 1 - f)).reverse ++ l.drop (t + 1))
theorem runP_perm (l : List Pt) {f t : Nat} (h : f ≤ t) : (runP l f t).Perm l := by
  unfold runP
  have e : l = l.take f ++ ((l.drop f).take (t + 1 - f) ++ l.drop (t + 1)) := by
    have e1 : (l.drop f).drop (t + 1 - f) = l.drop (t + 1) := by rw [List.drop_drop]; congr 1; omega
    rw [← e1, List.take_append_drop, List.take_append_drop]
  conv => rhs; rw [e]
  exact (((List.reverse_perm _).append_right _)).append_left _
theorem runP_len (l : List Pt) {f t : Nat} (h : f ≤ t) : (runP l f t).length = l.length := (runP_perm l h).length_eq
theorem runP_at {l : List Pt} {f t i : Nat} (h : f ≤ t) (ht : t < l.length) : atP (runP l f t) i = if f ≤ i ∧ i ≤ t then atP l (f + t - i) else atP l i := by
  unfold runP atP
  simp only [List.getD_eq_getElem?_getD]
  have l1 : (l.take f).length = f := by simp; omega
  have l2 : ((l.drop f).take (t + 1 - f)).length = t + 1 - f := by simp; omega
  by_cases h1 : i < f
  · rw [if_neg (by omega), List.getElem?_append_left (by omega), List.getElem?_take, if_pos h1]
  · rw [List.getElem?_append_right (by omega), l1]
    by_cases h2 : i ≤ t
    · rw [if_pos (by omega), List.getElem?_append_left (by rw [List.length_reverse]; omega), List.getElem?_reverse (by omega), l2, List.getElem?_take, if_pos (by omega), List.getElem?_drop]
      congr 2
      omega
    · rw [if_neg (by omega), List.getElem?_append_right (by rw [List.length_reverse]; omega), List.length_reverse, l2, List.getElem?_drop]
      congr 2
      omega

/-! Directions. -/
def befB (a b : Pt) : Bool := if upB a = upB b then decide (0 < crs a b) else upB a
def dnB (a : Pt) : Bool := decide (a.2 < 0) || (decide (a.2 = 0) && decide (a.1 < 0))
theorem dn_up {a : Pt} (h : a ≠ (0, 0)) : dnB a = !upB a := by
  obtain ⟨x, y⟩ := a
  have h0 : ¬(x = 0 ∧ y = 0) := fun e => h (Prod.ext e.1 e.2)
  unfold dnB upB
  dsimp only
  by_cases h1 : y < 0
  · have : ¬ 0 < y := by omega
    have h3 : y ≠ 0 := by omega
    simp [h1, this, h3]
  · by_cases h2 : y = 0
    · subst h2
      by_cases h3 : x < 0
      · have : ¬ 0 < x := by omega
        simp [h3, this]
      · have : 0 < x := by omega
        simp [h3, this]
    · have : 0 < y := by omega
      simp [h1, h2, this]
def cmpP (v w : Pt) : Int := if dnB v = dnB w then crs w v else if dnB v then 1 else -1
theorem crs_swap (a b : Pt) : crs a b = -crs b a := by simp only [crs]; grind
theorem cmp_bef {v w : Pt} (hv : v ≠ (0, 0)) (hw : w ≠ (0, 0)) : decide (cmpP v w < 0) = befB v w := by
  unfold cmpP befB
  rw [dn_up hv, dn_up hw]
  have := crs_swap w v
  cases upB v <;> cases upB w <;> simp <;> omega

def kP (x : Pt) (S : List Pt) : Nat → Nat
  | 0 => 0
  | k + 1 => if befB x (atP S k) = true then kP x S k else k + 1
theorem kP_le (x : Pt) (S : List Pt) : ∀ k, kP x S k ≤ k
  | 0 => Nat.le_refl _
  | k + 1 => by
    unfold kP
    split
    · have := kP_le x S k; omega
    · exact Nat.le_refl _
theorem kP_yes {x : Pt} {S : List Pt} {k : Nat} (h : befB x (atP S k) = true) : kP x S (k + 1) = kP x S k := by rw [kP, if_pos h]
theorem kP_no {x : Pt} {S : List Pt} {k : Nat} (h : befB x (atP S k) = false) : kP x S (k + 1) = k + 1 := by rw [kP, if_neg (by rw [h]; simp)]
def putP (x : Pt) (S : List Pt) (k : Nat) : List Pt := S.take k ++ x :: S.drop k
def insP (x : Pt) (S : List Pt) : List Pt := putP x S (kP x S S.length)
theorem putP_perm (x : Pt) (S : List Pt) (k : Nat) : (putP x S k).Perm (x :: S) := by
  unfold putP
  conv => rhs; rw [← List.take_append_drop k S]
  exact List.perm_middle
theorem putP_len (x : Pt) (S : List Pt) (k : Nat) : (putP x S k).length = S.length + 1 := (putP_perm x S k).length_eq
theorem insP_perm (x : Pt) (S : List Pt) : (insP x S).Perm (x :: S) := putP_perm _ _ _
def srt (l : List Pt) : List Pt := l.foldl (fun S x => insP x S) []
theorem srt_snoc (l : List Pt) (x : Pt) : srt (l ++ [x]) = insP x (srt l) := by simp [srt]
theorem fold_perm : ∀ (l S : List Pt), (l.foldl (fun S x => insP x S) S).Perm (l ++ S)
  | [], S => List.Perm.refl _
  | x :: t, S => by
    have := fold_perm t (insP x S)
    exact this.trans (((insP_perm x S).append_left t).trans List.perm_middle)
theorem srt_perm (l : List Pt) : (srt l).Perm l := by
  have := fold_perm l []
  rwa [List.append_nil] at this
theorem srt_len (l : List Pt) : (srt l).length = l.length := (srt_perm l).length_eq
theorem putP_at {x : Pt} {S : List Pt} {k i : Nat} (hk : k ≤ S.length) : atP (putP x S k) i = if i < k then atP S i else if i = k then x else atP S (i - 1) := by
  unfold putP atP
  simp only [List.getD_eq_getElem?_getD]
  have l1 : (S.take k).length = k := by simp; omega
  by_cases h1 : i < k
  · rw [if_pos h1, List.getElem?_append_left (by omega), List.getElem?_take, if_pos h1]
  · rw [if_neg h1, List.getElem?_append_right (by omega), l1]
    by_cases h2 : i = k
    · subst h2; simp
    · rw [if_neg h2]
      obtain ⟨j, rfl⟩ : ∃ j, i = k + (j + 1) := ⟨i - k - 1, by omega⟩
      rw [show k + (j + 1) - k = j + 1 by omega, List.getElem?_cons_succ, List.getElem?_drop]
      congr 2

/-! Pairs. -/
def abC (a b : Pt) : Int := if crs a b < 0 then -crs a b else crs a b
theorem abC_sym (a b : Pt) : abC a b = abC b a := by
  unfold abC
  rw [crs_swap a b]
  split <;> split <;> omega
def neC (a b : Pt) : Int := if crs a b = 0 then 0 else 1
theorem neC_sym (a b : Pt) : neC a b = neC b a := by
  unfold neC
  rw [crs_swap a b]
  split <;> split <;> omega
/-- The program's sum over pairs, the first i rounds whole. -/
def prI (f : Pt → Pt → Int) (l : List Pt) (i : Nat) : Int := sumF (fun i => sumF (fun j => f (atP l i) (atP l (i + 1 + j))) (l.length - (i + 1))) i
/-- The model's. -/
def prS (f : Pt → Pt → Int) (l : List Pt) (i : Nat) : Int := sumF (fun i => sumF (fun k => f (atP l i) (atP l k)) i) i
theorem pr_eq {f : Pt → Pt → Int} (hf : ∀ a b, f a b = f b a) {l : List Pt} (h2 : 2 ≤ l.length) (h4 : l.length ≤ 4) : prI f l l.length = prS f l l.length := by
  match l, h2, h4 with
  | [a, b], _, _ => simp [prI, prS, sumF, atP, hf b a]
  | [a, b, c], _, _ => simp [prI, prS, sumF, atP, hf b a, hf c a, hf c b]; omega
  | [a, b, c, d], _, _ => simp [prI, prS, sumF, atP, hf b a, hf c a, hf c b, hf d a, hf d b, hf d c]; omega
theorem sumF_mul (c : Int) (f : Nat → Int) : ∀ n, sumF (fun i => c * f i) n = c * sumF f n
  | 0 => by simp [sumF]
  | n + 1 => by simp only [sumF, sumF_mul c f n]; rw [Int.mul_add]
theorem prS_two (f : Pt → Pt → Int) (l : List Pt) (i : Nat) : prS (fun a b => 2 * f a b) l i = 2 * prS f l i := by
  unfold prS
  rw [← sumF_mul]
  exact sumF_congr fun i _ => sumF_mul 2 _ i

/-! Zonogons. -/
def upV (s : Pt) : Pt := if dnB s then negP s else s
def zonP (l : List Pt) : List Pt := srt (l.map upV) ++ (srt (l.map upV)).map negP
theorem neg_step {s : Pt} (h : stepP s) : stepP (negP s) := by
  obtain ⟨h1, h2, h3⟩ := h
  refine ⟨by simp only [negP]; omega, by simp only [negP]; omega, fun e => h3 ?_⟩
  have e1 : -s.1 = 0 := congrArg Prod.fst e
  have e2 : -s.2 = 0 := congrArg Prod.snd e
  exact Prod.ext (by show s.1 = 0; omega) (by show s.2 = 0; omega)
theorem upV_step {s : Pt} (h : stepP s) : stepP (upV s) := by
  unfold upV
  split
  · exact neg_step h
  · exact h
theorem tot_neg : ∀ l : List Pt, tot (l.map negP) = negP (tot l)
  | [] => rfl
  | a :: t => by
    rw [List.map_cons, tot_cons, tot_cons, tot_neg t]
    exact Prod.ext (by simp only [addP, negP]; omega) (by simp only [addP, negP]; omega)
theorem zonP_len (l : List Pt) : (zonP l).length = 2 * l.length := by
  unfold zonP
  rw [List.length_append, List.length_map, srt_len, List.length_map]
  omega
theorem zonP_mem {l : List Pt} {s : Pt} (h : s ∈ zonP l) : ∃ a ∈ l, s = a ∨ s = negP a := by
  have hh : ∀ u ∈ srt (l.map upV), ∃ a ∈ l, u = a ∨ u = negP a := fun u hu => by
    obtain ⟨a, ha, rfl⟩ := List.mem_map.1 ((srt_perm _).mem_iff.1 hu)
    refine ⟨a, ha, ?_⟩
    unfold upV
    split
    · exact .inr rfl
    · exact .inl rfl
  unfold zonP at h
  rcases List.mem_append.1 h with h | h
  · exact hh s h
  · obtain ⟨u, hu, rfl⟩ := List.mem_map.1 h
    obtain ⟨a, ha, e | e⟩ := hh u hu
    · exact ⟨a, ha, .inr (by rw [e])⟩
    · refine ⟨a, ha, .inl ?_⟩
      rw [e]
      exact Prod.ext (by simp only [negP]; omega) (by simp only [negP]; omega)
theorem zonP_path {l : List Pt} (h2 : 2 ≤ l.length) (h4 : l.length ≤ 4) (hs : ∀ s ∈ l, stepP s) : IsPath (zonP l) := by
  refine ⟨by rw [zonP_len]; omega, by rw [zonP_len]; omega, fun s h => ?_, ?_⟩
  · obtain ⟨a, ha, rfl | rfl⟩ := zonP_mem h
    · exact hs _ ha
    · exact neg_step (hs _ ha)
  · unfold zonP
    rw [tot_append, tot_neg]
    exact Prod.ext (by simp only [addP, negP]; omega) (by simp only [addP, negP]; omega)
theorem crs_add (a b c : Pt) : crs (addP a b) c = crs a c + crs b c := by simp only [crs, addP]; grind
theorem arP_flat : ∀ (l : List Pt) (c : Pt), (∀ s ∈ l, crs c s = 0) → (∀ s ∈ l, ∀ u ∈ l, crs s u = 0) → arP c l = 0
  | [], _, _, _ => rfl
  | s :: t, c, h1, h2 => by
    show crs c s + arP (addP c s) t = 0
    rw [arP_flat t (addP c s) (fun u hu => by rw [crs_add, h1 u (by simp [hu]), h2 s (by simp) u (by simp [hu])]; rfl) (fun u hu v hv => h2 u (by simp [hu]) v (by simp [hv]))]
    rw [h1 s (by simp)]; rfl
theorem zonP_flat {l : List Pt} (h2 : 2 ≤ l.length) (h4 : l.length ≤ 4) (hs : ∀ s ∈ l, stepP s) (h : ∀ a ∈ l, ∀ b ∈ l, crs a b = 0) : areaP (zonP l) = 0 := by
  rw [areaP_ar (zonP_path h2 h4 hs).closed]
  refine arP_flat _ _ (fun s _ => by simp [crs]) fun s hs' u hu => ?_
  obtain ⟨a, ha, e⟩ := zonP_mem hs'
  obtain ⟨b, hb, e'⟩ := zonP_mem hu
  have h0 := h a ha b hb
  rcases e with rfl | rfl <;> rcases e' with rfl | rfl <;> simp only [crs, negP] at * <;> grind
theorem pieces_zero {l : List Pt} : prS neC l l.length = 0 → ∀ a ∈ l, ∀ b ∈ l, crs a b = 0 := by
  intro h
  have nn : ∀ (g : Nat → Int), (∀ i, 0 ≤ g i) → ∀ n, 0 ≤ sumF g n := fun g hg n => by
    induction n with
    | zero => simp [sumF]
    | succ n ih => have := hg n; simp only [sumF]; omega
  have z : ∀ (g : Nat → Int), (∀ i, 0 ≤ g i) → ∀ n, sumF g n = 0 → ∀ i, i < n → g i = 0 := fun g hg n => by
    induction n with
    | zero => intro _ i hi; omega
    | succ n ih =>
      intro h i hi
      simp only [sumF] at h
      have h1 := nn g hg n
      have h2 := hg n
      by_cases e : i = n
      · subst e; omega
      · exact ih (by omega) i (by omega)
  have n0 : ∀ a b, 0 ≤ neC a b := fun a b => by unfold neC; split <;> omega
  have key : ∀ i k, k < i → i < l.length → crs (atP l i) (atP l k) = 0 := fun i k hk hi => by
    have h1 := z _ (fun i => nn _ (fun k => n0 _ _) i) _ h i hi
    have h2 := z _ (fun k => n0 _ _) _ h1 k hk
    unfold neC at h2
    split at h2
    · assumption
    · omega
  intro a ha b hb
  obtain ⟨i, hi, rfl⟩ := List.getElem_of_mem ha
  obtain ⟨k, hk, rfl⟩ := List.getElem_of_mem hb
  rw [← atP_lt hi, ← atP_lt hk]
  rcases Nat.lt_trichotomy i k with e | e | e
  · rw [crs_swap, key k i e hk]; rfl
  · subst e; simp only [crs]; grind
  · exact key i k e hi
theorem pieces_none {l : List Pt} (h : ∀ a ∈ l, ∀ b ∈ l, crs a b = 0) : prS neC l l.length = 0 := by
  unfold prS
  have z : ∀ (g : Nat → Int) (n : Nat), (∀ i, i < n → g i = 0) → sumF g n = 0 := fun g n => by
    induction n with
    | zero => intro _; rfl
    | succ n ih =>
      intro h
      have h1 := h n (by omega)
      have h2 := ih fun i hi => h i (by omega)
      simp only [sumF]; omega
  refine z _ _ fun i hi => z _ _ fun k hk => ?_
  unfold neC
  rw [if_pos (h _ (by rw [atP_lt hi]; exact List.getElem_mem hi) _ (by rw [atP_lt (by omega : k < l.length)]; exact List.getElem_mem _))]
end Go.Proofs.Ytkjhkcnmhakfcaa
