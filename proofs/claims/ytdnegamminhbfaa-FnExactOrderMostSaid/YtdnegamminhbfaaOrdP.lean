/- Joined: OrdP, OrdC, OrdL, DirP, DirQ. -/
import Derived.Test.YtdnegamminhbfaaPathP
/- Pure facts of chapter 7: runs, orders by directions, pairs, zonogons. -/
namespace Go.Proofs.Ytdnegamminhbfaa

/-! Steps in another order. -/
theorem addP_comm (a b : Pt) : addP a b = addP b a := Prod.ext (Int.add_comm _ _) (Int.add_comm _ _)
theorem addP_assoc (a b c : Pt) : addP (addP a b) c = addP a (addP b c) := Prod.ext (Int.add_assoc _ _ _) (Int.add_assoc _ _ _)
theorem addP_zero (a : Pt) : addP a (0, 0) = a := Prod.ext (Int.add_zero _) (Int.add_zero _)
theorem tot_cons (a : Pt) (t : List Pt) : tot (a :: t) = addP a (tot t) := rfl
theorem tot_perm {l m : List Pt} (h : l.Perm m) : tot l = tot m := by
  induction h with
  | nil => rfl
  | cons x _ ih => rw [tot_cons, tot_cons, ih]
  | swap x y t => rw [tot_cons, tot_cons, tot_cons, tot_cons, ← addP_assoc, ← addP_assoc, addP_comm y x]
  | trans _ _ h1 h2 => exact h1.trans h2
theorem IsPath.perm {l m : List Pt} (h : IsPath l) (p : m.Perm l) : IsPath m :=
  ⟨by rw [p.length_eq]; exact h.lo, by rw [p.length_eq]; exact h.hi, fun s hs => h.steps s (p.mem_iff.1 hs), by rw [tot_perm p]; exact h.closed⟩

/-! Runs. -/
def runP (l : List Pt) (f t : Nat) : List Pt := l.take f ++ (((l.drop f).take (t + 1 - f)).reverse ++ l.drop (t + 1))
theorem runP_perm (l : List Pt) {f t : Nat} (h : f ≤ t) : (runP l f t).Perm l := by
  unfold runP
  have e : l = l.take f ++ ((l.drop f).take (t + 1 - f) ++ l.drop (t + 1)) := by
    have e1 : (l.drop f).drop (t + 1 - f) = l.drop (t + 1) := by rw [List.drop_drop]; congr 1; omega
    rw [← e1, List.take_append_drop, List.take_append_drop]
  conv => rhs; rw [e]
  exact (((List.reverse_perm _).append_right _)).append_left _
theorem runP_len (l : List Pt) {f t : Nat} (h : f ≤ t) : (runP l f t).length = l.length := (runP_perm l h).length_eq
theorem runP_at {l : List Pt} {f t i : Nat} (h : f ≤ t) (ht : t < l.length) : atP (runP l f t) i = if f ≤ i ∧ i ≤ t then atP l (f + t - i) else atP l i := by
  unfold runP atP
  simp only [List.getD_eq_getElem?_getD]
  have l1 : (l.take f).length = f := by simp; omega
  have l2 : ((l.drop f).take (t + 1 - f)).length = t + 1 - f := by simp; omega
  by_cases h1 : i < f
  · rw [if_neg (by omega), List.getElem?_append_left (by omega), List.getElem?_take, if_pos h1]
  · rw [List.getElem?_append_right (by omega), l1]
    by_cases h2 : i ≤ t
    · rw [if_pos (by omega), List.getElem?_append_left (by rw [List.length_reverse]; omega), List.getElem?_reverse (by omega), l2, List.getElem?_take, if_pos (by omega), List.getElem?_drop]
      congr 2
      omega
    · rw [if_neg (by omega), List.getElem?_append_right (by rw [List.length_reverse]; omega), List.length_reverse, l2, List.getElem?_drop]
      congr 2
      omega

/-! Directions. -/
def befB (a b : Pt) : Bool := if upB a = upB b then decide (0 < crs a b) else upB a
def dnB (a : Pt) : Bool := decide (a.2 < 0) || (decide (a.2 = 0) && decide (a.1 < 0))
theorem dn_up {a : Pt} (h : a ≠ (0, 0)) : dnB a = !upB a := by
  obtain ⟨x, y⟩ := a
  have h0 : ¬(x = 0 ∧ y = 0) := fun e => h (Prod.ext e.1 e.2)
  unfold dnB upB
  dsimp only
  by_cases h1 : y < 0
  · have : ¬ 0 < y := by omega
    have h3 : y ≠ 0 := by omega
    simp [h1, this, h3]
  · by_cases h2 : y = 0
    · subst h2
      by_cases h3 : x < 0
      · have : ¬ 0 < x := by omega
        simp [h3, this]
      · have : 0 < x := by omega
        simp [h3, this]
    · have : 0 < y := by omega
      simp [h1, h2, this]
def cmpP (v w : Pt) : Int := if dnB v = dnB w then crs w v else if dnB v then 1 else -1
theorem crs_swap (a b : Pt) : crs a b = -crs b a := by simp only [crs]; grind
theorem cmp_bef {v w : Pt} (hv : v ≠ (0, 0)) (hw : w ≠ (0, 0)) : decide (cmpP v w < 0) = befB v w := by
  unfold cmpP befB
  rw [dn_up hv, dn_up hw]
  have := crs_swap w v
  cases upB v <;> cases upB w <;> simp <;> omega

def kP (x : Pt) (S : List Pt) : Nat → Nat
  | 0 => 0
  | k + 1 => if befB x (atP S k) = true then kP x S k else k + 1
theorem kP_le (x : Pt) (S : List Pt) : ∀ k, kP x S k ≤ k
  | 0 => Nat.le_refl _
  | k + 1 => by
    unfold kP
    split
    · have := kP_le x S k; omega
    · exact Nat.le_refl _
theorem kP_yes {x : Pt} {S : List Pt} {k : Nat} (h : befB x (atP S k) = true) : kP x S (k + 1) = kP x S k := by rw [kP, if_pos h]
theorem kP_no {x : Pt} {S : List Pt} {k : Nat} (h : befB x (atP S k) = false) : kP x S (k + 1) = k + 1 := by rw [kP, if_neg (by rw [h]; simp)]
def putP (x : Pt) (S : List Pt) (k : Nat) : List Pt := S.take k ++ x :: S.drop k
def insP (x : Pt) (S : List Pt) : List Pt := putP x S (kP x S S.length)
theorem putP_perm (x : Pt) (S : List Pt) (k : Nat) : (putP x S k).Perm (x :: S) := by
  unfold putP
  conv => rhs; rw [← List.take_append_drop k S]
  exact List.perm_middle
theorem putP_len (x : Pt) (S : List Pt) (k : Nat) : (putP x S k).length = S.length + 1 := (putP_perm x S k).length_eq
theorem insP_perm (x : Pt) (S : List Pt) : (insP x S).Perm (x :: S) := putP_perm _ _ _
def srt (l : List Pt) : List Pt := l.foldl (fun S x => insP x S) []
theorem srt_snoc (l : List Pt) (x : Pt) : srt (l ++ [x]) = insP x (srt l) := by simp [srt]
theorem fold_perm : ∀ (l S : List Pt), (l.foldl (fun S x => insP x S) S).Perm (l ++ S)
  | [], S => List.Perm.refl _
  | x :: t, S => by
    have := fold_perm t (insP x S)
    exact this.trans (((insP_perm x S).append_left t).trans List.perm_middle)
theorem srt_perm (l : List Pt) : (srt l).Perm l := by
  have := fold_perm l []
  rwa [List.append_nil] at this
theorem srt_len (l : List Pt) : (srt l).length = l.length := (srt_perm l).length_eq
theorem putP_at {x : Pt} {S : List Pt} {k i : Nat} (hk : k ≤ S.length) : atP (putP x S k) i = if i < k then atP S i else if i = k then x else atP S (i - 1) := by
  unfold putP atP
  simp only [List.getD_eq_getElem?_getD]
  have l1 : (S.take k).length = k := by simp; omega
  by_cases h1 : i < k
  · rw [if_pos h1, List.getElem?_append_left (by omega), List.getElem?_take, if_pos h1]
  · rw [if_neg h1, List.getElem?_append_right (by omega), l1]
    by_cases h2 : i = k
    · subst h2; simp
    · rw [if_neg h2]
      obtain ⟨j, rfl⟩ : ∃ j, i = k + (j + 1) := ⟨i - k - 1, by omega⟩
      rw [show k + (j + 1) - k = j + 1 by omega, List.getElem?_cons_succ, List.getElem?_drop]
      congr 2

/-! Pairs. -/
def abC (a b : Pt) : Int := if crs a b < 0 then -crs a b else crs a b
theorem abC_sym (a b : Pt) : abC a b = abC b a := by
  unfold abC
  rw [crs_swap a b]
  split <;> split <;> omega
def neC (a b : Pt) : Int := if crs a b = 0 then 0 else 1
theorem neC_sym (a b : Pt) : neC a b = neC b a := by
  unfold neC
  rw [crs_swap a b]
  split <;> split <;> omega
/-- The program's sum over pairs, the first i rounds whole. -/
def prI (f : Pt → Pt → Int) (l : List Pt) (i : Nat) : Int := sumF (fun i => sumF (fun j => f (atP l i) (atP l (i + 1 + j))) (l.length - (i + 1))) i
/-- The model's. -/
def prS (f : Pt → Pt → Int) (l : List Pt) (i : Nat) : Int := sumF (fun i => sumF (fun k => f (atP l i) (atP l k)) i) i
theorem pr_eq {f : Pt → Pt → Int} (hf : ∀ a b, f a b = f b a) {l : List Pt} (h2 : 2 ≤ l.length) (h4 : l.length ≤ 4) : prI f l l.length = prS f l l.length := by
  match l, h2, h4 with
  | [a, b], _, _ => simp [prI, prS, sumF, atP, hf b a]
  | [a, b, c], _, _ => simp [prI, prS, sumF, atP, hf b a, hf c a, hf c b]; omega
  | [a, b, c, d], _, _ => simp [prI, prS, sumF, atP, hf b a, hf c a, hf c b, hf d a, hf d b, hf d c]; omega
theorem sumF_mul (c : Int) (f : Nat → Int) : ∀ n, sumF (fun i => c * f i) n = c * sumF f n
  | 0 => by simp [sumF]
  | n + 1 => by simp only [sumF, sumF_mul c f n]; rw [Int.mul_add]
theorem prS_two (f : Pt → Pt → Int) (l : List Pt) (i : Nat) : prS (fun a b => 2 * f a b) l i = 2 * prS f l i := by
  unfold prS
  rw [← sumF_mul]
  exact sumF_congr fun i _ => sumF_mul 2 _ i

/-! Zonogons. -/
def upV (s : Pt) : Pt := if dnB s then negP s else s
def zonP (l : List Pt) : List Pt := srt (l.map upV) ++ (srt (l.map upV)).map negP
theorem neg_step {s : Pt} (h : stepP s) : stepP (negP s) := by
  obtain ⟨h1, h2, h3⟩ := h
  refine ⟨by simp only [negP]; omega, by simp only [negP]; omega, fun e => h3 ?_⟩
  have e1 : -s.1 = 0 := congrArg Prod.fst e
  have e2 : -s.2 = 0 := congrArg Prod.snd e
  exact Prod.ext (by show s.1 = 0; omega) (by show s.2 = 0; omega)
theorem upV_step {s : Pt} (h : stepP s) : stepP (upV s) := by
  unfold upV
  split
  · exact neg_step h
  · exact h
theorem tot_neg : ∀ l : List Pt, tot (l.map negP) = negP (tot l)
  | [] => rfl
  | a :: t => by
    rw [List.map_cons, tot_cons, tot_cons, tot_neg t]
    exact Prod.ext (by simp only [addP, negP]; omega) (by simp only [addP, negP]; omega)
theorem zonP_len (l : List Pt) : (zonP l).length = 2 * l.length := by
  unfold zonP
  rw [List.length_append, List.length_map, srt_len, List.length_map]
  omega
theorem zonP_mem {l : List Pt} {s : Pt} (h : s ∈ zonP l) : ∃ a ∈ l, s = a ∨ s = negP a := by
  have hh : ∀ u ∈ srt (l.map upV), ∃ a ∈ l, u = a ∨ u = negP a := fun u hu => by
    obtain ⟨a, ha, rfl⟩ := List.mem_map.1 ((srt_perm _).mem_iff.1 hu)
    refine ⟨a, ha, ?_⟩
    unfold upV
    split
    · exact .inr rfl
    · exact .inl rfl
  unfold zonP at h
  rcases List.mem_append.1 h with h | h
  · exact hh s h
  · obtain ⟨u, hu, rfl⟩ := List.mem_map.1 h
    obtain ⟨a, ha, e | e⟩ := hh u hu
    · exact ⟨a, ha, .inr (by rw [e])⟩
    · refine ⟨a, ha, .inl ?_⟩
      rw [e]
      exact Prod.ext (by simp only [negP]; omega) (by simp only [negP]; omega)
theorem zonP_path {l : List Pt} (h2 : 2 ≤ l.length) (h4 : l.length ≤ 4) (hs : ∀ s ∈ l, stepP s) : IsPath (zonP l) := by
  refine ⟨by rw [zonP_len]; omega, by rw [zonP_len]; omega, fun s h => ?_, ?_⟩
  · obtain ⟨a, ha, rfl | rfl⟩ := zonP_mem h
    · exact hs _ ha
    · exact neg_step (hs _ ha)
  · unfold zonP
    rw [tot_append, tot_neg]
    exact Prod.ext (by simp only [addP, negP]; omega) (by simp only [addP, negP]; omega)
theorem crs_add (a b c : Pt) : crs (addP a b) c = crs a c + crs b c := by simp only [crs, addP]; grind
theorem arP_flat : ∀ (l : List Pt) (c : Pt), (∀ s ∈ l, crs c s = 0) → (∀ s ∈ l, ∀ u ∈ l, crs s u = 0) → arP c l = 0
  | [], _, _, _ => rfl
  | s :: t, c, h1, h2 => by
    show crs c s + arP (addP c s) t = 0
    rw [arP_flat t (addP c s) (fun u hu => by rw [crs_add, h1 u (by simp [hu]), h2 s (by simp) u (by simp [hu])]; rfl) (fun u hu v hv => h2 u (by simp [hu]) v (by simp [hv]))]
    rw [h1 s (by simp)]; rfl
theorem zonP_flat {l : List Pt} (h2 : 2 ≤ l.length) (h4 : l.length ≤ 4) (hs : ∀ s ∈ l, stepP s) (h : ∀ a ∈ l, ∀ b ∈ l, crs a b = 0) : areaP (zonP l) = 0 := by
  rw [areaP_ar (zonP_path h2 h4 hs).closed]
  refine arP_flat _ _ (fun s _ => by simp [crs]) fun s hs' u hu => ?_
  obtain ⟨a, ha, e⟩ := zonP_mem hs'
  obtain ⟨b, hb, e'⟩ := zonP_mem hu
  have h0 := h a ha b hb
  rcases e with rfl | rfl <;> rcases e' with rfl | rfl <;> simp only [crs, negP] at * <;> grind
theorem pieces_zero {l : List Pt} : prS neC l l.length = 0 → ∀ a ∈ l, ∀ b ∈ l, crs a b = 0 := by
  intro h
  have nn : ∀ (g : Nat → Int), (∀ i, 0 ≤ g i) → ∀ n, 0 ≤ sumF g n := fun g hg n => by
    induction n with
    | zero => simp [sumF]
    | succ n ih => have := hg n; simp only [sumF]; omega
  have z : ∀ (g : Nat → Int), (∀ i, 0 ≤ g i) → ∀ n, sumF g n = 0 → ∀ i, i < n → g i = 0 := fun g hg n => by
    induction n with
    | zero => intro _ i hi; omega
    | succ n ih =>
      intro h i hi
      simp only [sumF] at h
      have h1 := nn g hg n
      have h2 := hg n
      by_cases e : i = n
      · subst e; omega
      · exact ih (by omega) i (by omega)
  have n0 : ∀ a b, 0 ≤ neC a b := fun a b => by unfold neC; split <;> omega
  have key : ∀ i k, k < i → i < l.length → crs (atP l i) (atP l k) = 0 := fun i k hk hi => by
    have h1 := z _ (fun i => nn _ (fun k => n0 _ _) i) _ h i hi
    have h2 := z _ (fun k => n0 _ _) _ h1 k hk
    unfold neC at h2
    split at h2
    · assumption
    · omega
  intro a ha b hb
  obtain ⟨i, hi, rfl⟩ := List.getElem_of_mem ha
  obtain ⟨k, hk, rfl⟩ := List.getElem_of_mem hb
  rw [← atP_lt hi, ← atP_lt hk]
  rcases Nat.lt_trichotomy i k with e | e | e
  · rw [crs_swap, key k i e hk]; rfl
  · subst e; simp only [crs]; grind
  · exact key i k e hi
theorem pieces_none {l : List Pt} (h : ∀ a ∈ l, ∀ b ∈ l, crs a b = 0) : prS neC l l.length = 0 := by
  unfold prS
  have z : ∀ (g : Nat → Int) (n : Nat), (∀ i, i < n → g i = 0) → sumF g n = 0 := fun g n => by
    induction n with
    | zero => intro _; rfl
    | succ n ih =>
      intro h
      have h1 := h n (by omega)
      have h2 := ih fun i hi => h i (by omega)
      simp only [sumF]; omega
  refine z _ _ fun i hi => z _ _ fun k hk => ?_
  unfold neC
  rw [if_pos (h _ (by rw [atP_lt hi]; exact List.getElem_mem hi) _ (by rw [atP_lt (by omega : k < l.length)]; exact List.getElem_mem _))]
end Go.Proofs.Ytdnegamminhbfaa

/- Pure facts of the sort by directions: one step after the other is put in its place from behind. -/
namespace Go.Proofs.Ytdnegamminhbfaa

theorem atP_app {a b : List Pt} {i : Nat} : atP (a ++ b) i = if i < a.length then atP a i else atP b (i - a.length) := by
  unfold atP
  simp only [List.getD_eq_getElem?_getD]
  by_cases h : i < a.length
  · rw [if_pos h, List.getElem?_append_left h]
  · rw [if_neg h, List.getElem?_append_right (by omega)]
def curI (l : List Pt) (i : Nat) : List Pt := srt (l.take i) ++ l.drop i
def curJ (l : List Pt) (i j : Nat) : List Pt := putP (atP l i) (srt (l.take i)) j ++ l.drop (i + 1)
theorem srt_take_len {l : List Pt} {i : Nat} (h : i ≤ l.length) : (srt (l.take i)).length = i := by rw [srt_len]; simp; omega
theorem curI_len {l : List Pt} {i : Nat} (h : i ≤ l.length) : (curI l i).length = l.length := by
  unfold curI; rw [List.length_append, srt_take_len h]; simp; omega
theorem curJ_len {l : List Pt} {i j : Nat} (h : i < l.length) : (curJ l i j).length = l.length := by
  unfold curJ; rw [List.length_append, putP_len, srt_take_len (by omega)]; simp; omega
theorem curI_zero (l : List Pt) : curI l 0 = l := by simp [curI, srt]
theorem curI_all (l : List Pt) : curI l l.length = srt l := by simp [curI]
theorem curI_one {l : List Pt} (h : 0 < l.length) : curI l 1 = l := by
  match l, h with
  | a :: t, _ => simp [curI, srt, insP, putP, kP]
theorem curJ_start {l : List Pt} {i : Nat} (h : i < l.length) : curJ l i i = curI l i := by
  unfold curJ curI putP
  have hl := srt_take_len (l := l) (i := i) (by omega)
  rw [List.take_of_length_le (by omega), List.drop_eq_nil_of_le (by omega), List.append_assoc, List.drop_eq_getElem_cons h, atP_lt h]
  rfl
theorem curJ_done {l : List Pt} {i j : Nat} (h : i < l.length) (hk : kP (atP l i) (srt (l.take i)) i = j) : curJ l i j = curI l (i + 1) := by
  unfold curJ curI
  rw [List.take_succ_eq_append_getElem h, srt_snoc, ← atP_lt h]
  unfold insP
  rw [srt_take_len (by omega), hk]
theorem curJ_at {l : List Pt} {i j : Nat} (h : i < l.length) (hj : j ≤ i) : atP (curJ l i j) j = atP l i := by
  unfold curJ
  have hl := srt_take_len (l := l) (i := i) (by omega)
  rw [atP_app, putP_len, if_pos (by omega), putP_at (by omega), if_neg (by omega), if_pos rfl]
theorem curJ_lo {l : List Pt} {i j k : Nat} (h : i < l.length) (hj : j ≤ i) (hk : k < j) : atP (curJ l i j) k = atP (srt (l.take i)) k := by
  unfold curJ
  have hl := srt_take_len (l := l) (i := i) (by omega)
  rw [atP_app, putP_len, if_pos (by omega), putP_at (by omega), if_pos hk]
theorem curJ_swap {l : List Pt} {i k : Nat} (h : i < l.length) (hk : k + 1 ≤ i) : ((curJ l i (k + 1)).set (k + 1) (atP (srt (l.take i)) k)).set k (atP l i) = curJ l i k := by
  have hl := srt_take_len (l := l) (i := i) (by omega)
  have e1 := curJ_len (j := k + 1) h
  have sa : ∀ {l : List Pt} {i j : Nat} {q : Pt}, i < l.length → atP (l.set i q) j = if j = i then q else atP l j := fun {l i j q} h => by
    by_cases e : j = i
    · subst e; simp [atP, List.getD_eq_getElem?_getD, h]
    · simp [atP, List.getD_eq_getElem?_getD, e, Ne.symm e]
  have la : ∀ {a b : List Pt}, a.length = b.length → (∀ i, i < a.length → atP a i = atP b i) → a = b := fun {a b} hl h => by
    apply List.ext_getElem hl
    intro i h1 h2
    have := h i h1
    rwa [atP_lt h1, atP_lt h2] at this
  refine la (by rw [List.length_set, List.length_set, e1, curJ_len h]) fun m hm => ?_
  rw [List.length_set, List.length_set, e1] at hm
  rw [sa (by rw [List.length_set, e1]; omega), sa (by rw [e1]; omega)]
  by_cases q1 : m = k
  · subst q1; rw [if_pos rfl, curJ_at h (by omega)]
  · rw [if_neg q1]
    by_cases q2 : m = k + 1
    · subst q2
      rw [if_pos rfl]
      unfold curJ
      rw [atP_app, putP_len, if_pos (by omega), putP_at (by omega), if_neg (by omega), if_neg (by omega)]
      rfl
    · rw [if_neg q2]
      unfold curJ
      rw [atP_app, atP_app, putP_len, putP_len]
      by_cases q3 : m < (srt (l.take i)).length + 1
      · rw [if_pos q3, if_pos q3, putP_at (by omega), putP_at (by omega)]
        by_cases q4 : m < k
        · rw [if_pos (by omega), if_pos q4]
        · rw [if_neg (by omega), if_neg q2, if_neg q4, if_neg q1]
      · rw [if_neg q3, if_neg q3]
theorem srt_mem {l : List Pt} {i k : Nat} (h : i ≤ l.length) (hk : k < i) : atP (srt (l.take i)) k ∈ l := by
  have hl := srt_take_len h
  rw [atP_lt (by omega)]
  exact List.mem_of_mem_take ((srt_perm (l.take i)).mem_iff.1 (List.getElem_mem (by omega)))
end Go.Proofs.Ytdnegamminhbfaa

/- Pure facts of chapter 7: all orders of steps, each once. -/
namespace Go.Proofs.Ytdnegamminhbfaa

/-! Each different step once. -/
def dd : List Pt → List Pt
  | [] => []
  | a :: t => if a ∈ t then dd t else a :: dd t
theorem mem_dd {x : Pt} : ∀ {l : List Pt}, x ∈ dd l ↔ x ∈ l
  | [] => Iff.rfl
  | a :: t => by
    unfold dd
    split
    · rename_i h
      rw [mem_dd (l := t), List.mem_cons]
      exact ⟨.inr, fun h' => h'.elim (fun e => by rw [e]; exact h) id⟩
    · rw [List.mem_cons, List.mem_cons, mem_dd (l := t)]
theorem nodup_dd : ∀ l : List Pt, (dd l).Nodup
  | [] => List.nodup_nil
  | a :: t => by
    unfold dd
    split
    · exact nodup_dd t
    · rename_i h
      exact List.nodup_cons.2 ⟨fun h' => h (mem_dd.1 h'), nodup_dd t⟩
theorem same_perm {A B : List Pt} (hA : A.Nodup) (hB : B.Nodup) (h : ∀ x, x ∈ A ↔ x ∈ B) : A.Perm B := by
  rw [List.perm_iff_count]
  intro x
  rw [hA.count, hB.count]
  simp only [h x]
theorem sum_perm {f : Pt → Nat} {A B : List Pt} (h : A.Perm B) : (A.map f).sum = (B.map f).sum := by
  induction h with
  | nil => rfl
  | cons x _ ih => simp only [List.map_cons, List.sum_cons, ih]
  | swap x y t => simp only [List.map_cons, List.sum_cons]; omega
  | trans _ _ h1 h2 => exact h1.trans h2
theorem sum_on {f g : Pt → Nat} : ∀ {A : List Pt}, (∀ x ∈ A, f x = g x) → (A.map f).sum = (A.map g).sum
  | [], _ => rfl
  | x :: t, h => by
    simp only [List.map_cons, List.sum_cons]
    rw [h x (by simp), sum_on (A := t) fun y hy => h y (by simp [hy])]
theorem sum_scale {f : Pt → Nat} (c : Nat) : ∀ {A : List Pt}, (A.map fun x => f x * c).sum = (A.map f).sum * c
  | [] => by simp
  | x :: t => by simp only [List.map_cons, List.sum_cons]; rw [sum_scale c (A := t), Nat.add_mul]

/-- The number of different orders. -/
def nD : Nat → List Pt → Nat
  | 0, _ => 1
  | m + 1, l => ((dd l).map fun x => nD m (l.erase x)).sum
theorem nD_perm : ∀ (m : Nat) {l l' : List Pt}, l.Perm l' → nD m l = nD m l'
  | 0, _, _, _ => rfl
  | m + 1, l, l', h => by
    unfold nD
    rw [sum_perm (same_perm (nodup_dd l) (nodup_dd l') fun x => by rw [mem_dd, mem_dd, h.mem_iff])]
    exact sum_on fun x _ => nD_perm m (h.erase x)
theorem nD_split (m : Nat) (x : Pt) (l : List Pt) : nD (m + 1) (x :: l) = nD m l + (((dd l).filter fun y => decide (y ≠ x)).map fun y => nD m (x :: l.erase y)).sum := by
  have hp : (dd (x :: l)).Perm (x :: (dd l).filter fun y => decide (y ≠ x)) := by
    refine same_perm (nodup_dd _) (List.nodup_cons.2 ⟨by simp, (nodup_dd l).filter _⟩) fun y => ?_
    rw [mem_dd, List.mem_cons, List.mem_cons, List.mem_filter, mem_dd]
    by_cases e : y = x
    · simp [e]
    · simp [e]
  show ((dd (x :: l)).map fun y => nD m ((x :: l).erase y)).sum = _
  rw [sum_perm hp, List.map_cons, List.sum_cons, List.erase_cons_head]
  congr 1
  refine sum_on fun y hy => ?_
  have hne : y ≠ x := by have := (List.mem_filter.1 hy).2; simpa using this
  rw [List.erase_cons_tail (by simpa using fun e => hne e.symm)]
theorem nD_some (m : Nat) (x : Pt) (l : List Pt) : nD (m + 1) l = (if x ∈ l then nD m (l.erase x) else 0) + (((dd l).filter fun y => decide (y ≠ x)).map fun y => nD m (l.erase y)).sum := by
  show ((dd l).map fun y => nD m (l.erase y)).sum = _
  by_cases hx : x ∈ l
  · have hp : (dd l).Perm (x :: (dd l).filter fun y => decide (y ≠ x)) := by
      refine same_perm (nodup_dd _) (List.nodup_cons.2 ⟨by simp, (nodup_dd l).filter _⟩) fun y => ?_
      rw [mem_dd, List.mem_cons, List.mem_filter, mem_dd]
      by_cases e : y = x
      · simp [e, hx]
      · simp [e]
    rw [sum_perm hp, List.map_cons, List.sum_cons, if_pos hx]
  · have he : ((dd l).filter fun y => decide (y ≠ x)) = dd l := List.filter_eq_self.2 fun y hy => by
      have : y ≠ x := fun e => hx (by rw [← e]; exact mem_dd.1 hy)
      simpa using this
    rw [he, if_neg hx, Nat.zero_add]
theorem nD_step : ∀ (m : Nat) (l : List Pt) (x : Pt), l.length = m → nD (m + 1) (x :: l) * (l.count x + 1) = nD m l * (m + 1)
  | 0, l, x, h => by
    have : l = [] := List.eq_nil_of_length_eq_zero h
    subst this
    simp [nD, dd]
  | k + 1, l, x, h => by
    rw [nD_split, Nat.add_mul, ← sum_scale]
    have e1 : ((((dd l).filter fun y => decide (y ≠ x)).map fun y => nD (k + 1) (x :: l.erase y) * (l.count x + 1)).sum) = (((dd l).filter fun y => decide (y ≠ x)).map fun y => nD k (l.erase y)).sum * (k + 1) := by
      rw [← sum_scale]
      refine sum_on fun y hy => ?_
      have hy' := List.mem_filter.1 hy
      have hne : y ≠ x := by simpa using hy'.2
      have hm : y ∈ l := mem_dd.1 hy'.1
      have hl : (l.erase y).length = k := by rw [List.length_erase_of_mem hm, h]; rfl
      have := nD_step k (l.erase y) x hl
      rwa [List.count_erase_of_ne hne.symm] at this
    rw [e1]
    have e2 := nD_some k x l
    by_cases hx : x ∈ l
    · rw [if_pos hx] at e2
      have hl : (l.erase x).length = k := by rw [List.length_erase_of_mem hx, h]; rfl
      have e3 := nD_step k (l.erase x) x hl
      have hc : 0 < l.count x := List.count_pos_iff.2 hx
      rw [List.count_erase_self, show l.count x - 1 + 1 = l.count x by omega, ← nD_perm (k + 1) (List.perm_cons_erase hx)] at e3
      have e4 : nD (k + 1) l * (k + 1) = nD k (l.erase x) * (k + 1) + ((((dd l).filter fun y => decide (y ≠ x)).map fun y => nD k (l.erase y)).sum) * (k + 1) := by rw [← Nat.add_mul, ← e2]
      rw [Nat.mul_add (nD (k + 1) l) (k + 1) 1, e4, Nat.mul_add (nD (k + 1) l) _ 1, e3]
      omega
    · rw [if_neg hx, Nat.zero_add] at e2
      have hc : l.count x = 0 := List.count_eq_zero.2 hx
      rw [hc, ← e2, Nat.mul_add (nD (k + 1) l) (k + 1) 1, Nat.zero_add]
      omega
theorem nD_pos : ∀ (m : Nat) (l : List Pt), l.length = m → 0 < nD m l
  | 0, _, _ => by simp [nD]
  | m + 1, x :: l, h => by
    rw [nD_split]
    have := nD_pos m l (by simpa using h)
    omega
def fac : Nat → Nat
  | 0 => 1
  | n + 1 => fac n * (n + 1)
theorem nD_fac : ∀ (m : Nat) (l : List Pt), l.length = m → nD m l ≤ fac m
  | 0, _, _ => by simp [nD, fac]
  | m + 1, x :: l, h => by
    have h1 := nD_step m l x (by simpa using h)
    have h2 := nD_fac m l (by simpa using h)
    have h3 : nD (m + 1) (x :: l) * 1 ≤ nD (m + 1) (x :: l) * (l.count x + 1) := Nat.mul_le_mul_left _ (by omega)
    have h4 := Nat.mul_le_mul_right (m + 1) h2
    show _ ≤ fac m * (m + 1)
    omega
/-- The model's step: one more of the front. -/
theorem nD_take {l : List Pt} {i : Nat} (h : i < l.length) : nD (i + 1) (l.take (i + 1)) * ((l.take (i + 1)).count (atP l i)) = nD i (l.take i) * (i + 1) := by
  have e : l.take (i + 1) = l.take i ++ [atP l i] := by rw [List.take_succ_eq_append_getElem h, atP_lt h]
  have hp : (l.take i ++ [atP l i]).Perm (atP l i :: l.take i) := List.perm_append_comm
  have := nD_step i (l.take i) (atP l i) (by simp; omega)
  rw [e, nD_perm (i + 1) hp, hp.count_eq, List.count_cons_self]
  exact this
theorem nD_div {l : List Pt} {i : Nat} (h : i < l.length) : (nD i (l.take i) * (i + 1)) / ((l.take (i + 1)).count (atP l i)) = nD (i + 1) (l.take (i + 1)) := by
  rw [← nD_take h]
  refine Nat.mul_div_cancel _ (List.count_pos_iff.2 ?_)
  rw [atP_lt h, List.take_succ_eq_append_getElem h]
  exact List.mem_append_right _ (List.mem_singleton.2 rfl)

/-! The program's way: exchange, go on, exchange back. -/
def swpP (l : List Pt) (i j : Nat) : List Pt := (l.set i (atP l j)).set j (atP l i)
theorem swpP_len (l : List Pt) (i j : Nat) : (swpP l i j).length = l.length := by simp [swpP]
theorem swpP_perm {l : List Pt} {i j : Nat} (hi : i < l.length) (hj : j < l.length) : (swpP l i j).Perm l := by
  unfold swpP
  rw [atP_lt hi, atP_lt hj]
  exact List.set_set_perm hi hj
theorem set_at {l : List Pt} {i j : Nat} {q : Pt} (h : i < l.length) : atP (l.set i q) j = if j = i then q else atP l j := by
  by_cases e : j = i
  · subst e; simp [atP, List.getD_eq_getElem?_getD, h]
  · simp [atP, List.getD_eq_getElem?_getD, e, Ne.symm e]
theorem swpP_at {l : List Pt} {i j k : Nat} (hi : i < l.length) (hj : j < l.length) : atP (swpP l i j) k = if k = j then atP l i else if k = i then atP l j else atP l k := by
  unfold swpP
  rw [set_at (by rw [List.length_set]; exact hj), set_at hi]
theorem list_atP {a b : List Pt} (hl : a.length = b.length) (h : ∀ i, i < a.length → atP a i = atP b i) : a = b := by
  apply List.ext_getElem hl
  intro i h1 h2
  have := h i h1
  rwa [atP_lt h1, atP_lt h2] at this
theorem swpP_back {l : List Pt} {i j : Nat} (hi : i < l.length) (hj : j < l.length) : swpP (swpP l i j) i j = l := by
  refine list_atP (by rw [swpP_len, swpP_len]) fun k hk => ?_
  rw [swpP_at (by rw [swpP_len]; exact hi) (by rw [swpP_len]; exact hj), swpP_at hi hj, swpP_at hi hj, swpP_at hi hj]
  by_cases e1 : k = j
  · subst e1
    rw [if_pos rfl]
    by_cases e2 : i = k
    · subst e2; simp
    · rw [if_neg e2, if_pos rfl]
  · rw [if_neg e1]
    by_cases e2 : k = i
    · subst e2; rw [if_pos rfl, if_pos rfl]
    · rw [if_neg e2, if_neg e1, if_neg e2]
theorem swpP_take {l : List Pt} {i j k : Nat} (hi : i < l.length) (hj : j < l.length) (hki : k ≤ i) (hkj : k ≤ j) : (swpP l i j).take k = l.take k := by
  refine list_atP (by simp [swpP_len]) fun m hm => ?_
  have hmk : m < k := by simp [swpP_len] at hm; omega
  have e : ∀ a : List Pt, atP (a.take k) m = atP a m := fun a => by simp [atP, List.getD_eq_getElem?_getD, hmk]
  rw [e, e, swpP_at hi hj, if_neg (by omega), if_neg (by omega)]
def seenB (o : List Pt) (at_ d : Nat) : Bool := decide (atP o (at_ + d) ∈ (o.drop at_).take d)
def lvStep (r : List Pt → List (List Pt)) (o : List Pt) (at_ : Nat) : Nat → List (List Pt)
  | 0 => []
  | d + 1 => lvStep r o at_ d ++ (if seenB o at_ d then [] else r (swpP o at_ (at_ + d)))
/-- The orders that come with the first steps as they are. -/
def lvP : Nat → List Pt → Nat → List (List Pt)
  | 0, o, _ => [o]
  | m + 1, o, at_ => lvStep (fun o' => lvP m o' (at_ + 1)) o at_ (m + 1)
/-- The first places of steps. -/
def foTo (l : List Pt) : Nat → List Pt
  | 0 => []
  | d + 1 => foTo l d ++ (if atP l d ∈ l.take d then [] else [atP l d])
theorem mem_foTo {l : List Pt} {x : Pt} : ∀ {k : Nat}, k ≤ l.length → (x ∈ foTo l k ↔ x ∈ l.take k)
  | 0, _ => by simp [foTo]
  | k + 1, h => by
    have e : l.take (k + 1) = l.take k ++ [atP l k] := by rw [List.take_succ_eq_append_getElem (by omega), atP_lt (by omega)]
    rw [e, foTo, List.mem_append, List.mem_append, mem_foTo (k := k) (by omega)]
    split
    · rename_i hm
      constructor
      · rintro (h1 | h1)
        · exact .inl h1
        · cases h1
      · rintro (h1 | h1)
        · exact .inl h1
        · exact .inl (by rw [List.mem_singleton.1 h1]; exact hm)
    · exact Iff.rfl
theorem nodup_foTo {l : List Pt} : ∀ {k : Nat}, k ≤ l.length → (foTo l k).Nodup
  | 0, _ => List.nodup_nil
  | k + 1, h => by
    rw [foTo]
    split
    · rw [List.append_nil]; exact nodup_foTo (by omega)
    · rename_i hm
      rw [List.nodup_append]
      refine ⟨nodup_foTo (by omega), by simp, fun a ha b hb e => ?_⟩
      rw [List.mem_singleton.1 hb] at e
      subst e
      exact hm ((mem_foTo (by omega)).1 ha)
theorem drop_atP (o : List Pt) (k d : Nat) : atP (o.drop k) d = atP o (k + d) := by simp [atP, List.getD_eq_getElem?_getD]
theorem swp_rest {o : List Pt} {k d : Nat} (h : k + d < o.length) : ((swpP o k (k + d)).drop (k + 1)).Perm ((o.drop k).erase (atP o (k + d))) := by
  have h1 := swpP_perm (l := o) (i := k) (j := k + d) (by omega) h
  have h2 := swpP_take (l := o) (i := k) (j := k + d) (k := k) (by omega) h (Nat.le_refl _) (by omega)
  have hl := swpP_len o k (k + d)
  have h3 : swpP o k (k + d) = o.take k ++ (atP o (k + d) :: (swpP o k (k + d)).drop (k + 1)) := by
    conv => lhs; rw [← List.take_append_drop k (swpP o k (k + d))]
    rw [h2]
    congr 1
    rw [List.drop_eq_getElem_cons (by omega), ← atP_lt (by omega), swpP_at (by omega) h]
    congr 1
    by_cases e : k = k + d
    · rw [if_pos e, ← e]
    · rw [if_neg e, if_pos rfl]
  rw [h3] at h1
  have h4 : (o.take k ++ (atP o (k + d) :: (swpP o k (k + d)).drop (k + 1))).Perm (o.take k ++ o.drop k) := by rw [List.take_append_drop]; exact h1
  have h5 := ((List.perm_append_left_iff _).1 h4).erase (atP o (k + d))
  rwa [List.erase_cons_head] at h5
theorem lvP_count : ∀ (m : Nat) (o : List Pt) (k : Nat), o.length = k + m → (lvP m o k).length = nD m (o.drop k)
  | 0, _, _, _ => rfl
  | m + 1, o, k, h => by
    have hl : (o.drop k).length = m + 1 := by simp; omega
    have key : ∀ d, d ≤ m + 1 → (lvStep (fun o' => lvP m o' (k + 1)) o k d).length = ((foTo (o.drop k) d).map fun x => nD m ((o.drop k).erase x)).sum := fun d => by
      induction d with
      | zero => intro _; rfl
      | succ d ih =>
        intro hd
        rw [lvStep, List.length_append, ih (by omega), foTo, List.map_append, List.sum_append]
        congr 1
        unfold seenB
        rw [drop_atP]
        by_cases hs : atP o (k + d) ∈ (o.drop k).take d
        · rw [if_pos (by simpa using hs), if_pos hs]; rfl
        · rw [if_neg (by simpa using hs), if_neg hs, lvP_count m _ _ (by rw [swpP_len]; omega), List.map_cons, List.map_nil, List.sum_cons, List.sum_nil, Nat.add_zero]
          exact nD_perm m (swp_rest (by omega))
    rw [lvP, key (m + 1) (Nat.le_refl _), nD]
    refine sum_perm (same_perm (nodup_foTo (by omega)) (nodup_dd _) fun x => ?_)
    rw [mem_foTo (by omega), mem_dd, List.take_of_length_le (by omega)]

theorem lvStep_sub {r : List Pt → List (List Pt)} {o x : List Pt} {k : Nat} : ∀ {d : Nat}, x ∈ lvStep r o k d → ∃ j, j < d ∧ seenB o k j = false ∧ x ∈ r (swpP o k (k + j))
  | 0, h => by cases h
  | d + 1, h => by
    rw [lvStep, List.mem_append] at h
    rcases h with h | h
    · obtain ⟨j, h1, h2⟩ := lvStep_sub h
      exact ⟨j, by omega, h2⟩
    · cases hs : seenB o k d with
      | true => rw [hs] at h; cases h
      | false => rw [hs] at h; exact ⟨d, by omega, hs, h⟩
theorem lvStep_in {r : List Pt → List (List Pt)} {o x : List Pt} {k j : Nat} : ∀ {d : Nat}, j < d → seenB o k j = false → x ∈ r (swpP o k (k + j)) → x ∈ lvStep r o k d
  | 0, h, _, _ => by omega
  | d + 1, h, hs, hx => by
    rw [lvStep, List.mem_append]
    by_cases e : j = d
    · subst e; rw [hs]; exact .inr hx
    · exact .inl (lvStep_in (by omega) hs hx)
theorem lvP_perm : ∀ (m : Nat) (o : List Pt) (k : Nat), o.length = k + m → ∀ x ∈ lvP m o k, x.Perm o
  | 0, o, _, _, x, hx => by rw [lvP, List.mem_singleton] at hx; rw [hx]
  | m + 1, o, k, h, x, hx => by
    obtain ⟨j, hj, _, h2⟩ := lvStep_sub (by rw [lvP] at hx; exact hx)
    exact (lvP_perm m _ _ (by rw [swpP_len]; omega) x h2).trans (swpP_perm (by omega) (by omega))
theorem first_place {l : List Pt} {x : Pt} (h : x ∈ l) : ∃ j, j < l.length ∧ atP l j = x ∧ x ∉ l.take j := by
  induction l with
  | nil => cases h
  | cons a t ih =>
    by_cases e : x = a
    · exact ⟨0, by simp, by simp [atP, e], by simp⟩
    · obtain ⟨j, h1, h2, h3⟩ := ih (by simpa [e] using h)
      exact ⟨j + 1, by simp; omega, by simpa [atP] using h2, by simp [e, h3]⟩
theorem lvP_all : ∀ (m : Nat) (o : List Pt) (k : Nat), o.length = k + m → ∀ x, x.Perm o → x.take k = o.take k → x ∈ lvP m o k
  | 0, o, k, h, x, hp, ht => by
    have hx : x.length = o.length := hp.length_eq
    rw [List.take_of_length_le (by omega), List.take_of_length_le (by omega)] at ht
    simp [lvP, ht]
  | m + 1, o, k, h, x, hp, ht => by
    have hx : x.length = o.length := hp.length_eq
    have hd : (x.drop k).Perm (o.drop k) := by
      have h1 : (x.take k ++ x.drop k).Perm (o.take k ++ o.drop k) := by rw [List.take_append_drop, List.take_append_drop]; exact hp
      rw [ht] at h1
      exact (List.perm_append_left_iff _).1 h1
    have hm : atP x k ∈ o.drop k := by
      rw [← hd.mem_iff, List.drop_eq_getElem_cons (by omega), atP_lt (by omega)]
      exact List.mem_cons_self
    obtain ⟨j, h1, h2, h3⟩ := first_place hm
    have hj : k + j < o.length := by simp at h1; omega
    rw [drop_atP] at h2
    refine lvStep_in (j := j) (by simp at h1; omega) (by unfold seenB; rw [h2]; simpa using h3) ?_
    refine lvP_all m _ _ (by rw [swpP_len]; omega) x (hp.trans (swpP_perm (by omega) hj).symm) ?_
    rw [List.take_succ_eq_append_getElem (by omega), List.take_succ_eq_append_getElem (by rw [swpP_len]; omega), swpP_take (by omega) hj (Nat.le_refl _) (by omega), ht, ← atP_lt (by omega), ← atP_lt (by rw [swpP_len]; omega), swpP_at (by omega) hj]
    congr 2
    by_cases e : k = k + j
    · rw [if_pos e, ← h2, ← e]
    · rw [if_neg e, if_pos rfl, h2]

/-! The greatest area of all orders. -/
def msTo (r : Nat → Int) : Nat → Int
  | 0 => -1000000
  | d + 1 => max (msTo r d) (r d)
/-- The model's way. -/
def msP : Nat → List Pt → List Pt → Int
  | 0, a, _ => areaP a
  | m + 1, a, r => msTo (fun i => msP m (a ++ [atP r i]) (r.eraseIdx i)) (m + 1)
theorem msTo_le {r : Nat → Int} {i : Nat} : ∀ {d : Nat}, i < d → r i ≤ msTo r d
  | 0, h => by omega
  | d + 1, h => by
    rw [msTo]
    by_cases e : i = d
    · subst e; omega
    · have := msTo_le (r := r) (i := i) (d := d) (by omega); omega
theorem msTo_in {r : Nat → Int} : ∀ {d : Nat}, 0 < d → (∀ i, i < d → -1000000 ≤ r i) → ∃ i, i < d ∧ msTo r d = r i
  | 0, h, _ => by omega
  | d + 1, _, hb => by
    rw [msTo]
    by_cases h0 : d = 0
    · subst h0
      exact ⟨0, by omega, by have := hb 0 (by omega); show max (-1000000) (r 0) = r 0; omega⟩
    · obtain ⟨i, h1, h2⟩ := msTo_in (r := r) (d := d) (by omega) (fun i hi => hb i (by omega))
      by_cases hc : r d ≤ msTo r d
      · exact ⟨i, by omega, by rw [← h2]; omega⟩
      · exact ⟨d, by omega, by omega⟩
theorem eraseIdx_split {r : List Pt} {i : Nat} (h : i < r.length) : r.Perm (atP r i :: r.eraseIdx i) := by
  rw [atP_lt h, List.eraseIdx_eq_take_drop_succ]
  conv => lhs; rw [← List.take_append_drop i r, List.drop_eq_getElem_cons h]
  exact List.perm_middle
theorem area_bd {l : List Pt} (h : IsPath l) : -82944 ≤ areaP l ∧ areaP l ≤ 82944 := areaP_part_bd h (Nat.le_refl _)
theorem msP_spec {l : List Pt} (hl : IsPath l) : ∀ (m : Nat) (a r : List Pt), r.length = m → (a ++ r).Perm l → (∀ x, x.Perm r → areaP (a ++ x) ≤ msP m a r) ∧ ∃ x, x.Perm r ∧ msP m a r = areaP (a ++ x)
  | 0, a, r, hr, _ => by
    have : r = [] := List.eq_nil_of_length_eq_zero hr
    subst this
    refine ⟨fun x hx => ?_, [], List.Perm.refl _, by rw [msP, List.append_nil]⟩
    rw [List.Perm.eq_nil hx, List.append_nil, msP]
    exact Int.le_refl _
  | m + 1, a, r, hr, hp => by
    have hi : ∀ i, i < m + 1 → (r.eraseIdx i).length = m ∧ ((a ++ [atP r i]) ++ r.eraseIdx i).Perm l := fun i hi => by
      refine ⟨by rw [List.length_eraseIdx_of_lt (by omega)]; omega, ?_⟩
      refine List.Perm.trans ?_ hp
      rw [List.append_assoc]
      exact (eraseIdx_split (by omega)).symm.append_left a
    constructor
    · intro x hx
      match x, hx with
      | [], hx => have := hx.length_eq; simp at this; omega
      | q :: t, hx =>
        have hm : q ∈ r := hx.mem_iff.1 (by simp)
        obtain ⟨i, h1, h2, _⟩ := first_place hm
        have h3 := (msP_spec hl m (a ++ [atP r i]) (r.eraseIdx i) (hi i (by omega)).1 (hi i (by omega)).2).1 t (by
          have h4 := hx.trans (eraseIdx_split h1)
          rw [h2] at h4
          exact (List.perm_cons q).1 h4)
        rw [h2, List.append_assoc] at h3
        have h5 := msTo_le (r := fun i => msP m (a ++ [atP r i]) (r.eraseIdx i)) (i := i) (d := m + 1) (by omega)
        rw [msP]
        simp only [h2] at h5
        exact Int.le_trans h3 h5
    · have hb : ∀ i, i < m + 1 → -1000000 ≤ msP m (a ++ [atP r i]) (r.eraseIdx i) := fun i h1 => by
        obtain ⟨x, hx, e⟩ := (msP_spec hl m (a ++ [atP r i]) (r.eraseIdx i) (hi i h1).1 (hi i h1).2).2
        rw [e]
        have := area_bd (hl.perm (m := (a ++ [atP r i]) ++ x) ((hx.append_left _).trans (hi i h1).2))
        omega
      obtain ⟨i, h1, h2⟩ := msTo_in (d := m + 1) (by omega) hb
      obtain ⟨x, hx, e⟩ := (msP_spec hl m (a ++ [atP r i]) (r.eraseIdx i) (hi i h1).1 (hi i h1).2).2
      refine ⟨atP r i :: x, (hx.cons _).trans (eraseIdx_split (by omega)).symm, ?_⟩
      rw [msP, h2, e, List.append_assoc]
      rfl
def mxA (s : Int) : List (List Pt) → Int
  | [] => s
  | x :: t => mxA (max s (areaP x)) t
theorem mxA_app (s : Int) : ∀ (a b : List (List Pt)), mxA s (a ++ b) = mxA (mxA s a) b := fun a => by
  induction a generalizing s with
  | nil => intro b; rfl
  | cons x t ih => intro b; exact ih _ b
theorem mxA_le {s : Int} : ∀ {a : List (List Pt)}, s ≤ mxA s a ∧ ∀ x ∈ a, areaP x ≤ mxA s a := fun {a} => by
  induction a generalizing s with
  | nil => exact ⟨Int.le_refl _, fun x hx => by cases hx⟩
  | cons y t ih =>
    have h := ih (s := max s (areaP y))
    refine ⟨by show s ≤ mxA (max s (areaP y)) t; omega, fun x hx => ?_⟩
    show areaP x ≤ mxA (max s (areaP y)) t
    rcases List.mem_cons.1 hx with rfl | hx
    · omega
    · exact h.2 x hx
theorem mxA_in {s : Int} : ∀ {a : List (List Pt)}, mxA s a = s ∨ ∃ x ∈ a, mxA s a = areaP x := fun {a} => by
  induction a generalizing s with
  | nil => exact .inl rfl
  | cons y t ih =>
    rcases ih (s := max s (areaP y)) with h | ⟨x, h1, h2⟩
    · by_cases hc : areaP y ≤ s
      · left; show mxA (max s (areaP y)) t = s; omega
      · right; exact ⟨y, by simp, by show mxA (max s (areaP y)) t = areaP y; omega⟩
    · exact .inr ⟨x, by simp [h1], h2⟩
theorem arP_rev : ∀ l : List Pt, arP (0, 0) l.reverse = -arP (0, 0) l
  | [] => rfl
  | s :: t => by
    rw [List.reverse_cons, arP_last, arP_cons, arP_rev t, tot_perm (List.reverse_perm t), crs_swap (tot t) s]
    omega
theorem most_eq {l : List Pt} (hl : IsPath l) : mxA 0 (lvP l.length l 0) = msP l.length [] l := by
  obtain ⟨h1, x, hx, h2⟩ := msP_spec hl l.length [] l rfl (List.Perm.refl _)
  simp only [List.nil_append] at h1 h2
  have h3 := mxA_le (s := 0) (a := lvP l.length l 0)
  have hrev : (l.reverse).Perm l := List.reverse_perm l
  have h0 : 0 ≤ msP l.length [] l := by
    have ha := h1 l (List.Perm.refl _)
    have hb := h1 _ hrev
    rw [areaP_ar hl.closed] at ha
    rw [areaP_ar (hl.perm hrev).closed, arP_rev] at hb
    omega
  have h4 := h3.2 x (lvP_all l.length l 0 (by omega) x hx (by simp))
  rcases mxA_in (s := 0) (a := lvP l.length l 0) with h5 | ⟨y, hy, h5⟩
  · omega
  · have := h1 y (lvP_perm l.length l 0 (by omega) y hy)
    omega
end Go.Proofs.Ytdnegamminhbfaa

/- Pure facts of chapter 7: no order of steps has a greater area than that by directions. -/
namespace Go.Proofs.Ytdnegamminhbfaa

/-! The sum over pairs, without signs. -/
def abR (s : Pt) : List Pt → Int
  | [] => 0
  | b :: t => abC s b + abR s t
def abS : List Pt → Int
  | [] => 0
  | s :: t => abR s t + abS t
theorem abC_nn (a b : Pt) : 0 ≤ abC a b := by unfold abC; split <;> omega
theorem abC_ge (a b : Pt) : crs a b ≤ abC a b := by unfold abC; split <;> omega
theorem abC_le (a b : Pt) : -crs a b ≤ abC a b := by unfold abC; split <;> omega
theorem abR_nn (s : Pt) : ∀ l, 0 ≤ abR s l
  | [] => by simp [abR]
  | b :: t => by have h1 := abC_nn s b; have h2 := abR_nn s t; simp only [abR]; omega
theorem abS_nn : ∀ l, 0 ≤ abS l
  | [] => by simp [abS]
  | b :: t => by have h1 := abR_nn b t; have h2 := abS_nn t; simp only [abS]; omega
theorem abR_perm (s : Pt) {l m : List Pt} (h : l.Perm m) : abR s l = abR s m := by
  induction h with
  | nil => rfl
  | cons x _ ih => simp only [abR, ih]
  | swap x y t => simp only [abR]; omega
  | trans _ _ h1 h2 => exact h1.trans h2
theorem abS_perm {l m : List Pt} (h : l.Perm m) : abS l = abS m := by
  induction h with
  | nil => rfl
  | cons x p ih => simp only [abS, ih, abR_perm x p]
  | swap x y t => simp only [abS, abR]; rw [abC_sym x y]; omega
  | trans _ _ h1 h2 => exact h1.trans h2
theorem crs_abR (s : Pt) : ∀ l, crs s (tot l) ≤ abR s l
  | [] => by simp [tot, crs, abR]
  | b :: t => by
    have h1 := crs_abR s t
    have h2 := abC_ge s b
    have e : crs s (tot (b :: t)) = crs s b + crs s (tot t) := by simp only [tot, crs, addP]; grind
    simp only [abR]
    omega
theorem arP_abS : ∀ l, arP (0, 0) l ≤ abS l
  | [] => by simp [arP, abS]
  | s :: t => by
    have h1 := arP_abS t
    have h2 := crs_abR s t
    rw [arP_cons]
    simp only [abS]
    omega
theorem abR_sorted (s : Pt) : ∀ l, (∀ b ∈ l, 0 ≤ crs s b) → crs s (tot l) = abR s l
  | [], _ => by simp [tot, crs, abR]
  | b :: t, h => by
    have h1 := abR_sorted s t (fun c hc => h c (by simp [hc]))
    have h2 := h b (by simp)
    have e : crs s (tot (b :: t)) = crs s b + crs s (tot t) := by simp only [tot, crs, addP]; grind
    have e2 : abC s b = crs s b := by unfold abC; rw [if_neg (by omega)]
    simp only [abR]
    omega
theorem abS_sorted : ∀ l, SortP l → arP (0, 0) l = abS l
  | [], _ => by simp [arP, abS]
  | s :: t, h => by
    have h' := List.pairwise_cons.1 h
    have h1 := abS_sorted t h'.2
    have h2 := abR_sorted s t h'.1
    rw [arP_cons]
    simp only [abS]
    omega
theorem abC_neg (a b : Pt) : abC (negP a) (negP b) = abC a b := by unfold abC; rw [crs_neg]
theorem abR_neg (s : Pt) : ∀ l, abR (negP s) (l.map negP) = abR s l
  | [] => rfl
  | b :: t => by simp only [List.map_cons, abR, abC_neg, abR_neg s t]
theorem abS_neg : ∀ l, abS (l.map negP) = abS l
  | [] => rfl
  | s :: t => by simp only [List.map_cons, abS, abR_neg, abS_neg t]
theorem abC_up (a b : Pt) : abC (upV a) (upV b) = abC a b := by
  have e1 : crs (negP a) b = -crs a b := by simp only [crs, negP]; grind
  have e2 : crs a (negP b) = -crs a b := by simp only [crs, negP]; grind
  unfold upV
  split <;> split
  · exact abC_neg a b
  · unfold abC; rw [e1]; split <;> split <;> omega
  · unfold abC; rw [e2]; split <;> split <;> omega
  · rfl
theorem abR_up (s : Pt) : ∀ l, abR (upV s) (l.map upV) = abR s l
  | [] => rfl
  | b :: t => by simp only [List.map_cons, abR, abC_up, abR_up s t]
theorem abS_up : ∀ l, abS (l.map upV) = abS l
  | [] => rfl
  | s :: t => by simp only [List.map_cons, abS, abR_up, abS_up t]

/-! Two halves. -/
theorem arP_split {U D : List Pt} (h : tot (U ++ D) = (0, 0)) : arP (0, 0) (U ++ D) = arP (0, 0) U + arP (0, 0) D := by
  have e : crs (tot U) (tot D) = 0 := by rw [neg_tot h]; simp only [crs]; grind
  rw [arP_two, e]; omega
theorem tot_ne {l : List Pt} (hn : l ≠ []) (h : ∀ s ∈ l, upB s = true) : tot l ≠ (0, 0) := fun e => by
  have := tot_up l hn h
  rw [e] at this
  simp [upB] at this
theorem neg_up {s : Pt} (h0 : s ≠ (0, 0)) (h : upB s = false) : upB (negP s) = true := up_not h0 h
theorem up_neg {s : Pt} (h : upB s = true) : upB (negP s) = false := by
  obtain ⟨x, y⟩ := s
  cases e : upB (negP (x, y)) with
  | false => rfl
  | true =>
    change (decide (0 < y) || (decide (y = 0) && decide (0 < x))) = true at h
    change (decide (0 < -y) || (decide (-y = 0) && decide (0 < -x))) = true at e
    simp only [Bool.or_eq_true, Bool.and_eq_true, decide_eq_true_eq] at h e
    omega
theorem tot_ne' {l : List Pt} (hn : l ≠ []) (h0 : ∀ s ∈ l, s ≠ (0, 0)) (h : ∀ s ∈ l, upB s = false) : tot l ≠ (0, 0) := fun e => by
  have h1 := tot_ne (l := l.map negP) (by simpa using hn) (fun s hs => by
    obtain ⟨a, ha, rfl⟩ := List.mem_map.1 hs
    exact neg_up (h0 a ha) (h a ha))
  rw [tot_neg, e] at h1
  exact h1 rfl
/-- Steps by directions. -/
structure Hv (l U D : List Pt) : Prop where
  eq : l = U ++ D
  up : ∀ s ∈ U, upB s = true
  dn : ∀ s ∈ D, upB s = false
  sU : SortP U
  sD : SortP D
theorem filt_up {U D : List Pt} (hu : ∀ s ∈ U, upB s = true) (hd : ∀ s ∈ D, upB s = false) : (U ++ D).filter upB = U ∧ (U ++ D).filter (fun s => !upB s) = D := by
  constructor
  · rw [List.filter_append, List.filter_eq_self.2 hu, List.filter_eq_nil_iff.2 fun a ha => by simp [hd a ha], List.append_nil]
  · rw [List.filter_append, List.filter_eq_nil_iff.2 fun a ha => by simp [hu a ha], List.filter_eq_self.2 fun a ha => by simp [hd a ha], List.nil_append]
/-- What both halves have. -/
def halvS (l : List Pt) : Int := abS (l.filter upB) + abS (l.filter fun s => !upB s)
theorem halvS_perm {l m : List Pt} (h : l.Perm m) : halvS l = halvS m := by
  unfold halvS
  rw [abS_perm (h.filter upB), abS_perm (h.filter _)]
theorem Hv.area {l U D : List Pt} (H : Hv l U D) (hc : tot l = (0, 0)) : arP (0, 0) l = halvS l := by
  have e := H.eq
  subst e
  unfold halvS
  rw [(filt_up H.up H.dn).1, (filt_up H.up H.dn).2, arP_split hc, abS_sorted U H.sU, abS_sorted D H.sD]
theorem halves_le {U D : List Pt} (hu : ∀ s ∈ U, upB s = true) (hd : ∀ s ∈ D, upB s = false) (hc : tot (U ++ D) = (0, 0)) : arP (0, 0) (U ++ D) ≤ halvS (U ++ D) := by
  unfold halvS
  rw [(filt_up hu hd).1, (filt_up hu hd).2, arP_split hc]
  have := arP_abS U
  have := arP_abS D
  omega

/-! Blocks exchanged. -/
theorem arP_swap (A X Y B : List Pt) : arP (0, 0) (A ++ (Y ++ (X ++ B))) = arP (0, 0) (A ++ (X ++ (Y ++ B))) - 2 * crs (tot X) (tot Y) := by
  simp only [arP_two, tot_append]
  simp only [crs, addP]
  grind
/-- Up steps behind down ones. -/
def upsN (l : List Pt) : Nat := (l.filter upB).length
def invN : List Pt → Nat
  | [] => 0
  | s :: t => (if upB s then 0 else upsN t) + invN t
theorem invN_swap {d u : Pt} (hd : upB d = false) (hu : upB u = true) (B : List Pt) : ∀ A : List Pt, invN (A ++ (u :: d :: B)) + 1 = invN (A ++ (d :: u :: B))
  | [] => by simp only [List.nil_append, invN, hd, hu, upsN, List.filter_cons]; simp; omega
  | a :: A => by
    have h := invN_swap hd hu B A
    have e : upsN (A ++ (u :: d :: B)) = upsN (A ++ (d :: u :: B)) := by simp [upsN, hd, hu]
    show (if upB a then 0 else upsN (A ++ (u :: d :: B))) + invN (A ++ (u :: d :: B)) + 1 = (if upB a then 0 else upsN (A ++ (d :: u :: B))) + invN (A ++ (d :: u :: B))
    rw [e]; omega
/-- Not below. -/
def HgP (a : Pt) : Prop := upB a = true ∨ a = (0, 0)
theorem HgP.add {a b : Pt} (h1 : HgP a) (h2 : HgP b) : HgP (addP a b) := by
  rcases h1 with h1 | rfl
  · rcases h2 with h2 | rfl
    · exact .inl (up_add h1 h2)
    · rw [addP_zero]; exact .inl h1
  · rw [addP_comm, addP_zero]; exact h2
theorem Hg_or (a : Pt) : HgP a ∨ HgP (negP a) := by
  by_cases h0 : a = (0, 0)
  · exact .inl (.inr h0)
  · cases h : upB a with
    | true => exact .inl (.inl h)
    | false => exact .inr (.inl (neg_up h0 h))
theorem least_ex (f : Nat → Pt) : ∀ n, ∃ k, k ≤ n ∧ ∀ j, j ≤ n → HgP (subP (f j) (f k))
  | 0 => ⟨0, Nat.le_refl _, fun j hj => by
    obtain rfl : j = 0 := by omega
    exact .inr (Prod.ext (by simp [subP]) (by simp [subP]))⟩
  | n + 1 => by
    obtain ⟨k, hk, h⟩ := least_ex f n
    rcases Hg_or (subP (f (n + 1)) (f k)) with h1 | h1
    · refine ⟨k, by omega, fun j hj => ?_⟩
      by_cases e : j = n + 1
      · rw [e]; exact h1
      · exact h j (by omega)
    · refine ⟨n + 1, Nat.le_refl _, fun j hj => ?_⟩
      by_cases e : j = n + 1
      · rw [e]; exact .inr (Prod.ext (by simp [subP]) (by simp [subP]))
      · have := (h j (by omega)).add h1
        rwa [show addP (subP (f j) (f k)) (negP (subP (f (n + 1)) (f k))) = subP (f j) (f (n + 1)) from Prod.ext (by simp only [addP, subP, negP]; omega) (by simp only [addP, subP, negP]; omega)] at this
/-- All that is gone through lies not below the beginning. -/
def HiP (l : List Pt) : Prop := ∀ A B, l = A ++ B → HgP (tot A)
theorem rot_hi {l : List Pt} (hc : tot l = (0, 0)) : ∃ k, k ≤ l.length ∧ HiP (rotL l k) := by
  obtain ⟨k, hk, h⟩ := least_ex (fun i => tot (l.take i)) l.length
  have hp : ∀ X Y, l = X ++ Y → HgP (subP (tot X) (tot (l.take k))) := fun X Y e => by
    have := h X.length (by rw [e]; simp)
    rwa [show l.take X.length = X by rw [e]; simp] at this
  have hs : addP (tot (l.take k)) (tot (l.drop k)) = (0, 0) := by rw [← tot_append, List.take_append_drop]; exact hc
  simp only [addP, Prod.mk.injEq] at hs
  refine ⟨k, hk, fun A B e => ?_⟩
  unfold rotL at e
  rcases List.append_eq_append_iff.1 e with ⟨A', e1, e2⟩ | ⟨C, e1, e2⟩
  · have := hp A' (B ++ l.drop k) (by rw [← List.append_assoc, ← e2, List.take_append_drop])
    rw [e1, tot_append]
    rwa [show subP (tot A') (tot (l.take k)) = addP (tot (l.drop k)) (tot A') from Prod.ext (by simp only [addP, subP]; omega) (by simp only [addP, subP]; omega)] at this
  · have := hp (l.take k ++ A) C (by rw [List.append_assoc, ← e1, List.take_append_drop])
    rw [tot_append] at this
    rwa [show subP (addP (tot (l.take k)) (tot A)) (tot (l.take k)) = tot A from Prod.ext (by simp only [addP, subP]; omega) (by simp only [addP, subP]; omega)] at this
theorem no_inv {l : List Pt} (h : ∀ A d u B, l = A ++ (d :: u :: B) → upB u = true → upB d = true) : ∃ U D, l = U ++ D ∧ (∀ s ∈ U, upB s = true) ∧ ∀ s ∈ D, upB s = false := by
  refine split_up l fun j hj hu => ?_
  rw [atP_lt (by omega)] at hu ⊢
  refine h (l.take j) l[j] l[j + 1] (l.drop (j + 2)) ?_ hu
  conv => lhs; rw [← List.take_append_drop j l, List.drop_eq_getElem_cons (by omega), List.drop_eq_getElem_cons hj]
/-- A down step ahead of an up one: some exchange of blocks gives more area, or they lie on one line. -/
theorem inv_line {p d u : Pt} (hp : HgP p) (hpd : HgP (addP p d)) (hd0 : d ≠ (0, 0)) (hd : upB d = false) (hu : upB u = true) (h1 : 0 ≤ crs d u) (h2 : 0 ≤ crs p d) (h3 : 0 ≤ crs p (addP d u)) (h4 : 0 ≤ crs (addP p d) u) : crs d u = 0 := by
  have he := neg_up hd0 hd
  have e1 : crs (negP d) u = -crs d u := by simp only [crs, negP]; grind
  rcases hpd with hq | hq
  · -- the corner between lies above
    have k1 : 0 ≤ crs (negP d) (addP p d) := by
      have : crs (negP d) (addP p d) = crs p d := by simp only [crs, negP, addP]; grind
      omega
    have := trans_up he hq hu k1 h4
    omega
  · have e2 : p = negP d := by
      simp only [addP, Prod.mk.injEq] at hq
      exact Prod.ext (by simp only [negP]; omega) (by simp only [negP]; omega)
    subst e2
    have e3 : crs (negP d) (addP d u) = -crs d u := by simp only [crs, negP, addP]; grind
    omega
theorem HiP.swap {A B : List Pt} {d u : Pt} (h : HiP (A ++ (d :: u :: B))) (hu : upB u = true) : HiP (A ++ (u :: d :: B)) := fun X Y e => by
  have hA := h A _ rfl
  rcases List.append_eq_append_iff.1 e with ⟨A', e1, e2⟩ | ⟨C, e1, e2⟩
  · match A', e2 with
    | [], _ => rw [e1, List.append_nil]; exact hA
    | [a], e2 =>
      simp only [List.cons_append, List.nil_append, List.cons.injEq] at e2
      obtain ⟨rfl, _⟩ := e2
      rw [e1, tot_append]
      exact hA.add (.inl (by simpa [tot, addP] using hu))
    | a :: b :: A', e2 =>
      simp only [List.cons_append, List.cons.injEq] at e2
      obtain ⟨rfl, rfl, rfl⟩ := e2
      have := h (A ++ (d :: u :: A')) Y (by simp)
      rw [e1]
      rwa [tot_perm ((List.Perm.swap u d A').append_left A)] at this
  · have := h X (C ++ (d :: u :: B)) (by rw [← List.append_assoc, ← e1])
    exact this

/-- No order has a greater area than both halves. -/
theorem area_le (k : Nat) : ∀ m : List Pt, (∀ s ∈ m, s ≠ (0, 0)) → tot m = (0, 0) → (abS m - arP (0, 0) m).toNat = k → arP (0, 0) m ≤ halvS m := by
  induction k using Nat.strongRecOn with
  | _ k ih =>
    -- another order with more area
    have more : ∀ m m' : List Pt, m'.Perm m → (∀ s ∈ m, s ≠ (0, 0)) → tot m = (0, 0) → (abS m - arP (0, 0) m).toNat = k → arP (0, 0) m < arP (0, 0) m' → arP (0, 0) m ≤ halvS m := fun m m' hp h0 hc hk hlt => by
      have h1 := arP_abS m'
      have h2 := abS_perm hp
      have h3 := ih _ (by omega) m' (fun s hs => h0 s (hp.mem_iff.1 hs)) (by rw [tot_perm hp]; exact hc) rfl
      rw [halvS_perm hp] at h3
      omega
    have inner : ∀ j (r : List Pt), invN r = j → HiP r → (∀ s ∈ r, s ≠ (0, 0)) → tot r = (0, 0) → (abS r - arP (0, 0) r).toNat = k → arP (0, 0) r ≤ halvS r := fun j => by
      induction j with
      | zero =>
        intro r hj hh h0 hc hk
        obtain ⟨U, D, rfl, hU, hD⟩ := no_inv (l := r) (fun A d u B e hu => by
          cases hd : upB d with
          | true => rfl
          | false =>
            have := invN_swap hd hu B A
            rw [← e] at this
            omega)
        exact halves_le hU hD hc
      | succ j ihj =>
        intro r hj hh h0 hc hk
        by_cases hex : ∃ A d u B, r = A ++ (d :: u :: B) ∧ upB u = true ∧ upB d = false
        · obtain ⟨A, d, u, B, rfl, hu, hd⟩ := hex
          have s1 := arP_swap A [d] [u] B
          have s2 := arP_swap [] A [d] (u :: B)
          have s3 := arP_swap [] A [d, u] B
          have s4 := arP_swap [] (A ++ [d]) [u] B
          simp only [List.nil_append, List.cons_append, List.append_assoc] at s1 s2 s3 s4
          have t1 : tot [d] = d := by simp [tot, addP]
          have t2 : tot [u] = u := by simp [tot, addP]
          have t3 : tot [d, u] = addP d u := by simp [tot, addP]
          have t4 : tot (A ++ [d]) = addP (tot A) d := by rw [tot_append, t1]
          rw [t1, t2] at s1
          rw [t1] at s2
          rw [t3] at s3
          rw [t4, t2] at s4
          by_cases g1 : crs d u < 0
          · exact more _ _ ((List.Perm.swap d u B).append_left A) h0 hc hk (by omega)
          by_cases g2 : crs (tot A) d < 0
          · exact more _ (d :: (A ++ u :: B)) List.perm_middle.symm h0 hc hk (by omega)
          by_cases g3 : crs (tot A) (addP d u) < 0
          · exact more _ (d :: u :: (A ++ B)) (by
              have e1 : (A ++ d :: u :: B).Perm (d :: (A ++ u :: B)) := List.perm_middle
              exact (e1.trans (List.perm_middle.cons d)).symm) h0 hc hk (by omega)
          by_cases g4 : crs (addP (tot A) d) u < 0
          · exact more _ (u :: (A ++ d :: B)) (by
              have e1 : (A ++ u :: d :: B).Perm (u :: (A ++ d :: B)) := List.perm_middle
              exact e1.symm.trans ((List.Perm.swap d u B).append_left A)) h0 hc hk (by omega)
          have hz := inv_line (hh A _ rfl) (by have := hh (A ++ [d]) (u :: B) (by simp); rwa [t4] at this) (h0 d (by simp)) hd hu (by omega) (by omega) (by omega) (by omega)
          have hp : (A ++ u :: d :: B).Perm (A ++ d :: u :: B) := (List.Perm.swap d u B).append_left A
          have := ihj (A ++ u :: d :: B) (by have := invN_swap hd hu B A; omega) (hh.swap hu) (fun s hs => h0 s (hp.mem_iff.1 hs)) (by rw [tot_perm hp]; exact hc) (by rw [abS_perm hp]; rw [hz] at s1; rw [s1]; simpa using hk)
          rw [halvS_perm hp] at this
          omega
        · obtain ⟨U, D, rfl, hU, hD⟩ := no_inv (l := r) (fun A d u B e hu => by
            cases hd : upB d with
            | true => rfl
            | false => exact absurd ⟨A, d, u, B, e, hu, hd⟩ hex)
          exact halves_le hU hD hc
    intro m h0 hc hk
    obtain ⟨j, hj, hh⟩ := rot_hi hc
    have hp : (rotL m j).Perm m := by
      unfold rotL
      conv => rhs; rw [← List.take_append_drop j m]
      exact List.perm_append_comm
    have ha := area_rot hc j hj
    have := inner _ (rotL m j) rfl hh (fun s hs => h0 s (hp.mem_iff.1 hs)) (tot_rot m j hc) (by rw [abS_perm hp, ha]; exact hk)
    rw [halvS_perm hp, ha] at this
    exact this
/-- No order has a greater area than that by directions. -/
theorem Hv.most {l U D m : List Pt} (H : Hv l U D) (hc : tot l = (0, 0)) (h0 : ∀ s ∈ l, s ≠ (0, 0)) (hp : m.Perm l) : arP (0, 0) m ≤ arP (0, 0) l := by
  rw [H.area hc, ← halvS_perm hp]
  exact area_le _ m (fun s hs => h0 s (hp.mem_iff.1 hs)) (by rw [tot_perm hp]; exact hc) rfl

/-! Steps put in order. -/
/-- Not behind. -/
def leD (a b : Pt) : Prop := befB b a = false
theorem leD_iff {a b : Pt} : leD a b ↔ (upB a = true ∧ upB b = false) ∨ (upB a = upB b ∧ 0 ≤ crs a b) := by
  have := crs_swap a b
  unfold leD befB
  cases upB a <;> cases upB b <;> simp <;> omega
theorem leD_trans {a b c : Pt} (ha : a ≠ (0, 0)) (hb : b ≠ (0, 0)) (hc : c ≠ (0, 0)) (h1 : leD a b) (h2 : leD b c) : leD a c := by
  rw [leD_iff] at *
  rcases h1 with ⟨a1, b1⟩ | ⟨a1, a2⟩
  · rcases h2 with ⟨b2, c2⟩ | ⟨b2, c2⟩
    · exact .inl ⟨a1, c2⟩
    · exact .inl ⟨a1, by rw [← b2]; exact b1⟩
  · rcases h2 with ⟨b2, c2⟩ | ⟨b2, c2⟩
    · exact .inl ⟨by rw [a1]; exact b2, c2⟩
    · refine .inr ⟨a1.trans b2, ?_⟩
      cases hu : upB b with
      | true => exact trans_up (by rw [a1]; exact hu) hu (by rw [← b2]; exact hu) a2 c2
      | false =>
        have := trans_up (neg_up ha (by rw [a1]; exact hu)) (neg_up hb hu) (neg_up hc (by rw [← b2]; exact hu)) (by rw [crs_neg]; exact a2) (by rw [crs_neg]; exact c2)
        rwa [crs_neg] at this
theorem befB_le {a b : Pt} (h : befB a b = true) : leD a b := by
  rw [leD_iff]
  unfold befB at h
  cases ha : upB a <;> cases hb : upB b <;> simp [ha, hb] at h ⊢ <;> omega
def SrtP (l : List Pt) : Prop := l.Pairwise leD
theorem kP_hi {x : Pt} {S : List Pt} : ∀ {n i : Nat}, kP x S n ≤ i → i < n → befB x (atP S i) = true
  | 0, _, _, h => by omega
  | n + 1, i, h1, h2 => by
    cases hb : befB x (atP S n) with
    | true =>
      rw [kP_yes hb] at h1
      by_cases e : i = n
      · rw [e]; exact hb
      · exact kP_hi h1 (by omega)
    | false =>
      rw [kP_no hb] at h1
      omega
theorem kP_lo {x : Pt} {S : List Pt} : ∀ {n i : Nat}, kP x S n = i + 1 → befB x (atP S i) = false
  | 0, _, h => by simp [kP] at h
  | n + 1, i, h => by
    cases hb : befB x (atP S n) with
    | true => rw [kP_yes hb] at h; exact kP_lo h
    | false =>
      rw [kP_no hb] at h
      obtain rfl : n = i := by omega
      exact hb
theorem insP_srt {x : Pt} {S : List Pt} (hx : x ≠ (0, 0)) (h0 : ∀ s ∈ S, s ≠ (0, 0)) (h : SrtP S) : SrtP (insP x S) := by
  have hk := kP_le x S S.length
  unfold insP putP
  have h' : SrtP (S.take (kP x S S.length) ++ S.drop (kP x S S.length)) := by rw [List.take_append_drop]; exact h
  obtain ⟨p1, p2, p3⟩ := List.pairwise_append.1 h'
  have q1 : ∀ a ∈ S.take (kP x S S.length), leD a x := fun a ha => by
    obtain ⟨i, hi, rfl⟩ := List.getElem_of_mem ha
    have hi2 : i < kP x S S.length := by rw [List.length_take] at hi; omega
    obtain ⟨k, ek⟩ : ∃ k, kP x S S.length = k + 1 := ⟨kP x S S.length - 1, by omega⟩
    have h3 := kP_lo ek
    rw [atP_lt (by omega)] at h3
    rw [List.getElem_take]
    by_cases e : i = k
    · subst e; exact h3
    · exact leD_trans (h0 _ (List.getElem_mem _)) (h0 _ (List.getElem_mem _)) hx (List.pairwise_iff_getElem.1 h i k (by omega) (by omega) (by omega)) h3
  have q2 : ∀ b ∈ S.drop (kP x S S.length), leD x b := fun b hb => by
    obtain ⟨i, hi, rfl⟩ := List.getElem_of_mem hb
    rw [List.length_drop] at hi
    rw [List.getElem_drop]
    have := kP_hi (x := x) (S := S) (n := S.length) (i := kP x S S.length + i) (by omega) (by omega)
    rw [atP_lt (by omega)] at this
    exact befB_le this
  exact List.pairwise_append.2 ⟨p1, List.pairwise_cons.2 ⟨q2, p2⟩, fun a ha b hb => by
    rcases List.mem_cons.1 hb with rfl | hb
    · exact q1 a ha
    · exact p3 a ha b hb⟩
theorem foldl_srt : ∀ (l S : List Pt), (∀ s ∈ l, s ≠ (0, 0)) → (∀ s ∈ S, s ≠ (0, 0)) → SrtP S → SrtP (l.foldl (fun S x => insP x S) S)
  | [], _, _, _, h => h
  | x :: t, S, hl, hS, h => foldl_srt t _ (fun s hs => hl s (by simp [hs])) (fun s hs => by
      rcases List.mem_cons.1 ((insP_perm x S).mem_iff.1 hs) with rfl | h
      · exact hl _ (by simp)
      · exact hS s h) (insP_srt (hl x (by simp)) hS h)
theorem srt_srtP {l : List Pt} (h : ∀ s ∈ l, s ≠ (0, 0)) : SrtP (srt l) := foldl_srt l [] h (fun _ hs => by cases hs) List.Pairwise.nil
theorem srt_id {l : List Pt} (h : SrtP l) : srt l = l := by
  have key : ∀ (t S : List Pt), SrtP (S ++ t) → t.foldl (fun S x => insP x S) S = S ++ t := fun t => by
    induction t with
    | nil => intro S _; simp
    | cons x t ih =>
      intro S hs
      have e : insP x S = S ++ [x] := by
        have hk : kP x S S.length = S.length := by
          match hl : S.length with
          | 0 => simp [kP]
          | n + 1 =>
            refine kP_no ?_
            rw [atP_lt (by omega)]
            exact (List.pairwise_append.1 hs).2.2 _ (List.getElem_mem _) x (by simp)
        unfold insP putP
        rw [hk]; simp
      rw [List.foldl_cons, e, ih _ (by simpa using hs)]
      simp
  exact key l [] h
theorem SrtP.hv {l : List Pt} (h : SrtP l) : ∃ U D, Hv l U D := by
  obtain ⟨U, D, rfl, hU, hD⟩ := no_inv (l := l) (fun A d u B e hu => by
    subst e
    have h1 := (List.pairwise_append.1 h).2.1
    have h2 := (List.pairwise_cons.1 h1).1 u (by simp)
    rw [leD_iff] at h2
    rcases h2 with ⟨h2, _⟩ | ⟨h2, _⟩
    · exact h2
    · rw [h2]; exact hu)
  obtain ⟨p1, p2, _⟩ := List.pairwise_append.1 h
  refine ⟨U, D, rfl, hU, hD, p1.imp_of_mem fun {a b} ha hb h => ?_, p2.imp_of_mem fun {a b} ha hb h => ?_⟩
  · rw [leD_iff, hU a ha, hU b hb] at h
    simpa using h
  · rw [leD_iff, hD a ha, hD b hb] at h
    simpa using h

/-! Orders by directions are convex. -/
theorem numN_none0 {f : Nat → Bool} : ∀ n : Nat, (∀ i, i < n → f i = false) → numN f n = 0
  | 0, _ => rfl
  | n + 1, h => by rw [numN, numN_none0 n (fun i hi => h i (by omega)), h n (by omega)]; rfl
theorem sortP_at {l : List Pt} (h : SortP l) {i j : Nat} (hij : i < j) (hj : j < l.length) : 0 ≤ crs (atP l i) (atP l j) := by
  rw [atP_lt (by omega), atP_lt hj]
  exact List.pairwise_iff_getElem.1 h i j (by omega) hj hij
theorem all_zero {a : Pt} : ∀ {l : List Pt}, (∀ s ∈ l, crs a s ≤ 0) → crs a (tot l) = 0 → ∀ s ∈ l, crs a s = 0
  | [], _, _, s, hs => by cases hs
  | x :: t, h, h0, s, hs => by
    have e : crs a (tot (x :: t)) = crs a x + crs a (tot t) := by simp only [tot, crs, addP]; grind
    have h1 := h x (by simp)
    have h2 : crs a (tot t) ≤ 0 := by
      have := crs_tot (negP a) t (fun b hb => by
        have := h b (by simp [hb])
        have e2 : crs (negP a) b = -crs a b := by simp only [crs, negP]; grind
        omega)
      have e2 : crs (negP a) (tot t) = -crs a (tot t) := by simp only [crs, negP]; grind
      omega
    rcases List.mem_cons.1 hs with rfl | hs
    · omega
    · exact all_zero (fun b hb => h b (by simp [hb])) (by omega) s hs
theorem line_area {l : List Pt} {a : Pt} (ha : a ≠ (0, 0)) (hc : tot l = (0, 0)) (h : ∀ s ∈ l, crs a s ≤ 0) : arP (0, 0) l = 0 := by
  have hz := all_zero h (by rw [hc]; simp [crs])
  refine arP_flat l _ (fun s _ => by simp [crs]) fun s hs u hu => flat_trans ha (by rw [crs_swap, hz s hs]; rfl) (hz u hu)
theorem atP_last (U : List Pt) (u : Pt) : atP (U ++ [u]) U.length = u := by simp [atP, List.getD_eq_getElem?_getD]
theorem Hv.conv {l U D : List Pt} (H : Hv l U D) (hc : tot l = (0, 0)) (h0 : ∀ s ∈ l, s ≠ (0, 0)) (hn : l ≠ []) (ha : 0 < arP (0, 0) l) : convB l = true := by
  have hU : U ≠ [] := by
    rintro rfl
    have e := H.eq
    rw [List.nil_append] at e
    subst e
    exact tot_ne' hn h0 H.dn hc
  have hD : D ≠ [] := by
    rintro rfl
    have e := H.eq
    rw [List.append_nil] at e
    subst e
    exact tot_ne hn H.up hc
  have hlU : 0 < U.length := List.length_pos_iff.2 hU
  have hlD : 0 < D.length := List.length_pos_iff.2 hD
  have hl : l.length = U.length + D.length := by rw [H.eq, List.length_append]
  have eU : ∀ i, i < U.length → atP l i = atP U i := fun i hi => by rw [H.eq, atP_app, if_pos hi]
  have eD : ∀ i, atP l (U.length + i) = atP D i := fun i => by rw [H.eq, atP_app, if_neg (by omega), show U.length + i - U.length = i by omega]
  have mU : ∀ i, i < U.length → atP U i ∈ U := fun i hi => by rw [atP_lt hi]; exact List.getElem_mem hi
  have mD : ∀ i, i < D.length → atP D i ∈ D := fun i hi => by rw [atP_lt hi]; exact List.getElem_mem hi
  have nU : ∀ s ∈ U, s ≠ (0, 0) := fun s hs => h0 s (by rw [H.eq]; simp [hs])
  have nD : ∀ s ∈ D, s ≠ (0, 0) := fun s hs => h0 s (by rw [H.eq]; simp [hs])
  have gU : ∀ s ∈ U, ∃ i, i < U.length ∧ s = atP U i := fun s hs => by
    obtain ⟨i, hi, rfl⟩ := List.getElem_of_mem hs
    exact ⟨i, hi, (atP_lt hi).symm⟩
  have gD : ∀ s ∈ D, ∃ i, i < D.length ∧ s = atP D i := fun s hs => by
    obtain ⟨i, hi, rfl⟩ := List.getElem_of_mem hs
    exact ⟨i, hi, (atP_lt hi).symm⟩
  have sU : ∀ i j, i ≤ j → j < U.length → 0 ≤ crs (atP U i) (atP U j) := fun i j hij hj => by
    by_cases e : i = j
    · subst e
      have : crs (atP U i) (atP U i) = 0 := by simp only [crs]; grind
      omega
    · exact sortP_at H.sU (by omega) hj
  have sD : ∀ i j, i ≤ j → j < D.length → 0 ≤ crs (atP D i) (atP D j) := fun i j hij hj => by
    by_cases e : i = j
    · subst e
      have : crs (atP D i) (atP D i) = 0 := by simp only [crs]; grind
      omega
    · exact sortP_at H.sD (by omega) hj
  have n1 : ∀ a b, crs (negP a) b = -crs a b := fun a b => by simp only [crs, negP]; grind
  have n2 : ∀ a b, crs a (negP b) = -crs a b := fun a b => by simp only [crs, negP]; grind
  -- the turn from above to below
  have t1 : 0 < crs (atP U (U.length - 1)) (atP D 0) := by
    refine Classical.byContradiction fun hno => ?_
    have u1 := H.up _ (mU (U.length - 1) (by omega))
    have d1 := neg_up (nD _ (mD 0 hlD)) (H.dn _ (mD 0 hlD))
    have := line_area (nU _ (mU (U.length - 1) (by omega))) hc fun s hs => by
      rw [H.eq, List.mem_append] at hs
      rcases hs with hs | hs
      · obtain ⟨i, hi, rfl⟩ := gU s hs
        have h1 := sU i (U.length - 1) (by omega) (by omega)
        have h2 := crs_swap (atP U i) (atP U (U.length - 1))
        omega
      · obtain ⟨i, hi, rfl⟩ := gD s hs
        have h1 := trans_up u1 d1 (neg_up (nD _ (mD i hi)) (H.dn _ (mD i hi))) (by rw [n2]; omega) (by rw [crs_neg]; exact sD 0 i (by omega) hi)
        rw [n2] at h1
        omega
    omega
  -- and back
  have t2 : 0 < crs (atP D (D.length - 1)) (atP U 0) := by
    refine Classical.byContradiction fun hno => ?_
    have u1 := H.up _ (mU 0 hlU)
    have d1 := neg_up (nD _ (mD (D.length - 1) (by omega))) (H.dn _ (mD (D.length - 1) (by omega)))
    have := line_area (nD _ (mD (D.length - 1) (by omega))) hc fun s hs => by
      rw [H.eq, List.mem_append] at hs
      rcases hs with hs | hs
      · obtain ⟨i, hi, rfl⟩ := gU s hs
        have h1 := trans_up d1 u1 (H.up _ (mU i hi)) (by rw [n1]; omega) (sU 0 i (by omega) hi)
        rw [n1] at h1
        omega
      · obtain ⟨i, hi, rfl⟩ := gD s hs
        have h1 := sD i (D.length - 1) (by omega) (by omega)
        have h2 := crs_swap (atP D i) (atP D (D.length - 1))
        omega
    omega
  have nx : ∀ i, i + 1 < l.length → nxt l i = atP l (i + 1) := fun i hi => by unfold nxt; rw [Nat.mod_eq_of_lt hi]
  have nxl : nxt l (l.length - 1) = atP U 0 := by
    unfold nxt
    rw [show l.length - 1 + 1 = l.length by omega, Nat.mod_self, eU 0 hlU]
  have el : atP l (l.length - 1) = atP D (D.length - 1) := by rw [show l.length - 1 = U.length + (D.length - 1) by omega, eD]
  unfold convB
  rw [Bool.and_eq_true]
  constructor
  · rw [turnsB_iff]
    intro i hi
    by_cases e1 : i + 1 < U.length
    · rw [nx i (by omega), eU i (by omega), eU (i + 1) e1, ok_up (H.up _ (mU i (by omega))) (H.up _ (mU (i + 1) e1))]
      exact sU i (i + 1) (by omega) e1
    · by_cases e2 : i < U.length
      · obtain rfl : i = U.length - 1 := by omega
        rw [nx _ (by omega), eU _ (by omega), show U.length - 1 + 1 = U.length + 0 by omega, eD, okB_iff]
        exact .inl t1
      · obtain ⟨j, rfl⟩ : ∃ j, i = U.length + j := ⟨i - U.length, by omega⟩
        by_cases e3 : j + 1 < D.length
        · rw [nx _ (by omega), eD, Nat.add_assoc, eD]
          have h1 := (ok_up (neg_up (nD _ (mD j (by omega))) (H.dn _ (mD j (by omega)))) (neg_up (nD _ (mD (j + 1) e3)) (H.dn _ (mD (j + 1) e3)))).2 (by rw [crs_neg]; exact sD j (j + 1) (by omega) e3)
          have h2 : dotP (negP (atP D j)) (negP (atP D (j + 1))) = dotP (atP D j) (atP D (j + 1)) := by simp only [dotP, negP]; grind
          rw [okB_iff, crs_neg, h2] at h1
          rw [okB_iff]
          exact h1
        · rw [show U.length + j = l.length - 1 by omega, nxl, el, okB_iff]
          exact .inl t2
  · rw [decide_eq_true_eq]
    unfold wrapsN
    have hz : numN (fun i => wrapB (atP l i) (nxt l i)) (l.length - 1) = 0 := numN_none0 _ fun i hi => by
      rw [nx i (by omega)]
      unfold wrapB
      by_cases e1 : i < U.length
      · rw [eU i e1, H.up _ (mU i e1)]; rfl
      · obtain ⟨j, rfl⟩ : ∃ j, i = U.length + j := ⟨i - U.length, by omega⟩
        rw [Nat.add_assoc, eD, eD, H.dn _ (mD (j + 1) (by omega))]
        simp
    conv => lhs; rw [show l.length = (l.length - 1) + 1 by omega]
    rw [numN, hz, nxl, el]
    unfold wrapB
    rw [H.dn _ (mD _ (by omega)), H.up _ (mU 0 hlU)]
    rfl
theorem Hv.conv_iff {l U D : List Pt} (H : Hv l U D) (hc : tot l = (0, 0)) (h0 : ∀ s ∈ l, s ≠ (0, 0)) (hn : l ≠ []) : convB l = decide (0 < areaP l) := by
  rw [areaP_ar hc]
  by_cases ha : 0 < arP (0, 0) l
  · rw [H.conv hc h0 hn ha, decide_eq_true ha]
  · rw [decide_eq_false ha]
    cases h : convB l with
    | false => rfl
    | true =>
      have := areaP_pos h0 hc h
      rw [areaP_ar hc] at this
      exact absurd this ha
/-- What is said of steps in order. -/
theorem IsPath.srt_all {l : List Pt} (h : IsPath l) : IsPath (srt l) ∧ srt (srt l) = srt l ∧ areaP l ≤ areaP (srt l) ∧ 0 ≤ areaP (srt l) ∧ convB (srt l) = decide (0 < areaP (srt l)) := by
  have hp := srt_perm l
  have hi := h.perm hp
  have hs := srt_srtP h.nz
  obtain ⟨U, D, H⟩ := hs.hv
  refine ⟨hi, srt_id hs, ?_, ?_, H.conv_iff hi.closed hi.nz (fun e => by have := hi.lo; rw [e] at this; simp at this)⟩
  · rw [areaP_ar h.closed, areaP_ar hi.closed]
    exact H.most hi.closed hi.nz hp.symm
  · rw [areaP_ar hi.closed, H.area hi.closed]
    unfold halvS
    have := abS_nn ((srt l).filter upB)
    have := abS_nn ((srt l).filter fun s => !upB s)
    omega
theorem IsPath.srt_most {l m : List Pt} (h : IsPath l) (hm : m.Perm l) : areaP m ≤ areaP (srt l) := by
  have hp := srt_perm l
  have hi := h.perm hp
  obtain ⟨U, D, H⟩ := (srt_srtP h.nz).hv
  rw [areaP_ar (h.perm hm).closed, areaP_ar hi.closed]
  exact H.most hi.closed hi.nz (hm.trans hp.symm)
end Go.Proofs.Ytdnegamminhbfaa

/- Pure facts of chapters 6 and 7: paths turned, gone backwards, zonogons. -/
namespace Go.Proofs.Ytdnegamminhbfaa

/-! Turned by a quarter. -/
def quaP (p : Pt) : Pt := (-p.2, p.1)
theorem qua_crs (a b : Pt) : crs (quaP a) (quaP b) = crs a b := by simp only [crs, quaP]; grind
theorem qua_dot (a b : Pt) : dotP (quaP a) (quaP b) = dotP a b := by simp only [dotP, quaP]; grind
theorem qua_ok (a b : Pt) : okB (quaP a) (quaP b) = okB a b := by unfold okB; rw [qua_crs, qua_dot]
theorem qua_at {l : List Pt} {i : Nat} (h : i < l.length) : atP (l.map quaP) i = quaP (atP l i) := by simp [atP, List.getD_eq_getElem?_getD, h]
theorem qua_nxt {l : List Pt} {i : Nat} (h : i < l.length) : nxt (l.map quaP) i = quaP (nxt l i) := by
  unfold nxt
  rw [List.length_map]
  exact qua_at (Nat.mod_lt _ (by omega))
theorem qua_turns (l : List Pt) : turnsB (l.map quaP) = turnsB l := by
  rw [Bool.eq_iff_iff, turnsB_iff, turnsB_iff, List.length_map]
  constructor
  · intro h i hi
    have := h i hi
    rwa [qua_at hi, qua_nxt hi, qua_ok] at this
  · intro h i hi
    rw [qua_at hi, qua_nxt hi, qua_ok]
    exact h i hi
/-- The quarter of a direction. -/
def qdN (a : Pt) : Int := if 0 < a.1 ∧ 0 ≤ a.2 then 0 else if a.1 ≤ 0 ∧ 0 < a.2 then 1 else if a.1 < 0 ∧ a.2 ≤ 0 then 2 else 3
theorem qd_bd (a : Pt) : 0 ≤ qdN a ∧ qdN a ≤ 3 := by
  unfold qdN
  split
  · omega
  · split
    · omega
    · split <;> omega
theorem qd_up {a : Pt} (h : a ≠ (0, 0)) : upB a = decide (qdN a ≤ 1) := by
  obtain ⟨x, y⟩ := a
  have h0 : ¬(x = 0 ∧ y = 0) := fun e => h (Prod.ext e.1 e.2)
  rw [Bool.eq_iff_iff]
  unfold upB qdN
  simp only [Bool.or_eq_true, Bool.and_eq_true, decide_eq_true_eq]
  split
  · omega
  · split
    · omega
    · split <;> omega
theorem qd_qua {a : Pt} (h : a ≠ (0, 0)) : (qdN (quaP a) - qdN a - 1) % 4 = 0 := by
  obtain ⟨x, y⟩ := a
  have h0 : ¬(x = 0 ∧ y = 0) := fun e => h (Prod.ext e.1 e.2)
  unfold qdN quaP
  dsimp only
  by_cases c1 : 0 < x ∧ 0 ≤ y
  · rw [if_pos c1, if_neg (by omega), if_pos (by omega)]; decide
  · rw [if_neg c1]
    by_cases c2 : x ≤ 0 ∧ 0 < y
    · rw [if_pos c2, if_neg (by omega), if_neg (by omega), if_pos (by omega)]; decide
    · rw [if_neg c2]
      by_cases c3 : x < 0 ∧ y ≤ 0
      · rw [if_pos c3, if_neg (by omega), if_neg (by omega), if_neg (by omega)]; decide
      · rw [if_neg c3, if_pos (by omega)]; decide
/-- How many quarters a turn goes on. -/
def adv (a b : Pt) : Int := (qdN b - qdN a) % 4
theorem qd_turn {a b : Pt} (ha : a ≠ (0, 0)) (hb : b ≠ (0, 0)) (h : okB a b = true) : adv a b ≠ 3 := by
  obtain ⟨x, y⟩ := a
  obtain ⟨u, v⟩ := b
  have ha0 : ¬(x = 0 ∧ y = 0) := fun e => ha (Prod.ext e.1 e.2)
  have hb0 : ¬(u = 0 ∧ v = 0) := fun e => hb (Prod.ext e.1 e.2)
  rw [okB_iff] at h
  simp only [crs, dotP] at h
  intro hq
  unfold adv qdN at hq
  dsimp only at hq
  -- a lies a quarter behind b, so the turn is one to the right
  have key : ∀ p q r s : Int, 0 ≤ p → 0 ≤ q → 0 ≤ r → 0 ≤ s → 0 ≤ p * q + r * s := fun p q r s h1 h2 h3 h4 => by
    have := Int.mul_nonneg h1 h2
    have := Int.mul_nonneg h3 h4
    omega
  by_cases a1 : 0 < x ∧ 0 ≤ y
  · rw [if_pos a1] at hq
    have hb3 : 0 ≤ u ∧ v < 0 := by split at hq <;> (first | omega | (split at hq <;> (first | omega | (split at hq <;> omega))))
    have k1 := Int.mul_pos a1.1 (show 0 < -v by omega)
    have k2 := Int.mul_nonneg a1.2 hb3.1
    rw [Int.mul_neg] at k1
    omega
  · rw [if_neg a1] at hq
    by_cases a2 : x ≤ 0 ∧ 0 < y
    · rw [if_pos a2] at hq
      have hb3 : 0 < u ∧ 0 ≤ v := by split at hq <;> (first | omega | (split at hq <;> (first | omega | (split at hq <;> omega))))
      have k1 := Int.mul_pos a2.2 hb3.1
      have k2 := Int.mul_nonneg (show 0 ≤ -x by omega) hb3.2
      rw [Int.neg_mul] at k2
      omega
    · rw [if_neg a2] at hq
      by_cases a3 : x < 0 ∧ y ≤ 0
      · rw [if_pos a3] at hq
        have hb3 : u ≤ 0 ∧ 0 < v := by split at hq <;> (first | omega | (split at hq <;> (first | omega | (split at hq <;> omega))))
        have k1 := Int.mul_pos (show 0 < -x by omega) hb3.2
        have k2 := Int.mul_nonneg (show 0 ≤ -y by omega) (show 0 ≤ -u by omega)
        rw [Int.neg_mul] at k1
        rw [Int.neg_mul_neg] at k2
        omega
      · rw [if_neg a3] at hq
        have a4 : 0 ≤ x ∧ y < 0 := by omega
        have hb3 : u < 0 ∧ v ≤ 0 := by split at hq <;> (first | omega | (split at hq <;> (first | omega | (split at hq <;> omega))))
        have k1 := Int.mul_pos (show 0 < -y by omega) (show 0 < -u by omega)
        have k2 := Int.mul_nonneg a4.1 (show 0 ≤ -v by omega)
        rw [Int.neg_mul_neg] at k1
        rw [Int.mul_neg] at k2
        omega
theorem qd_wrap {a b : Pt} (ha : a ≠ (0, 0)) (hb : b ≠ (0, 0)) (h : okB a b = true) : adv a b = (qdN b - qdN a) + 4 * (if wrapB a b then 1 else 0) := by
  have h3 := qd_turn ha hb h
  have b1 := qd_bd a
  have b2 := qd_bd b
  unfold wrapB
  rw [qd_up ha, qd_up hb]
  unfold adv at *
  by_cases c1 : qdN a ≤ 1
  · rw [decide_eq_true c1]
    simp only [Bool.not_true, Bool.false_and, Bool.false_eq_true, if_false]
    omega
  · rw [decide_eq_false c1]
    by_cases c2 : qdN b ≤ 1
    · rw [decide_eq_true c2]
      simp only [Bool.not_false, Bool.true_and, if_true]
      omega
    · rw [decide_eq_false c2]
      simp only [Bool.not_false, Bool.true_and, Bool.false_eq_true, if_false]
      omega
theorem qua_adv {a b : Pt} (ha : a ≠ (0, 0)) (hb : b ≠ (0, 0)) : adv (quaP a) (quaP b) = adv a b := by
  have h1 := qd_qua ha
  have h2 := qd_qua hb
  unfold adv
  omega
theorem sumF_add (f g : Nat → Int) : ∀ n, sumF (fun i => f i + g i) n = sumF f n + sumF g n
  | 0 => by simp [sumF]
  | n + 1 => by simp only [sumF, sumF_add f g n]; omega
theorem sumF_num (f : Nat → Bool) : ∀ n, sumF (fun i => if f i then 1 else 0) n = (numN f n : Nat)
  | 0 => rfl
  | n + 1 => by
    simp only [sumF, sumF_num f n, numN]
    split <;> simp
theorem sumF_tele (f : Nat → Int) : ∀ n, sumF (fun i => f (i + 1) - f i) n = f n - f 0
  | 0 => by simp [sumF]
  | n + 1 => by simp only [sumF, sumF_tele f n]; omega
theorem sumF_ring (f : Pt → Int) (l : List Pt) (_h : 0 < l.length) : sumF (fun i => f (nxt l i) - f (atP l i)) l.length = 0 := by
  have e : ∀ i, i < l.length → f (nxt l i) - f (atP l i) = (fun j => f (atP l (j % l.length))) (i + 1) - (fun j => f (atP l (j % l.length))) i := fun i hi => by
    show f (nxt l i) - f (atP l i) = f (atP l ((i + 1) % l.length)) - f (atP l (i % l.length))
    rw [Nat.mod_eq_of_lt hi]
  rw [sumF_congr e, sumF_tele (fun j => f (atP l (j % l.length))) l.length]
  simp
theorem adv_sum {l : List Pt} (h0 : ∀ s ∈ l, s ≠ (0, 0)) (hl : 0 < l.length) (h : turnsB l = true) : sumF (fun i => adv (atP l i) (nxt l i)) l.length = 4 * (wrapsN l : Nat) := by
  have m : ∀ i, i < l.length → atP l i ≠ (0, 0) := fun i hi => h0 _ (by rw [atP_lt hi]; exact List.getElem_mem hi)
  rw [sumF_congr fun i hi => qd_wrap (m i hi) (m _ (Nat.mod_lt (i + 1) hl)) (turnsB_iff.1 h i hi), sumF_add, sumF_ring qdN l hl, sumF_mul, sumF_num]
  show 0 + 4 * ((wrapsN l : Nat) : Int) = _
  omega
theorem quaP_nz {a : Pt} (h : a ≠ (0, 0)) : quaP a ≠ (0, 0) := fun e => by
  have e1 : -a.2 = 0 := congrArg Prod.fst e
  have e2 : a.1 = 0 := congrArg Prod.snd e
  exact h (Prod.ext e2 (by show a.2 = 0; omega))
theorem qua_conv {l : List Pt} (h0 : ∀ s ∈ l, s ≠ (0, 0)) (hl : 0 < l.length) : convB (l.map quaP) = convB l := by
  unfold convB
  rw [qua_turns]
  cases ht : turnsB l with
  | false => rfl
  | true =>
    have h1 := adv_sum h0 hl ht
    have h2 := adv_sum (l := l.map quaP) (fun s hs => by
      obtain ⟨a, ha, rfl⟩ := List.mem_map.1 hs
      exact quaP_nz (h0 a ha)) (by simpa using hl) (by rw [qua_turns]; exact ht)
    have h3 : sumF (fun i => adv (atP (l.map quaP) i) (nxt (l.map quaP) i)) l.length = sumF (fun i => adv (atP l i) (nxt l i)) l.length := sumF_congr fun i hi => by
      rw [qua_at hi, qua_nxt hi]
      exact qua_adv (h0 _ (by rw [atP_lt hi]; exact List.getElem_mem hi)) (h0 _ (by unfold nxt; rw [atP_lt (Nat.mod_lt _ hl)]; exact List.getElem_mem _))
    rw [List.length_map, h3] at h2
    rw [Bool.true_and, Bool.true_and, decide_eq_decide]
    omega
theorem tot_qua : ∀ l : List Pt, tot (l.map quaP) = quaP (tot l)
  | [] => rfl
  | a :: t => by
    rw [List.map_cons, tot_cons, tot_cons, tot_qua t]
    exact Prod.ext (by simp only [addP, quaP]; omega) (by simp only [addP, quaP])
theorem arP_qua : ∀ l : List Pt, arP (0, 0) (l.map quaP) = arP (0, 0) l
  | [] => rfl
  | a :: t => by rw [List.map_cons, arP_cons, arP_cons, arP_qua t, tot_qua, qua_crs]
theorem stepP_qua {s : Pt} (h : stepP s) : stepP (quaP s) := by
  obtain ⟨h1, h2, h3⟩ := h
  exact ⟨by simp only [quaP]; omega, by simp only [quaP]; omega, quaP_nz h3⟩
theorem IsPath.qua {l : List Pt} (h : IsPath l) : IsPath (l.map quaP) :=
  ⟨by rw [List.length_map]; exact h.lo, by rw [List.length_map]; exact h.hi, fun s hs => by
    obtain ⟨a, ha, rfl⟩ := List.mem_map.1 hs
    exact stepP_qua (h.steps a ha), by rw [tot_qua, h.closed]; simp [quaP]⟩
theorem IsPath.area_qua {l : List Pt} (h : IsPath l) : areaP (l.map quaP) = areaP l := by rw [areaP_ar h.closed, areaP_ar h.qua.closed, arP_qua]
theorem gcd_qua (s : Pt) : gcdP (quaP s) = gcdP s := by
  unfold gcdP quaP
  dsimp only
  rw [Int.natAbs_neg, Nat.gcd_comm]
theorem rim_qua (l : List Pt) : rimP (l.map quaP) = rimP l := by
  rw [rimP_sum, rimP_sum, List.map_map]
  congr 1
  exact List.map_congr_left fun s _ => gcd_qua s
theorem qua4 (l : List Pt) : (((l.map quaP).map quaP).map quaP).map quaP = l := by
  rw [List.map_map, List.map_map, List.map_map]
  conv => rhs; rw [← List.map_id l]
  refine List.map_congr_left fun s _ => ?_
  exact Prod.ext (by simp [quaP]) (by simp [quaP])
theorem IsPath.conv_qua {l : List Pt} (h : IsPath l) : convB (l.map quaP) = convB l := qua_conv h.nz (by have := h.lo; omega)

/-! Gone backwards. -/
abbrev bakP (l : List Pt) : List Pt := (l.map negP).reverse
theorem IsPath.neg {l : List Pt} (h : IsPath l) : IsPath (l.map negP) :=
  ⟨by rw [List.length_map]; exact h.lo, by rw [List.length_map]; exact h.hi, fun s hs => by
    obtain ⟨a, ha, rfl⟩ := List.mem_map.1 hs
    exact neg_step (h.steps a ha), by rw [tot_neg, h.closed]; simp [negP]⟩
theorem IsPath.bak {l : List Pt} (h : IsPath l) : IsPath (bakP l) := h.neg.perm (List.reverse_perm _)
theorem arP_neg : ∀ l : List Pt, arP (0, 0) (l.map negP) = arP (0, 0) l
  | [] => rfl
  | a :: t => by rw [List.map_cons, arP_cons, arP_cons, arP_neg t, tot_neg, crs_neg]
theorem IsPath.area_bak {l : List Pt} (h : IsPath l) : areaP (bakP l) = -areaP l := by rw [areaP_ar h.closed, areaP_ar h.bak.closed, arP_rev, arP_neg]
theorem IsPath.conv_bak {l : List Pt} (h : IsPath l) (hc : convB l = true) : convB (bakP l) = false := by
  cases e : convB (bakP l) with
  | false => rfl
  | true =>
    have h1 := h.area_pos hc
    have h2 := h.bak.area_pos e
    rw [h.area_bak] at h2
    omega
theorem negP_negP (a : Pt) : negP (negP a) = a := Prod.ext (by simp [negP]) (by simp [negP])
theorem bak_bak (l : List Pt) : bakP (bakP l) = l := by
  unfold bakP
  rw [List.map_reverse, List.reverse_reverse, List.map_map]
  conv => rhs; rw [← List.map_id l]
  exact List.map_congr_left fun s _ => negP_negP s

/-! Begun elsewhere. -/
theorem IsPath.rot {l : List Pt} (h : IsPath l) (k : Nat) : IsPath (rotL l k) := h.perm (by
  unfold rotL
  conv => rhs; rw [← List.take_append_drop k l]
  exact List.perm_append_comm)

/-! Runs. -/
theorem runP_back {l : List Pt} {f t : Nat} (h : f ≤ t) (ht : t < l.length) : runP (runP l f t) f t = l := by
  have hl := runP_len l h
  refine list_atP (by rw [runP_len _ h, hl]) fun i hi => ?_
  rw [runP_at h (by omega), runP_at h ht, runP_at h ht]
  by_cases c : f ≤ i ∧ i ≤ t
  · rw [if_pos c, if_pos (by omega)]
    congr 1
    omega
  · rw [if_neg c, if_neg c]
theorem rim_perm {l m : List Pt} (h : l.Perm m) : rimP l = rimP m := by
  rw [rimP_sum, rimP_sum]
  induction h with
  | nil => rfl
  | cons x _ ih => simp only [List.map_cons, List.sum_cons, ih]
  | swap x y t => simp only [List.map_cons, List.sum_cons]; omega
  | trans _ _ h1 h2 => exact h1.trans h2
theorem IsPath.gain_even {l m : List Pt} (h : IsPath l) (hp : m.Perm l) : (areaP m - areaP l) % 2 = 0 := by
  have h1 := h.even
  have h2 := (h.perm hp).even
  rw [rim_perm hp] at h2
  omega

/-! Numbers of orders. -/
theorem neg_inj {a b : Pt} (h : negP a = negP b) : a = b := by rw [← negP_negP a, h, negP_negP]
theorem mem_neg {x : Pt} {l : List Pt} : negP x ∈ l.map negP ↔ x ∈ l :=
  ⟨fun h => by
    obtain ⟨a, ha, e⟩ := List.mem_map.1 h
    rwa [← neg_inj e], fun h => List.mem_map.2 ⟨x, h, rfl⟩⟩
theorem dd_neg : ∀ l : List Pt, dd (l.map negP) = (dd l).map negP
  | [] => rfl
  | a :: t => by
    simp only [List.map_cons, dd]
    by_cases h : a ∈ t
    · rw [if_pos h, if_pos (mem_neg.2 h), dd_neg t]
    · rw [if_neg h, if_neg (fun e => h (mem_neg.1 e)), dd_neg t, List.map_cons]
theorem erase_neg (x : Pt) : ∀ l : List Pt, (l.map negP).erase (negP x) = (l.erase x).map negP
  | [] => rfl
  | a :: t => by
    rw [List.map_cons, List.erase_cons, List.erase_cons]
    by_cases h : a = x
    · subst h; simp
    · rw [if_neg (by simpa using fun e => h (neg_inj e)), if_neg (by simpa using h), List.map_cons, erase_neg x t]
theorem nD_neg : ∀ (m : Nat) (l : List Pt), nD m (l.map negP) = nD m l
  | 0, _ => rfl
  | m + 1, l => by
    unfold nD
    rw [dd_neg, List.map_map]
    refine sum_on fun x _ => ?_
    show nD m ((l.map negP).erase (negP x)) = _
    rw [erase_neg, nD_neg m]
theorem nD_bak (m : Nat) (l : List Pt) : nD m (bakP l) = nD m l := by rw [nD_perm m (List.reverse_perm _), nD_neg]
theorem nD_two {m : Nat} {x y : Pt} {l : List Pt} (hl : l.length = m) (hy : y ∈ l) (hne : y ≠ x) : 2 ≤ nD (m + 1) (x :: l) := by
  rw [nD_split]
  have h1 := nD_pos m l hl
  have h2 : 0 < (((dd l).filter fun y => decide (y ≠ x)).map fun y => nD m (x :: l.erase y)).sum := by
    have hm : y ∈ (dd l).filter fun y => decide (y ≠ x) := List.mem_filter.2 ⟨mem_dd.2 hy, by simpa using hne⟩
    have hp := List.perm_cons_erase hm
    rw [sum_perm hp, List.map_cons, List.sum_cons]
    have := nD_pos m (x :: l.erase y) (by
      have := List.length_pos_of_mem hy
      simp [List.length_erase_of_mem hy]; omega)
    omega
  omega
theorem tot_same {a : Pt} : ∀ {l : List Pt}, (∀ s ∈ l, s = a) → tot l = ((l.length : Int) * a.1, (l.length : Int) * a.2)
  | [], _ => by simp [tot]
  | s :: t, h => by
    have h1 := h s (by simp)
    subst h1
    rw [tot_cons, tot_same fun u hu => h u (by simp [hu])]
    exact Prod.ext (by simp only [addP, List.length_cons]; rw [Int.natCast_add, Int.add_mul]; simp; omega) (by simp only [addP, List.length_cons]; rw [Int.natCast_add, Int.add_mul]; simp; omega)
theorem IsPath.two {l : List Pt} (h : IsPath l) : 2 ≤ nD l.length l := by
  match l, h with
  | [], h => have := h.lo; simp at this
  | x :: t, h =>
    have hx := h.steps x (by simp)
    refine Classical.byContradiction fun hno => ?_
    have hall : ∀ s ∈ x :: t, s = x := fun s hs => by
      rcases List.mem_cons.1 hs with rfl | hs
      · rfl
      · refine Classical.byContradiction fun hne => hno ?_
        exact nD_two rfl hs hne
    have ht := tot_same hall
    rw [h.closed] at ht
    simp only [Prod.mk.injEq] at ht
    have hlen : ((x :: t).length : Int) ≠ 0 := by simp; omega
    exact hx.2.2 (Prod.ext ((Int.mul_eq_zero.1 ht.1.symm).resolve_left hlen) ((Int.mul_eq_zero.1 ht.2.symm).resolve_left hlen))
theorem nD_720 {l : List Pt} (h : l.length ≤ 6) : nD l.length l ≤ 720 := by
  have h1 := nD_fac l.length l rfl
  have key : ∀ n, n ≤ 6 → fac n ≤ 720 := by decide
  have := key _ h
  omega

/-! Zonogons. -/
theorem up_upV {s : Pt} (h : s ≠ (0, 0)) : upB (upV s) = true := by
  unfold upV
  rw [dn_up h]
  cases hu : upB s with
  | true => simpa using hu
  | false => simpa using neg_up h hu
theorem zon_hv {l : List Pt} (h0 : ∀ s ∈ l, s ≠ (0, 0)) : Hv (zonP l) (srt (l.map upV)) ((srt (l.map upV)).map negP) := by
  have hn : ∀ s ∈ l.map upV, s ≠ (0, 0) ∧ upB s = true := fun s hs => by
    obtain ⟨a, ha, rfl⟩ := List.mem_map.1 hs
    have := up_upV (h0 a ha)
    exact ⟨fun e => by rw [e] at this; simp [upB] at this, this⟩
  have hu : ∀ s ∈ srt (l.map upV), upB s = true := fun s hs => (hn s ((srt_perm _).mem_iff.1 hs)).2
  have hs := srt_srtP (l := l.map upV) fun s hs => (hn s hs).1
  have hS : SortP (srt (l.map upV)) := hs.imp_of_mem fun {a b} ha hb h => by
    rw [leD_iff, hu a ha, hu b hb] at h
    simpa using h
  refine ⟨rfl, hu, fun s hs => ?_, hS, ?_⟩
  · obtain ⟨a, ha, rfl⟩ := List.mem_map.1 hs
    exact up_neg (hu a ha)
  · unfold SortP at hS ⊢
    rw [List.pairwise_map]
    exact hS.imp fun {a b} h => by rwa [crs_neg]
theorem zon_area {l : List Pt} (h2 : 2 ≤ l.length) (h4 : l.length ≤ 4) (hs : ∀ s ∈ l, stepP s) : areaP (zonP l) = 2 * abS l := by
  have H := zon_hv (l := l) fun s h => (hs s h).2.2
  have hp := zonP_path h2 h4 hs
  rw [areaP_ar hp.closed, H.area hp.closed]
  unfold halvS
  rw [H.eq, (filt_up H.up H.dn).1, (filt_up H.up H.dn).2, abS_neg, abS_perm (srt_perm _), abS_up]
  omega
theorem abS_prS {l : List Pt} (h2 : 2 ≤ l.length) (h4 : l.length ≤ 4) : prS (fun a b => 2 * abC a b) l l.length = 2 * abS l := by
  rw [prS_two]
  congr 1
  match l, h2, h4 with
  | [a, b], _, _ => simp [prS, sumF, atP, abS, abR, abC_sym b a]
  | [a, b, c], _, _ => simp [prS, sumF, atP, abS, abR, abC_sym b a, abC_sym c a, abC_sym c b]; omega
  | [a, b, c, d], _, _ => simp [prS, sumF, atP, abS, abR, abC_sym b a, abC_sym c a, abC_sym c b, abC_sym d a, abC_sym d b, abC_sym d c]; omega
theorem sumF_mono {f g : Nat → Int} : ∀ {n : Nat}, (∀ i, i < n → f i ≤ g i) → sumF f n ≤ sumF g n
  | 0, _ => by simp [sumF]
  | n + 1, h => by
    have h1 := sumF_mono (f := f) (g := g) (n := n) fun i hi => h i (by omega)
    have h2 := h n (by omega)
    simp only [sumF]; omega
theorem ne_ab (a b : Pt) : neC a b ≤ abC a b := by
  unfold neC abC
  split <;> split <;> omega
theorem pr_mono (l : List Pt) (n : Nat) : prS neC l n ≤ prS abC l n := sumF_mono fun _ _ => sumF_mono fun _ _ => ne_ab _ _
theorem prS_nn (l : List Pt) (n : Nat) : 0 ≤ prS neC l n := by
  have h : ∀ a b, 0 ≤ neC a b := fun a b => by unfold neC; split <;> omega
  have z : ∀ (g : Nat → Int), (∀ i, 0 ≤ g i) → ∀ n, 0 ≤ sumF g n := fun g hg n => by
    induction n with
    | zero => simp [sumF]
    | succ n ih => have := hg n; simp only [sumF]; omega
  exact z _ (fun i => z _ (fun k => h _ _) _) _
theorem abS_zero {l : List Pt} (h2 : 2 ≤ l.length) (h4 : l.length ≤ 4) : 2 * abS l = 0 ↔ prS neC l l.length = 0 := by
  have h1 := abS_prS h2 h4
  rw [prS_two] at h1
  constructor
  · intro h
    have := pr_mono l l.length
    have := prS_nn l l.length
    omega
  · intro h
    have hz := pieces_zero h
    have : prS abC l l.length = 0 := by
      have z : ∀ (g : Nat → Int) (n : Nat), (∀ i, i < n → g i = 0) → sumF g n = 0 := fun g n => by
        induction n with
        | zero => intro _; rfl
        | succ n ih =>
          intro h
          have h1 := h n (by omega)
          have h2 := ih fun i hi => h i (by omega)
          simp only [sumF]; omega
      refine z _ _ fun i hi => z _ _ fun k hk => ?_
      have := hz (atP l i) (by rw [atP_lt hi]; exact List.getElem_mem hi) (atP l k) (by rw [atP_lt (by omega)]; exact List.getElem_mem _)
      unfold abC
      rw [this]; rfl
    omega
theorem zon_conv {l : List Pt} (h2 : 2 ≤ l.length) (h4 : l.length ≤ 4) (hs : ∀ s ∈ l, stepP s) : convB (zonP l) = decide (0 < prS neC l l.length) := by
  have H := zon_hv (l := l) fun s h => (hs s h).2.2
  have hp := zonP_path h2 h4 hs
  rw [H.conv_iff hp.closed hp.nz (fun e => by have := hp.lo; rw [e] at this; simp at this), zon_area h2 h4 hs]
  have h1 := abS_zero h2 h4
  have h3 := abS_nn l
  have h4 := prS_nn l l.length
  rw [decide_eq_decide]
  omega
theorem abS_rev {l : List Pt} : abS l.reverse = abS l := abS_perm (List.reverse_perm l)
theorem sumF_one {n : Nat} : sumF (fun _ => 1) n = n := by
  induction n with
  | zero => rfl
  | succ n ih => simp [sumF, ih]
theorem pieces_le (l : List Pt) : prS neC l l.length ≤ sumF (fun i => (i : Nat)) l.length := by
  unfold prS
  refine sumF_mono fun i _ => ?_
  have h : sumF (fun k => neC (atP l i) (atP l k)) i ≤ sumF (fun _ => 1) i := sumF_mono fun k _ => by unfold neC; split <;> omega
  rw [sumF_one] at h
  exact h
end Go.Proofs.Ytdnegamminhbfaa
