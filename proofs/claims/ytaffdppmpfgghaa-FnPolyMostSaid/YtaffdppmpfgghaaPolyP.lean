/- Bundles of a sum, counted in several ways; those that close, listed, counted, the first of them. Nothing of the program. -/
import Derived.Test.YtaffdppmpfgghaaWidP
namespace Go.Proofs.Ytaffdppmpfgghaa
/-! Bundles of a sum, counted by their least stick -/
/-- The number of triangles of a round. -/
def rnd3 (p : Int) : Int := if p % 2 = 1 then ((p + 3) * (p + 3) + 24) / 48 else (p * p + 24) / 48
def shF : Nat → Nat → Nat → Nat
  | 0, _, _ => 0
  | f + 1, n, p => if n = 0 then (if p = 0 then 1 else 0) else if p < n then 0 else shF f (n - 1) (p - 1) + shF f n (p - n)
theorem shF_bd : ∀ f n p, shF f n p ≤ 2 ^ f
  | 0, _, _ => by simp [shF]
  | f + 1, n, p => by
    rw [shF]
    have h1 := shF_bd f (n - 1) (p - 1)
    have h2 := shF_bd f n (p - n)
    have h3 : 1 ≤ 2 ^ f := Nat.one_le_two_pow
    split
    · split <;> omega
    · split
      · omega
      · omega
theorem shF_big (f n p : Nat) (hf : f ≤ 40) : (shF f n p : Int) ≤ 1099511627776 := by
  have h1 := shF_bd f n p
  have h2 : 2 ^ f ≤ 2 ^ 40 := Nat.pow_le_pow_right (by omega) hf
  have h3 : 2 ^ 40 = 1099511627776 := by decide
  omega
theorem shF_end {f p : Nat} : shF (f + 1) 0 p = if p = 0 then 1 else 0 := by rw [shF, if_pos rfl]
theorem shF_none {f n p : Nat} (hn : 0 < n) (h : p < n) : shF (f + 1) n p = 0 := by rw [shF, if_neg (by omega), if_pos h]
theorem shF_step {f n p : Nat} (hn : 0 < n) (h : n ≤ p) : shF (f + 1) n p = shF f (n - 1) (p - 1) + shF f n (p - n) := by rw [shF, if_neg (by omega), if_neg (by omega)]
theorem shF_one : ∀ f p, 1 ≤ p → p + 1 < f → shF f 1 p = 1
  | 0, p, h1, h2 => by omega
  | f + 1, p, h1, h2 => by
    rw [shF_step (by omega) h1]
    obtain ⟨g, rfl⟩ : ∃ g, f = g + 1 := ⟨f - 1, by omega⟩
    by_cases h : p = 1
    · subst h
      rw [shF_end, shF_none (by omega) (by omega)]; rfl
    · rw [shF_end, if_neg (by omega), shF_one (g + 1) (p - 1) (by omega) (by omega)]
/-- Bundles of n sticks with the sum p. -/
def shr (n p : Nat) : Nat := shF 40 n p
/-- The bundles of one stick less with the rest as sum, for the first k lengths from half of p on. -/
def restTo (n p : Nat) : Nat → Int
  | 0 => shr n p
  | k + 1 => restTo n p k - shr (n - 1) (p - ((p + 1) / 2 + k))
def restN (n p : Nat) : Int := restTo n p (p + 1 - (p + 1) / 2)
theorem restTo_bd (n p : Nat) : ∀ k, -(1099511627776 * k) ≤ restTo n p k ∧ restTo n p k ≤ 1099511627776
  | 0 => by have := shF_big 40 n p (by omega); simp only [restTo, shr]; omega
  | k + 1 => by
    have h1 := restTo_bd n p k
    have h2 := shF_big 40 (n - 1) (p - ((p + 1) / 2 + k)) (by omega)
    simp only [restTo, shr] at *
    omega

/-! Counting for one greatest length -/
def sumN (f : Nat → Nat) : Nat → Nat
  | 0 => 0
  | k + 1 => sumN f k + f k
theorem sumN_le {f : Nat → Nat} {b : Nat} (h : ∀ i, f i ≤ b) : ∀ k, sumN f k ≤ b * k
  | 0 => by simp [sumN]
  | k + 1 => by have := sumN_le h k; have := h k; rw [sumN, Nat.mul_succ]; omega
/-- Ways to s lengths from least to G with a sum, in order. -/
def cnt (G : Nat) : Nat → Nat → Nat → Nat
  | 0, sum, _ => if sum = 0 then 1 else 0
  | s + 1, sum, least => sumN (fun k => cnt G s (sum - (least + k)) (least + k)) (min sum G + 1 - least)
theorem cnt_bd (G : Nat) (hG : G ≤ 30) : ∀ s sum least, cnt G s sum least ≤ 32 ^ s
  | 0, sum, least => by simp only [cnt]; split <;> simp
  | s + 1, sum, least => by
    rw [cnt]
    refine Nat.le_trans (sumN_le (b := 32 ^ s) (fun i => cnt_bd G hG s _ _) _) ?_
    rw [Nat.pow_succ]
    exact Nat.mul_le_mul_left _ (by omega)
theorem cnt_big {G s : Nat} (sum least : Nat) (hG : G ≤ 30) (hs : s ≤ 6) : cnt G s sum least ≤ 1073741824 := by
  refine Nat.le_trans (cnt_bd G hG s sum least) (Nat.le_trans (Nat.pow_le_pow_right (by omega) hs) (by decide))
def tryTo (n p : Nat) : Nat → Nat
  | 0 => 0
  | k + 1 => tryTo n p k + cnt (k + 1) (n - 1) (p - (k + 1)) 1
def tryN (n p : Nat) : Nat := tryTo n p ((p - 1) / 2)

/-! All bundles of a sum, and those that close -/
def gapL (xs : List Int) : Int := sumL xs - 2 * xs.getD (xs.length - 1) 0
def closB (xs : List Int) : Bool := decide (3 ≤ xs.length) && decide (0 < gapL xs)
def lst : Nat → Nat → Nat → List (List Int)
  | 0, p, _ => if p = 0 then [[]] else []
  | s + 1, p, x => (List.range (p / (s + 1) + 1 - x)).flatMap fun k => (lst s (p - (x + k)) (x + k)).map fun r => ((x + k : Nat) : Int) :: r
def lstTo (s p x k : Nat) : List (List Int) := (List.range k).flatMap fun k => (lst s (p - (x + k)) (x + k)).map fun r => ((x + k : Nat) : Int) :: r
theorem lstTo_zero (s p x : Nat) : lstTo s p x 0 = [] := rfl
theorem lstTo_succ (s p x k : Nat) : lstTo s p x (k + 1) = lstTo s p x k ++ (lst s (p - (x + k)) (x + k)).map fun r => ((x + k : Nat) : Int) :: r := by
  unfold lstTo
  rw [List.range_succ, List.flatMap_append]
  simp
theorem lst_succ (s p x : Nat) : lst (s + 1) p x = lstTo s p x (p / (s + 1) + 1 - x) := rfl
theorem lst_len : ∀ s p x, ∀ r ∈ lst s p x, r.length = s
  | 0, p, x, r, h => by
    rw [lst] at h
    split at h
    · simp at h; subst h; rfl
    · simp at h
  | s + 1, p, x, r, h => by
    rw [lst, List.mem_flatMap] at h
    obtain ⟨k, _, h⟩ := h
    rw [List.mem_map] at h
    obtain ⟨r', h', rfl⟩ := h
    rw [List.length_cons, lst_len s _ _ r' h']
def polN (n p : Nat) : Nat := ((lst n p 1).filter closB).length
def polF (n p : Nat) : Option (List Int) := ((lst n p 1).filter closB).head?
def firstTo {α : Type} (f : Nat → Option α) : Nat → Option α
  | 0 => none
  | k + 1 => (firstTo f k).or (f k)
theorem firstTo_hit {α : Type} {f : Nat → Option α} {k : Nat} {r : α} (h1 : firstTo f k = none) (h2 : f k = some r) : ∀ K, k < K → firstTo f K = some r
  | 0, h => by omega
  | K + 1, h => by
    rw [firstTo]
    by_cases e : k = K
    · subst e; rw [h1, h2]; rfl
    · rw [firstTo_hit h1 h2 K (by omega)]; rfl
theorem firstTo_none {α : Type} {f : Nat → Option α} {k : Nat} (h1 : firstTo f k = none) (h2 : f k = none) : firstTo f (k + 1) = none := by rw [firstTo, h1, h2]; rfl
/-- The first bundle that goes on from b and closes. -/
def fst : Nat → List Int → Nat → Nat → Option (List Int)
  | 0, b, sum, _ => if decide (sum = 0) && closB b then some b else none
  | s + 1, b, sum, x => firstTo (fun k => fst s (b ++ [((x + k : Nat) : Int)]) (sum - (x + k)) (x + k)) (sum / (s + 1) + 1 - x)
/-- The number of bundles of s sticks more, with the sum p, from x on, that close behind sticks with the sum acc and the greatest length last. -/
def cl : Nat → Nat → Nat → Nat → Nat → Nat
  | 0, p, _, acc, last => if p = 0 then (if 2 * last < acc then 1 else 0) else 0
  | s + 1, p, x, acc, _ => sumN (fun k => cl s (p - (x + k)) (x + k) (acc + (x + k)) (x + k)) (p / (s + 1) + 1 - x)
theorem sumL_snoc (b : List Int) (v : Int) : sumL (b ++ [v]) = sumL b + v := sumL_app b v
theorem last_snoc (b : List Int) (v : Int) : (b ++ [v]).getD ((b ++ [v]).length - 1) 0 = v := by
  rw [List.length_append, List.length_singleton, Nat.add_sub_cancel, List.getD_eq_getElem?_getD, List.getElem?_append_right (Nat.le_refl _)]; simp
theorem snoc_app (b r : List Int) (v : Int) : b ++ v :: r = (b ++ [v]) ++ r := by simp
theorem cl_is : ∀ (s p x acc last : Nat) (b : List Int), 3 ≤ b.length + s → sumL b = acc → (b.getD (b.length - 1) 0 = last ∨ 0 < s) →
    ((lst s p x).filter (fun r => closB (b ++ r))).length = cl s p x acc last
  | 0, p, x, acc, last, b, h1, h2, h3 => by
    rw [lst, cl]
    by_cases hp : p = 0
    · rw [if_pos hp, if_pos hp]
      have h3 : b.getD (b.length - 1) 0 = last := by rcases h3 with h | h; exact h; omega
      have e : closB (b ++ []) = decide (2 * last < acc) := by
        rw [List.append_nil]
        unfold closB gapL
        rw [h2, h3, Bool.eq_iff_iff]
        simp
        omega
      by_cases hc : 2 * last < acc
      · rw [if_pos hc]
        rw [decide_eq_true hc] at e
        simp only [List.filter_cons, e, if_true, List.filter_nil]; rfl
      · rw [if_neg hc]
        rw [decide_eq_false hc] at e
        simp only [List.filter_cons, e, List.filter_nil]; rfl
    · rw [if_neg hp, if_neg hp]; rfl
  | s + 1, p, x, acc, last, b, h1, h2, h3 => by
    rw [lst_succ, cl]
    generalize p / (s + 1) + 1 - x = K
    induction K with
    | zero => rfl
    | succ K ih =>
      rw [lstTo_succ, List.filter_append, List.length_append, ih, sumN]
      congr 1
      rw [List.filter_map, List.length_map]
      have := cl_is s (p - (x + K)) (x + K) (acc + (x + K)) (x + K) (b ++ [((x + K : Nat) : Int)]) (by simp; omega) (by rw [sumL_snoc, h2]; omega) (.inl (last_snoc _ _))
      rw [← this]
      congr 1
      refine List.filter_congr fun r _ => ?_
      show closB (b ++ ((x + K : Nat) : Int) :: r) = _
      rw [snoc_app]
theorem polN_cl {n : Nat} (p : Nat) (hn : 3 ≤ n) : polN n p = cl n p 1 0 0 := cl_is n p 1 0 0 [] (by simp; omega) rfl (.inr (by omega))

theorem find_snoc {α : Type} (f : α → Bool) (a b : List α) : (a ++ b).find? f = (a.find? f).or (b.find? f) := List.find?_append
theorem fst_is : ∀ (s : Nat) (b : List Int) (p x : Nat), fst s b p x = ((lst s p x).map (b ++ ·)).find? closB
  | 0, b, p, x => by
    rw [fst, lst]
    by_cases hp : p = 0
    · rw [if_pos hp, decide_eq_true hp, Bool.true_and]
      simp only [List.map_cons, List.map_nil, List.append_nil, List.find?_cons, List.find?_nil]
      cases closB b <;> rfl
    · rw [if_neg hp, decide_eq_false hp]; rfl
  | s + 1, b, p, x => by
    rw [fst, lst_succ]
    generalize p / (s + 1) + 1 - x = K
    induction K with
    | zero => rfl
    | succ K ih =>
      rw [firstTo, ih, lstTo_succ, List.map_append, find_snoc, fst_is s]
      congr 2
      rw [List.map_map]
      refine List.map_congr_left fun r _ => ?_
      exact (snoc_app b r _).symm
theorem polF_is (n p : Nat) : polF n p = fst n [] p 1 := by
  rw [fst_is]; unfold polF
  rw [show (fun (r : List Int) => [] ++ r) = id from rfl, List.map_id, List.head?_filter]


theorem sumN_zero {f : Nat → Nat} : ∀ K, (∀ i, i < K → f i = 0) → sumN f K = 0
  | 0, _ => rfl
  | K + 1, h => by rw [sumN, sumN_zero K (fun i hi => h i (by omega)), h K (by omega)]
theorem sumN_at {f : Nat → Nat} {j : Nat} : ∀ K, (∀ i, i < K → i ≠ j → f i = 0) → sumN f K = if j < K then f j else 0
  | 0, _ => rfl
  | K + 1, h => by
    rw [sumN]
    by_cases e : j = K
    · subst e
      rw [if_pos (by omega), sumN_zero j (fun i hi => h i (by omega) (by omega)), Nat.zero_add]
    · rw [sumN_at K (fun i hi hne => h i (by omega) hne), h K (by omega) (fun e' => e e'.symm), Nat.add_zero]
      by_cases hj : j < K
      · rw [if_pos hj, if_pos (by omega)]
      · rw [if_neg hj, if_neg (by omega)]
theorem sumN_ext {f g : Nat → Nat} : ∀ K, (∀ i, i < K → f i = g i) → sumN f K = sumN g K
  | 0, _ => rfl
  | K + 1, h => by rw [sumN, sumN, sumN_ext K (fun i hi => h i (by omega)), h K (by omega)]
theorem ble_is (a b : Nat) : Nat.ble a b = decide (a ≤ b) := by rw [Bool.eq_iff_iff, Nat.ble_eq, decide_eq_true_eq]
theorem beq_is (a b : Nat) : Nat.beq a b = decide (a = b) := by rw [Bool.eq_iff_iff, Nat.beq_eq, decide_eq_true_eq]
theorem blt_is (a b : Nat) : Nat.blt a b = decide (a < b) := ble_is (a + 1) b
/-- The same, the last stick told by the sum. -/
def clf : Nat → Nat → Nat → Nat → Nat
  | 0, p, x, acc => bif Nat.ble x p && Nat.blt p acc then 1 else 0
  | s + 1, p, x, acc => sumN (fun k => clf s (p - (x + k)) (x + k) (acc + (x + k))) (p / (s + 2) + 1 - x)
theorem clf_is : ∀ (s p x acc last : Nat), cl (s + 1) p x acc last = clf s p x acc
  | 0, p, x, acc, last => by
    rw [cl, clf, ble_is, blt_is]
    rw [sumN_at (j := p - x) _ (fun i hi hne => by rw [cl, if_neg (by omega)])]
    rw [cl]
    by_cases h1 : x ≤ p
    · rw [if_pos (by omega), if_pos (by omega)]
      by_cases h2 : p < acc
      · rw [if_pos (by omega)]; simp [h1, h2]
      · rw [if_neg (by omega)]; simp [h1, h2]
    · rw [if_neg (by omega)]; simp [h1]
  | s + 1, p, x, acc, last => by
    rw [cl, clf]
    exact sumN_ext _ fun i _ => clf_is s _ _ _ _
def cnf (G : Nat) : Nat → Nat → Nat → Nat
  | 0, sum, least => bif Nat.ble least sum && Nat.ble sum G then 1 else 0
  | s + 1, sum, least => sumN (fun k => cnf G s (sum - (least + k)) (least + k)) (min sum G + 1 - least)
theorem cnf_is (G : Nat) : ∀ s sum least, cnt G (s + 1) sum least = cnf G s sum least
  | 0, sum, least => by
    rw [cnt, cnf, ble_is, ble_is]
    rw [sumN_at (j := sum - least) _ (fun i hi hne => by rw [cnt, if_neg (by omega)])]
    rw [cnt]
    by_cases h1 : least ≤ sum
    · by_cases h2 : sum ≤ G
      · rw [if_pos (by omega), if_pos (by omega)]; simp [h1, h2]
      · rw [if_neg (by omega)]; simp [h2]
    · rw [if_neg (by omega)]; simp [h1]
  | s + 1, sum, least => by
    rw [cnt, cnf]
    exact sumN_ext _ fun i _ => cnf_is G s _ _
def tryf (n p : Nat) : Nat → Nat
  | 0 => 0
  | k + 1 => tryf n p k + cnf (k + 1) (n - 2) (p - (k + 1)) 1
theorem tryf_is (n p : Nat) (hn : 2 ≤ n) : ∀ k, tryTo n p k = tryf n p k
  | 0 => rfl
  | k + 1 => by
    rw [tryTo, tryf, tryf_is n p hn k]
    obtain ⟨m, rfl⟩ : ∃ m, n = m + 2 := ⟨n - 2, by omega⟩
    rw [show m + 2 - 1 = m + 1 by omega, cnf_is, Nat.add_sub_cancel]
set_option maxRecDepth 100000
def shg : Nat → Nat → Nat → Nat
  | 0, _, _ => 0
  | f + 1, n, p => bif Nat.blt p n then 0 else bif Nat.beq n 1 then 1 else shg f (n - 1) (p - 1) + shg f n (p - n)
theorem shg_is : ∀ f n p, 1 ≤ n → n + p < f → shF f n p = shg f n p
  | 0, _, _, _, h => by omega
  | f + 1, n, p, h1, h2 => by
    rw [shg, blt_is]
    by_cases hp : p < n
    · rw [shF_none (by omega) hp, decide_eq_true hp]; rfl
    · rw [decide_eq_false hp]
      by_cases hn : n = 1
      · subst hn
        rw [shF_one _ _ (by omega) (by omega)]; rfl
      · have e : Nat.beq n 1 = false := by rw [beq_is]; exact decide_eq_false hn
        rw [e, shF_step (by omega) (by omega), shg_is f (n - 1) (p - 1) (by omega) (by omega), shg_is f n (p - n) (by omega) (by omega)]; rfl
def subN (n p : Nat) : Nat → Nat
  | 0 => 0
  | k + 1 => subN n p k + shg 40 (n - 1) (p - ((p + 1) / 2 + k))
theorem subN_is (n p : Nat) (hn : 2 ≤ n) (hn6 : n ≤ 6) (hp : p ≤ 30) : ∀ k, restTo n p k + (subN n p k : Int) = shg 40 n p
  | 0 => by
    show ((shF 40 n p : Nat) : Int) + 0 = _
    rw [shg_is 40 n p (by omega) (by omega)]; omega
  | k + 1 => by
    have h := subN_is n p hn hn6 hp k
    rw [restTo, subN, shr, shg_is 40 (n - 1) _ (by omega) (by omega)]
    omega
/-- What the tables ask at one place. -/
def rowP (n p : Nat) : Bool :=
  Nat.beq (tryf n p ((p - 1) / 2)) (clf (n - 1) p 1 0) && Nat.beq (clf (n - 1) p 1 0 + subN n p (p + 1 - (p + 1) / 2)) (shg 40 n p) &&
  (Nat.blt 0 (clf (n - 1) p 1 0) == (Nat.ble n p && (Nat.blt 3 n || !Nat.beq p 4))) && (!Nat.beq n 3 || decide (rnd3 (p : Int) = (clf (n - 1) p 1 0 : Int)))
set_option maxRecDepth 100000 in
theorem rows_all : ((List.range 4).all fun i => (List.range 30).all fun j => rowP (i + 3) (j + 1)) = true := by decide +kernel
theorem row_at {n p : Nat} (h1 : 3 ≤ n) (h2 : n ≤ 6) (h3 : 1 ≤ p) (h4 : p ≤ 30) : rowP n p = true := by
  have h := rows_all
  rw [List.all_eq_true] at h
  have h := h (n - 3) (List.mem_range.2 (by omega))
  rw [List.all_eq_true] at h
  have h := h (p - 1) (List.mem_range.2 (by omega))
  rwa [show n - 3 + 3 = n by omega, show p - 1 + 1 = p by omega] at h
theorem poly_facts {n p : Nat} (h1 : 3 ≤ n) (h2 : n ≤ 6) (h3 : 1 ≤ p) (h4 : p ≤ 30) :
    tryN n p = polN n p ∧ restN n p = (polN n p : Int) ∧ polN n p ≤ shr n p ∧ (0 < polN n p ↔ n ≤ p ∧ (3 < n ∨ p ≠ 4)) ∧ (n = 3 → rnd3 p = (polN n p : Int)) := by
  have h := row_at h1 h2 h3 h4
  unfold rowP at h
  simp only [Bool.and_eq_true, Bool.or_eq_true, Bool.not_eq_true', decide_eq_true_eq, ble_is, blt_is, beq_is, beq_iff_eq, decide_eq_false_iff_not] at h
  obtain ⟨⟨⟨q1, q2⟩, q3⟩, q4⟩ := h
  have e1 : polN n p = clf (n - 1) p 1 0 := by
    rw [polN_cl p h1]
    obtain ⟨m, rfl⟩ : ∃ m, n = m + 1 := ⟨n - 1, by omega⟩
    rw [clf_is]; rfl
  have e2 := subN_is n p (by omega) h2 h4 (p + 1 - (p + 1) / 2)
  have e3 : shr n p = shg 40 n p := shg_is 40 n p (by omega) (by omega)
  refine ⟨by unfold tryN; rw [tryf_is n p (by omega), q1, e1], by unfold restN; rw [e1]; omega, by rw [e1, e3]; omega, ?_, ?_⟩
  · rw [e1, ← decide_eq_true_iff (p := 0 < _), q3]
    simp
  · intro hn
    rw [e1]
    rcases q4 with q | q
    · exact absurd hn q
    · exact q
end Go.Proofs.Ytaffdppmpfgghaa
