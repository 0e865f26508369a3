/- Joined: SolP, SolC, SolQ. -/
import Derived.Test.YtiadnbdefcimiaaKit
/- Pure facts of chapter 8: solids, names of corners, first ones, numbers, lengths between two. -/
namespace Go.Proofs.Ytiadnbdefcimiaa

/-- Six lengths from 1 to 12. -/
def Sol (xs : List Int) : Prop := ∃ a b c d e f : Int, xs = [a, b, c, d, e, f] ∧ (1 ≤ a ∧ a ≤ 12) ∧ (1 ≤ b ∧ b ≤ 12) ∧ (1 ≤ c ∧ c ≤ 12) ∧ (1 ≤ d ∧ d ≤ 12) ∧ (1 ≤ e ∧ e ≤ 12) ∧ (1 ≤ f ∧ f ≤ 12)
def solB (xs : List Int) : Bool := decide (xs.length = 6) && xs.all fun x => inB x 1 12
theorem six_of : ∀ {xs : List Int}, xs.length = 6 → ∃ a b c d e f : Int, xs = [a, b, c, d, e, f]
  | [a, b, c, d, e, f], _ => ⟨a, b, c, d, e, f, rfl⟩
  | [], h | [_], h | [_, _], h | [_, _, _], h | [_, _, _, _], h | [_, _, _, _, _], h => by simp at h
  | _ :: _ :: _ :: _ :: _ :: _ :: _ :: t, h => by simp at h
theorem four_of : ∀ {xs : List Int}, xs.length = 4 → ∃ a b c d : Int, xs = [a, b, c, d]
  | [a, b, c, d], _ => ⟨a, b, c, d, rfl⟩
  | [], h | [_], h | [_, _], h | [_, _, _], h => by simp at h
  | _ :: _ :: _ :: _ :: _ :: t, h => by simp at h
theorem sol_of {xs : List Int} (h : solB xs = true) : Sol xs := by
  unfold solB at h
  simp only [Bool.and_eq_true, decide_eq_true_eq] at h
  obtain ⟨a, b, c, d, e, f, rfl⟩ := six_of h.1
  have := h.2
  simp only [List.all_cons, List.all_nil, inB, Bool.and_eq_true, decide_eq_true_eq, Bool.and_true] at this
  exact ⟨a, b, c, d, e, f, rfl, by omega, by omega, by omega, by omega, by omega, by omega⟩
theorem Sol.solB {xs : List Int} (h : Sol xs) : solB xs = true := by
  obtain ⟨a, b, c, d, e, f, rfl, h⟩ := h
  simp [Go.Proofs.Ytiadnbdefcimiaa.solB, inB]
  omega
theorem Sol.len {xs : List Int} (h : Sol xs) : xs.length = 6 := by
  obtain ⟨a, b, c, d, e, f, rfl, h⟩ := h; rfl
theorem Sol.at_ {xs : List Int} (h : Sol xs) {i : Nat} (hi : i < 6) : 1 ≤ xs.getD i 0 ∧ xs.getD i 0 ≤ 12 := by
  obtain ⟨a, b, c, d, e, f, rfl, h⟩ := h
  match i, hi with
  | 0, _ => exact h.1
  | 1, _ => exact h.2.1
  | 2, _ => exact h.2.2.1
  | 3, _ => exact h.2.2.2.1
  | 4, _ => exact h.2.2.2.2.1
  | 5, _ => exact h.2.2.2.2.2

/-! Numbers. -/
def numQ (p q r a b c : Int) : Int := 4 * p * q * r + (p + q - a) * (p + r - b) * (q + r - c) - p * (q + r - c) * (q + r - c) - q * (p + r - b) * (p + r - b) - r * (p + q - a) * (p + q - a)
def numL (xs : List Int) : Int := numQ (xs.getD 0 0 * xs.getD 0 0) (xs.getD 1 0 * xs.getD 1 0) (xs.getD 2 0 * xs.getD 2 0) (xs.getD 3 0 * xs.getD 3 0) (xs.getD 4 0 * xs.getD 4 0) (xs.getD 5 0 * xs.getD 5 0)
/-- The triangles among the faces. -/
def b01 (b : Bool) : Int := if b then 1 else 0
def facL (xs : List Int) : Int := b01 (triB (xs.getD 3 0) (xs.getD 4 0) (xs.getD 5 0)) + b01 (triB (xs.getD 1 0) (xs.getD 2 0) (xs.getD 5 0)) + b01 (triB (xs.getD 0 0) (xs.getD 2 0) (xs.getD 4 0)) + b01 (triB (xs.getD 0 0) (xs.getD 1 0) (xs.getD 3 0))
def stdB (xs : List Int) : Bool := decide (facL xs = 4) && decide (numL xs > 0)

/-! Names of corners. -/
def nmd (p : List Nat) (xs : List Int) : List Int := p.map fun i => xs.getD i 0
def P24 : List (List Nat) := [[0, 1, 2, 3, 4, 5], [0, 2, 1, 4, 3, 5], [1, 0, 2, 3, 5, 4], [1, 2, 0, 5, 3, 4], [2, 1, 0, 5, 4, 3], [2, 0, 1, 4, 5, 3], [0, 3, 4, 1, 2, 5], [0, 4, 3, 2, 1, 5], [3, 0, 4, 1, 5, 2], [3, 4, 0, 5, 1, 2], [4, 3, 0, 5, 2, 1], [4, 0, 3, 2, 5, 1], [3, 1, 5, 0, 4, 2], [3, 5, 1, 4, 0, 2], [1, 3, 5, 0, 2, 4], [1, 5, 3, 2, 0, 4], [5, 1, 3, 2, 4, 0], [5, 3, 1, 4, 2, 0], [5, 4, 2, 3, 1, 0], [5, 2, 4, 1, 3, 0], [4, 5, 2, 3, 0, 1], [4, 2, 5, 0, 3, 1], [2, 4, 5, 0, 1, 3], [2, 5, 4, 1, 0, 3]]
/-- The place of the length between two corners. -/
def edg (i k : Int) : Nat := if min i k = 0 then (max i k - 1).toNat else if min i k = 1 then (max i k + 1).toNat else 5
/-- The places that an order of corners tells. -/
def plcC (c : List Int) : List Nat := [edg (c.getD 0 0) (c.getD 1 0), edg (c.getD 0 0) (c.getD 2 0), edg (c.getD 0 0) (c.getD 3 0), edg (c.getD 1 0) (c.getD 2 0), edg (c.getD 1 0) (c.getD 3 0), edg (c.getD 2 0) (c.getD 3 0)]
/-- Each corner once. -/
def cornB (c : List Int) : Bool := decide (c.length = 4) && ([0, 1, 2, 3] : List Int).all fun k => decide (k ∈ c)
def C4 : List Int := [0, 1, 2, 3]
def C24 : List (List Int) := C4.flatMap fun a => C4.flatMap fun b => C4.flatMap fun c => if a = b ∨ a = c ∨ b = c then [] else [[a, b, c, 6 - a - b - c]]

theorem corn_in {a b c d : Int} (h : cornB [a, b, c, d] = true) : a ∈ C4 ∧ b ∈ C4 ∧ c ∈ C4 ∧ d ∈ C4 := by
  simp only [cornB, C4, List.all_cons, List.all_nil, Bool.and_true, Bool.and_eq_true, decide_eq_true_eq, List.mem_cons, List.not_mem_nil, or_false] at h ⊢
  omega
theorem corn_all : ∀ a ∈ C4, ∀ b ∈ C4, ∀ c ∈ C4, ∀ d ∈ C4, cornB [a, b, c, d] = decide ([a, b, c, d] ∈ C24) := by decide +kernel
theorem corn_mem {c : List Int} (h : cornB c = true) : c ∈ C24 := by
  obtain ⟨a, b, c, d, rfl⟩ := four_of (show c.length = 4 by unfold cornB at h; simp at h; exact h.1)
  obtain ⟨h1, h2, h3, h4⟩ := corn_in h
  rw [corn_all a h1 b h2 c h3 d h4] at h
  exact of_decide_eq_true h
theorem plc_mem : ∀ c ∈ C24, plcC c ∈ P24 := by decide +kernel
theorem plc_all : ∀ p ∈ P24, ∃ c ∈ C24, plcC c = p := by decide +kernel
theorem P24_six : ∀ p ∈ P24, p.length = 6 ∧ ∀ i ∈ p, i < 6 := by decide +kernel
def cmpN (p q : List Nat) : List Nat := p.map fun i => q.getD i 0
theorem P24_comp : ∀ p ∈ P24, ∀ q ∈ P24, cmpN p q ∈ P24 := by decide +kernel
theorem P24_div : ∀ q ∈ P24, ∀ r ∈ P24, ∃ p ∈ P24, cmpN p q = r := by decide +kernel
theorem P24_id : [0, 1, 2, 3, 4, 5] ∈ P24 := by decide +kernel
theorem nmd_comp {p q : List Nat} (hp : ∀ i ∈ p, i < 6) (hq : q.length = 6) (xs : List Int) : nmd p (nmd q xs) = nmd (cmpN p q) xs := by
  unfold nmd cmpN
  rw [List.map_map]
  refine List.map_congr_left fun i hi => ?_
  have := hp i hi
  simp only [Function.comp]
  rw [List.getD_eq_getElem?_getD, List.getElem?_map, List.getD_eq_getElem?_getD (l := q)]
  rw [List.getElem?_eq_getElem (by omega)]
  rfl
theorem nmd_id {xs : List Int} (h : Sol xs) : nmd [0, 1, 2, 3, 4, 5] xs = xs := by
  obtain ⟨a, b, c, d, e, f, rfl, _⟩ := h; rfl
theorem nmd_len {p : List Nat} (hp : p ∈ P24) (xs : List Int) : (nmd p xs).length = 6 := by
  unfold nmd; rw [List.length_map]; exact (P24_six p hp).1
theorem six_list {l : List Nat} (h : l.length = 6) : ∃ a b c d e f, l = [a, b, c, d, e, f] := by
  match l, h with
  | [a, b, c, d, e, f], _ => exact ⟨a, b, c, d, e, f, rfl⟩
theorem nmd_sol {p : List Nat} (hp : p ∈ P24) {xs : List Int} (h : Sol xs) : Sol (nmd p xs) := by
  obtain ⟨h1, h2⟩ := P24_six p hp
  obtain ⟨a, b, c, d, e, f, rfl⟩ := six_list h1
  exact ⟨_, _, _, _, _, _, rfl, h.at_ (h2 a (by simp)), h.at_ (h2 b (by simp)), h.at_ (h2 c (by simp)), h.at_ (h2 d (by simp)), h.at_ (h2 e (by simp)), h.at_ (h2 f (by simp))⟩

/-! The order of lists. -/
def lessB : List Int → List Int → Bool
  | x :: a, y :: b => if x = y then lessB a b else decide (x < y)
  | _, _ => false
def keyL (xs : List Int) : Int := xs.foldl (fun k x => 16 * k + x) 0
theorem less_cons (x : Int) (a : List Int) (y : Int) (b : List Int) : lessB (x :: a) (y :: b) = if x = y then lessB a b else decide (x < y) := rfl
theorem less_nil : lessB [] [] = false := rfl
theorem key6 (a b c d e f : Int) : keyL [a, b, c, d, e, f] = 16 * (16 * (16 * (16 * (16 * a + b) + c) + d) + e) + f := by
  simp [keyL]
theorem less_key {xs ys : List Int} (hx : Sol xs) (hy : Sol ys) : lessB xs ys = decide (keyL xs < keyL ys) := by
  obtain ⟨a, b, c, d, e, f, rfl, h⟩ := hx
  obtain ⟨u, v, w, x, y, z, rfl, k⟩ := hy
  have e1 := key6 a b c d e f
  have e2 := key6 u v w x y z
  generalize keyL [a, b, c, d, e, f] = p at *
  generalize keyL [u, v, w, x, y, z] = q at *
  simp only [less_cons, less_nil]
  repeat' split
  all_goals first
    | (rw [eq_comm, decide_eq_false_iff_not]; omega)
    | (rw [decide_eq_decide]; omega)
theorem key_inj {xs ys : List Int} (hx : Sol xs) (hy : Sol ys) (h : keyL xs = keyL ys) : xs = ys := by
  obtain ⟨a, b, c, d, e, f, rfl, h1⟩ := hx
  obtain ⟨u, v, w, x, y, z, rfl, k⟩ := hy
  simp only [keyL, List.foldl_cons, List.foldl_nil] at h
  simp only [List.cons.injEq, and_true]
  omega
def minL (x y : List Int) : List Int := if lessB y x then y else x
theorem minL_fold : ∀ (ls : List (List Int)) (x : List Int), Sol x → (∀ y ∈ ls, Sol y) → (ls.foldl minL x = x ∨ ls.foldl minL x ∈ ls) ∧ keyL (ls.foldl minL x) ≤ keyL x ∧ ∀ y ∈ ls, keyL (ls.foldl minL x) ≤ keyL y
  | [], x, _, _ => ⟨.inl rfl, Int.le_refl _, fun y hy => by cases hy⟩
  | a :: t, x, hx, hs => by
    have ha := hs a (by simp)
    have hm : Sol (minL x a) := by unfold minL; split <;> assumption
    have hk : keyL (minL x a) ≤ keyL x ∧ keyL (minL x a) ≤ keyL a := by
      unfold minL; rw [less_key ha hx]
      by_cases h : keyL a < keyL x
      · rw [if_pos (by simpa using h)]; omega
      · rw [if_neg (by simpa using h)]; omega
    obtain ⟨h1, h2, h3⟩ := minL_fold t (minL x a) hm (fun y hy => hs y (by simp [hy]))
    rw [List.foldl_cons]
    refine ⟨?_, by omega, fun y hy => ?_⟩
    · rcases h1 with h1 | h1
      · rw [h1]; unfold minL; split
        · exact .inr (by simp)
        · exact .inl rfl
      · exact .inr (by simp [h1])
    · rcases List.mem_cons.1 hy with rfl | hy
      · omega
      · exact h3 y hy
def fstL (xs : List Int) : List Int := (P24.map fun p => nmd p xs).foldl minL xs
theorem nmds_sol {xs : List Int} (h : Sol xs) {ps : List (List Nat)} (hp : ∀ p ∈ ps, p ∈ P24) : ∀ y ∈ ps.map fun p => nmd p xs, Sol y := fun y hy => by
  obtain ⟨p, h1, rfl⟩ := List.mem_map.1 hy
  exact nmd_sol (hp p h1) h
theorem over_mem {xs : List Int} (h : Sol xs) {ps : List (List Nat)} (hp : ∀ p ∈ ps, p ∈ P24) : ∃ p ∈ P24, (ps.map fun p => nmd p xs).foldl minL xs = nmd p xs := by
  rcases (minL_fold _ xs h (nmds_sol h hp)).1 with h1 | h1
  · exact ⟨_, P24_id, by rw [nmd_id h]; exact h1⟩
  · obtain ⟨p, h2, h3⟩ := List.mem_map.1 h1
    exact ⟨p, hp p h2, h3.symm⟩
theorem over_le {xs : List Int} (h : Sol xs) {ps : List (List Nat)} (hp : ∀ p ∈ ps, p ∈ P24) {q : List Nat} (hq : q ∈ ps) : keyL ((ps.map fun p => nmd p xs).foldl minL xs) ≤ keyL (nmd q xs) :=
  (minL_fold _ xs h (nmds_sol h hp)).2.2 _ (List.mem_map.2 ⟨q, hq, rfl⟩)
theorem fst_mem {xs : List Int} (h : Sol xs) : ∃ p ∈ P24, fstL xs = nmd p xs := over_mem h fun _ h => h
theorem fst_le {xs : List Int} (h : Sol xs) {q : List Nat} (hq : q ∈ P24) : keyL (fstL xs) ≤ keyL (nmd q xs) := over_le h (fun _ h => h) hq
theorem fst_sol {xs : List Int} (h : Sol xs) : Sol (fstL xs) := by
  obtain ⟨p, h1, h2⟩ := fst_mem h
  rw [h2]; exact nmd_sol h1 h
theorem fst_uniq {xs r : List Int} (h : Sol xs) (h1 : ∃ p ∈ P24, r = nmd p xs) (h2 : ∀ p ∈ P24, keyL r ≤ keyL (nmd p xs)) : r = fstL xs := by
  obtain ⟨p, hp, e⟩ := h1
  obtain ⟨q, hq, e2⟩ := fst_mem h
  have a1 := h2 q hq
  have a2 := fst_le h hp
  rw [← e2] at a1
  rw [← e] at a2
  exact key_inj (by rw [e]; exact nmd_sol hp h) (fst_sol h) (by omega)
/-- Any way through all names. -/
theorem over_fst {xs : List Int} (h : Sol xs) {ps : List (List Nat)} (hp : ∀ p ∈ ps, p ∈ P24) (hq : ∀ p ∈ P24, p ∈ ps) : (ps.map fun p => nmd p xs).foldl minL xs = fstL xs :=
  fst_uniq h (over_mem h hp) fun p h1 => over_le h hp (hq p h1)
theorem fst_named {xs : List Int} (h : Sol xs) {q : List Nat} (hq : q ∈ P24) : fstL (nmd q xs) = fstL xs := by
  symm
  refine fst_uniq (nmd_sol hq h) ?_ fun p hp => ?_
  · obtain ⟨r, hr, e⟩ := fst_mem h
    obtain ⟨p, hp, e2⟩ := P24_div q hq r hr
    exact ⟨p, hp, by rw [nmd_comp (P24_six p hp).2 (P24_six q hq).1, e2]; exact e⟩
  · rw [nmd_comp (P24_six p hp).2 (P24_six q hq).1]
    exact fst_le h (P24_comp p hp q hq)
theorem fst_fst {xs : List Int} (h : Sol xs) : fstL (fstL xs) = fstL xs := by
  obtain ⟨p, hp, e⟩ := fst_mem h
  rw [e, fst_named h hp, e]
theorem less_self (xs : List Int) : lessB xs xs = false := by
  induction xs with
  | nil => rfl
  | cons x t ih => rw [lessB, if_pos rfl, ih]
theorem less_eq {xs ys : List Int} (hx : Sol xs) (hy : Sol ys) : (!lessB xs ys && !lessB ys xs) = decide (xs = ys) := by
  rw [Bool.eq_iff_iff]
  simp only [Bool.and_eq_true, Bool.not_eq_true', less_key hx hy, less_key hy hx, decide_eq_false_iff_not, decide_eq_true_eq]
  constructor
  · intro h; exact key_inj hx hy (by omega)
  · rintro rfl; omega
theorem fst_self {xs : List Int} (h : Sol xs) : (!lessB (fstL xs) xs) = decide (fstL xs = xs) := by
  rw [← less_eq (fst_sol h) h]
  have := fst_le h P24_id
  rw [nmd_id h] at this
  rw [less_key h (fst_sol h), decide_eq_false (by omega)]
  simp
theorem P24_head : ∀ i, i < 6 → ∃ p ∈ P24, p.getD 0 0 = i := by
  intro i h
  match i, h with
  | 0, _ => decide +kernel
  | 1, _ => decide +kernel
  | 2, _ => decide +kernel
  | 3, _ => decide +kernel
  | 4, _ => decide +kernel
  | 5, _ => decide +kernel
theorem key_head {xs ys : List Int} (hx : Sol xs) (hy : Sol ys) (h : keyL xs ≤ keyL ys) : xs.getD 0 0 ≤ ys.getD 0 0 := by
  obtain ⟨a, b, c, d, e, f, rfl, h1⟩ := hx
  obtain ⟨u, v, w, x, y, z, rfl, k⟩ := hy
  simp only [keyL, List.foldl_cons, List.foldl_nil] at h
  simp only [List.getD_cons_zero]
  omega
theorem nmd_head {p : List Nat} (hp : p ∈ P24) (xs : List Int) : (nmd p xs).getD 0 0 = xs.getD (p.getD 0 0) 0 := by
  obtain ⟨h1, _⟩ := P24_six p hp
  obtain ⟨a, b, c, d, e, f, rfl⟩ := six_list h1
  rfl
/-- The first length is the least one. -/
theorem fst_head {xs : List Int} (h : Sol xs) : (∀ i, i < 6 → (fstL xs).getD 0 0 ≤ xs.getD i 0) ∧ ∃ i, i < 6 ∧ (fstL xs).getD 0 0 = xs.getD i 0 := by
  constructor
  · intro i hi
    obtain ⟨p, hp, e⟩ := P24_head i hi
    have := key_head (fst_sol h) (nmd_sol hp h) (fst_le h hp)
    rw [nmd_head hp, e] at this
    exact this
  · obtain ⟨p, hp, e⟩ := fst_mem h
    refine ⟨p.getD 0 0, ?_, by rw [e, nmd_head hp]⟩
    obtain ⟨h1, h2⟩ := P24_six p hp
    obtain ⟨a, b, c, d, e, f, rfl⟩ := six_list h1
    exact h2 a (by simp)
theorem P24_perm : ∀ p ∈ P24, p.Perm [0, 1, 2, 3, 4, 5] := by decide +kernel
theorem nmd_perm {xs : List Int} (h : Sol xs) {p : List Nat} (hp : p ∈ P24) : (nmd p xs).Perm xs := by
  have := (P24_perm p hp).map fun i => xs.getD i 0
  have e := nmd_id h
  unfold nmd at e ⊢
  rw [e] at this
  exact this
theorem tri_12 (a b c : Int) : triB a b c = triB b a c := by
  unfold triB; rw [Bool.eq_iff_iff]; simp only [Bool.and_eq_true, decide_eq_true_eq]; omega
theorem tri_23 (a b c : Int) : triB a b c = triB a c b := by
  unfold triB; rw [Bool.eq_iff_iff]; simp only [Bool.and_eq_true, decide_eq_true_eq]; omega
theorem num_named {xs : List Int} (h : Sol xs) {p : List Nat} (hp : p ∈ P24) : numL (nmd p xs) = numL xs := by
  obtain ⟨a, b, c, d, e, f, rfl, _⟩ := h
  simp only [P24, List.mem_cons, List.not_mem_nil, or_false] at hp
  have key : ∀ i j k l m n : Nat, numL (nmd [i, j, k, l, m, n] [a, b, c, d, e, f]) = numQ (([a, b, c, d, e, f] : List Int).getD i 0 * ([a, b, c, d, e, f] : List Int).getD i 0) (([a, b, c, d, e, f] : List Int).getD j 0 * ([a, b, c, d, e, f] : List Int).getD j 0) (([a, b, c, d, e, f] : List Int).getD k 0 * ([a, b, c, d, e, f] : List Int).getD k 0) (([a, b, c, d, e, f] : List Int).getD l 0 * ([a, b, c, d, e, f] : List Int).getD l 0) (([a, b, c, d, e, f] : List Int).getD m 0 * ([a, b, c, d, e, f] : List Int).getD m 0) (([a, b, c, d, e, f] : List Int).getD n 0 * ([a, b, c, d, e, f] : List Int).getD n 0) := fun _ _ _ _ _ _ => rfl
  have e0 : numL [a, b, c, d, e, f] = numQ (a * a) (b * b) (c * c) (d * d) (e * e) (f * f) := rfl
  rw [e0]
  rcases hp with rfl | rfl | rfl | rfl | rfl | rfl | rfl | rfl | rfl | rfl | rfl | rfl | rfl | rfl | rfl | rfl | rfl | rfl | rfl | rfl | rfl | rfl | rfl | rfl
  all_goals
    rw [key]
    first
    | (
      simp only [List.getD_cons_zero, List.getD_cons_succ]
      generalize a * a = A
      generalize b * b = B
      generalize c * c = C
      generalize d * d = D
      generalize e * e = E
      generalize f * f = F
      unfold numQ
      grind)
    | rfl
theorem fac_named {xs : List Int} (h : Sol xs) {p : List Nat} (hp : p ∈ P24) : facL (nmd p xs) = facL xs := by
  obtain ⟨a, b, c, d, e, f, rfl, _⟩ := h
  simp only [P24, List.mem_cons, List.not_mem_nil, or_false] at hp
  rcases hp with rfl | rfl | rfl | rfl | rfl | rfl | rfl | rfl | rfl | rfl | rfl | rfl | rfl | rfl | rfl | rfl | rfl | rfl | rfl | rfl | rfl | rfl | rfl | rfl
  all_goals
    simp only [facL, nmd, List.map_cons, List.map_nil, List.getD_cons_zero, List.getD_cons_succ]
    try simp only [tri_12, tri_23, Int.add_comm, Int.add_left_comm, Int.add_assoc]
theorem b01_le (b : Bool) : 0 ≤ b01 b ∧ b01 b ≤ 1 := by cases b <;> decide
theorem b01_one {b : Bool} : b01 b = 1 ↔ b = true := by cases b <;> decide
theorem fac_bd (xs : List Int) : 0 ≤ facL xs ∧ facL xs ≤ 4 := by
  unfold facL
  have h1 := b01_le (triB (xs.getD 3 0) (xs.getD 4 0) (xs.getD 5 0))
  have h2 := b01_le (triB (xs.getD 1 0) (xs.getD 2 0) (xs.getD 5 0))
  have h3 := b01_le (triB (xs.getD 0 0) (xs.getD 2 0) (xs.getD 4 0))
  have h4 := b01_le (triB (xs.getD 0 0) (xs.getD 1 0) (xs.getD 3 0))
  omega
theorem fac_four (xs : List Int) : decide (facL xs = 4) = (triB (xs.getD 0 0) (xs.getD 1 0) (xs.getD 3 0) && (triB (xs.getD 0 0) (xs.getD 2 0) (xs.getD 4 0) && (triB (xs.getD 1 0) (xs.getD 2 0) (xs.getD 5 0) && triB (xs.getD 3 0) (xs.getD 4 0) (xs.getD 5 0)))) := by
  unfold facL
  generalize triB (xs.getD 3 0) (xs.getD 4 0) (xs.getD 5 0) = p
  generalize triB (xs.getD 1 0) (xs.getD 2 0) (xs.getD 5 0) = q
  generalize triB (xs.getD 0 0) (xs.getD 2 0) (xs.getD 4 0) = r
  generalize triB (xs.getD 0 0) (xs.getD 1 0) (xs.getD 3 0) = s
  cases p <;> cases q <;> cases r <;> cases s <;> rfl
theorem std_named {xs : List Int} (h : Sol xs) {p : List Nat} (hp : p ∈ P24) : stdB (nmd p xs) = stdB xs := by
  unfold stdB; rw [fac_named h hp, num_named h hp]
theorem num_fst {xs : List Int} (h : Sol xs) : numL (fstL xs) = numL xs := by
  obtain ⟨p, hp, e⟩ := fst_mem h; rw [e, num_named h hp]
theorem fac_fst {xs : List Int} (h : Sol xs) : facL (fstL xs) = facL xs := by
  obtain ⟨p, hp, e⟩ := fst_mem h; rw [e, fac_named h hp]
theorem std_fst {xs : List Int} (h : Sol xs) : stdB (fstL xs) = stdB xs := by
  obtain ⟨p, hp, e⟩ := fst_mem h; rw [e, std_named h hp]
theorem same_num {xs ys : List Int} (h : Sol xs) (k : Sol ys) (e : fstL xs = fstL ys) : numL xs = numL ys := by
  rw [← num_fst h, e, num_fst k]
theorem same_std {xs ys : List Int} (h : Sol xs) (k : Sol ys) (e : fstL xs = fstL ys) : stdB xs = stdB ys := by
  rw [← std_fst h, e, std_fst k]

/-! Lengths between two that let a solid stand do so too. -/
theorem sq_nn (a : Int) : 0 ≤ a * a := by
  rcases Int.le_total 0 a with h | h
  · exact Int.mul_nonneg h h
  · have := Int.mul_nonneg (show 0 ≤ -a by omega) (show 0 ≤ -a by omega)
    rwa [Int.neg_mul_neg] at this
theorem sq_lt {x y : Int} (hx : 0 ≤ x) (h : x < y) : x * x < y * y := by
  have h1 := Int.mul_le_mul_of_nonneg_left (Int.le_of_lt h) hx
  have h2 := Int.mul_lt_mul_of_pos_right h (show 0 < y by omega)
  omega
theorem mid_pos {X Y Z k f g h : Int} (e : (Z - X) * g = (Z - Y) * f + (Y - X) * h + k * ((Z - Y) * (Y - X) * (Z - X))) (h1 : X < Y) (h2 : Y < Z) (hk : 0 ≤ k) (hf : 0 < f) (hh : 0 < h) : 0 < g := by
  have p1 := Int.mul_pos (show 0 < Z - Y by omega) hf
  have p2 := Int.mul_pos (show 0 < Y - X by omega) hh
  have p3 := Int.mul_nonneg hk (Int.le_of_lt (Int.mul_pos (Int.mul_pos (show 0 < Z - Y by omega) (show 0 < Y - X by omega)) (show 0 < Z - X by omega)))
  rcases Int.lt_or_le 0 g with h | h
  · exact h
  · have := Int.mul_nonneg (show 0 ≤ Z - X by omega) (show 0 ≤ -g by omega)
    rw [Int.mul_neg] at this
    omega
theorem num_mid {xs : List Int} (h : Sol xs) {i : Nat} (hi : i < 6) {x y z : Int} (h1 : 1 ≤ x) (hxy : x < y) (hyz : y < z) (hx : 0 < numL (xs.set i x)) (hz : 0 < numL (xs.set i z)) : 0 < numL (xs.set i y) := by
  have e1 := sq_lt (by omega) hxy
  have e2 := sq_lt (by omega) hyz
  obtain ⟨a, b, c, d, e, f, rfl, _⟩ := h
  have e0 : ∀ a b c d e f : Int, numL [a, b, c, d, e, f] = numQ (a * a) (b * b) (c * c) (d * d) (e * e) (f * f) := fun _ _ _ _ _ _ => rfl
  match i, hi with
  | 0, _ =>
    simp only [List.set_cons_zero, e0] at hx hz ⊢
    generalize x * x = X at *
    generalize y * y = Y at *
    generalize z * z = Z at *
    exact mid_pos (k := f * f) (by unfold numQ; grind) e1 e2 (sq_nn f) hx hz
  | 1, _ =>
    simp only [List.set_cons_zero, List.set_cons_succ, e0] at hx hz ⊢
    generalize x * x = X at *
    generalize y * y = Y at *
    generalize z * z = Z at *
    exact mid_pos (k := e * e) (by unfold numQ; grind) e1 e2 (sq_nn e) hx hz
  | 2, _ =>
    simp only [List.set_cons_zero, List.set_cons_succ, e0] at hx hz ⊢
    generalize x * x = X at *
    generalize y * y = Y at *
    generalize z * z = Z at *
    exact mid_pos (k := d * d) (by unfold numQ; grind) e1 e2 (sq_nn d) hx hz
  | 3, _ =>
    simp only [List.set_cons_zero, List.set_cons_succ, e0] at hx hz ⊢
    generalize x * x = X at *
    generalize y * y = Y at *
    generalize z * z = Z at *
    exact mid_pos (k := c * c) (by unfold numQ; grind) e1 e2 (sq_nn c) hx hz
  | 4, _ =>
    simp only [List.set_cons_zero, List.set_cons_succ, e0] at hx hz ⊢
    generalize x * x = X at *
    generalize y * y = Y at *
    generalize z * z = Z at *
    exact mid_pos (k := b * b) (by unfold numQ; grind) e1 e2 (sq_nn b) hx hz
  | 5, _ =>
    simp only [List.set_cons_zero, List.set_cons_succ, e0] at hx hz ⊢
    generalize x * x = X at *
    generalize y * y = Y at *
    generalize z * z = Z at *
    exact mid_pos (k := a * a) (by unfold numQ; grind) e1 e2 (sq_nn a) hx hz
theorem fac_mid {xs : List Int} (h : Sol xs) {i : Nat} (hi : i < 6) {x y z : Int} (hxy : x < y) (hyz : y < z) (hx : decide (facL (xs.set i x) = 4) = true) (hz : decide (facL (xs.set i z) = 4) = true) : decide (facL (xs.set i y) = 4) = true := by
  obtain ⟨a, b, c, d, e, f, rfl, _⟩ := h
  rw [fac_four] at hx hz ⊢
  match i, hi with
  | 0, _ | 1, _ | 2, _ | 3, _ | 4, _ | 5, _ =>
    simp only [List.set_cons_zero, List.set_cons_succ, List.getD_cons_zero, List.getD_cons_succ, triB, Bool.and_eq_true, decide_eq_true_eq] at hx hz ⊢
    omega
theorem std_mid {xs : List Int} (h : Sol xs) {i : Nat} (hi : i < 6) {x y z : Int} (h1 : 1 ≤ x) (hxy : x ≤ y) (hyz : y ≤ z) (hx : stdB (xs.set i x) = true) (hz : stdB (xs.set i z) = true) : stdB (xs.set i y) = true := by
  rcases Int.lt_or_eq_of_le hxy with hxy | rfl
  · rcases Int.lt_or_eq_of_le hyz with hyz | rfl
    · unfold stdB at hx hz ⊢
      rw [Bool.and_eq_true] at hx hz ⊢
      refine ⟨fac_mid h hi hxy hyz hx.1 hz.1, ?_⟩
      have h2 := num_mid h hi h1 hxy hyz (by simpa using hx.2) (by simpa using hz.2)
      simpa using h2
    · exact hz
  · exact hx

/-! Ints at places. -/
def atI (l : List Int) (i : Nat) : Int := l.getD i 0
theorem atI_lt {l : List Int} {i : Nat} (h : i < l.length) : atI l i = l[i] := by simp [atI, List.getD_eq_getElem?_getD, h]
/-! The program's way: exchange, go on, exchange back. -/
def swpI (l : List Int) (i j : Nat) : List Int := (l.set i (atI l j)).set j (atI l i)
theorem swpI_len (l : List Int) (i j : Nat) : (swpI l i j).length = l.length := by simp [swpI]
theorem swpI_perm {l : List Int} {i j : Nat} (hi : i < l.length) (hj : j < l.length) : (swpI l i j).Perm l := by
  unfold swpI
  rw [atI_lt hi, atI_lt hj]
  exact List.set_set_perm hi hj
theorem setI_at {l : List Int} {i j : Nat} {q : Int} (h : i < l.length) : atI (l.set i q) j = if j = i then q else atI l j := by
  by_cases e : j = i
  · subst e; simp [atI, List.getD_eq_getElem?_getD, h]
  · simp [atI, List.getD_eq_getElem?_getD, e, Ne.symm e]
theorem swpI_at {l : List Int} {i j k : Nat} (hi : i < l.length) (hj : j < l.length) : atI (swpI l i j) k = if k = j then atI l i else if k = i then atI l j else atI l k := by
  unfold swpI
  rw [setI_at (by rw [List.length_set]; exact hj), setI_at hi]
theorem list_atI {a b : List Int} (hl : a.length = b.length) (h : ∀ i, i < a.length → atI a i = atI b i) : a = b := by
  apply List.ext_getElem hl
  intro i h1 h2
  have := h i h1
  rwa [atI_lt h1, atI_lt h2] at this
theorem swpI_back {l : List Int} {i j : Nat} (hi : i < l.length) (hj : j < l.length) : swpI (swpI l i j) i j = l := by
  refine list_atI (by rw [swpI_len, swpI_len]) fun k hk => ?_
  rw [swpI_at (by rw [swpI_len]; exact hi) (by rw [swpI_len]; exact hj), swpI_at hi hj, swpI_at hi hj, swpI_at hi hj]
  by_cases e1 : k = j
  · subst e1
    rw [if_pos rfl]
    by_cases e2 : i = k
    · subst e2; simp
    · rw [if_neg e2, if_pos rfl]
  · rw [if_neg e1]
    by_cases e2 : k = i
    · subst e2; rw [if_pos rfl, if_pos rfl]
    · rw [if_neg e2, if_neg e1, if_neg e2]
theorem swpI_take {l : List Int} {i j k : Nat} (hi : i < l.length) (hj : j < l.length) (hki : k ≤ i) (hkj : k ≤ j) : (swpI l i j).take k = l.take k := by
  refine list_atI (by simp [swpI_len]) fun m hm => ?_
  have hmk : m < k := by simp [swpI_len] at hm; omega
  have e : ∀ a : List Int, atI (a.take k) m = atI a m := fun a => by simp [atI, List.getD_eq_getElem?_getD, hmk]
  rw [e, e, swpI_at hi hj, if_neg (by omega), if_neg (by omega)]
def seenI (o : List Int) (at_ d : Nat) : Bool := decide (atI o (at_ + d) ∈ (o.drop at_).take d)
def lvStI (r : List Int → List (List Int)) (o : List Int) (at_ : Nat) : Nat → List (List Int)
  | 0 => []
  | d + 1 => lvStI r o at_ d ++ (if seenI o at_ d then [] else r (swpI o at_ (at_ + d)))
/-- The orders that come with the first steps as they are. -/
def lvI : Nat → List Int → Nat → List (List Int)
  | 0, o, _ => [o]
  | m + 1, o, at_ => lvStI (fun o' => lvI m o' (at_ + 1)) o at_ (m + 1)
theorem lv4_sub : ∀ o ∈ lvI 4 C4 0, plcC o ∈ P24 := by decide +kernel
theorem lv4_all : ∀ p ∈ P24, p ∈ (lvI 4 C4 0).map plcC := by decide +kernel
theorem lv4_perm : ∀ o ∈ lvI 4 C4 0, o.Perm C4 := by decide +kernel
theorem c24_all : ∀ p ∈ P24, p ∈ C24.map plcC := by decide +kernel
theorem fold_plcC (ls : List (List Int)) (xs : List Int) : ∀ s : List Int, ls.foldl (fun s o => minL s (nmd (plcC o) xs)) s = ((ls.map plcC).map fun p => nmd p xs).foldl minL s := by
  induction ls with
  | nil => intro s; rfl
  | cons a t ih => intro s; simp only [List.foldl_cons, List.map_cons]; exact ih _
/-- The program's way. -/
theorem lv4_fst {xs : List Int} (h : Sol xs) : (lvI 4 C4 0).foldl (fun s o => minL s (nmd (plcC o) xs)) xs = fstL xs := by
  rw [fold_plcC]
  exact over_fst h (fun p hp => by obtain ⟨o, h1, rfl⟩ := List.mem_map.1 hp; exact lv4_sub o h1) lv4_all
/-- The model's way. -/
theorem c24_fst {xs : List Int} (h : Sol xs) : C24.foldl (fun s o => minL s (nmd (plcC o) xs)) xs = fstL xs := by
  rw [fold_plcC]
  exact over_fst h (fun p hp => by obtain ⟨o, h1, rfl⟩ := List.mem_map.1 hp; exact plc_mem o h1) c24_all

/-! What is counted fits. -/
theorem mulS_bd {x y X Y : Int} (hx : -X ≤ x ∧ x ≤ X) (hy : -Y ≤ y ∧ y ≤ Y) : -(X * Y) ≤ x * y ∧ x * y ≤ X * Y := by
  have h1 : x.natAbs ≤ X.natAbs := by omega
  have h2 : y.natAbs ≤ Y.natAbs := by omega
  have h3 := Nat.mul_le_mul h1 h2
  rw [← Int.natAbs_mul, ← Int.natAbs_mul] at h3
  have h4 : 0 ≤ X * Y := Int.mul_nonneg (by omega) (by omega)
  omega
theorem solB_at {xs : List Int} {k : Nat} (hk : k < xs.length) (h : inB (xs.getD k 0) 1 12 = false) : solB xs = false := by
  cases hs : solB xs with
  | false => rfl
  | true =>
    have h1 := sol_of hs
    have := h1.at_ (i := k) (by rw [← h1.len]; exact hk)
    unfold inB at h
    rw [decide_eq_true this.1, decide_eq_true this.2] at h
    cases h
theorem solB_up {xs : List Int} (h : ∀ j, j < xs.length → inB (xs.getD j 0) 1 12 = true) : solB xs = decide (xs.length = 6) := by
  unfold solB
  have : (xs.all fun x => inB x 1 12) = true := by
    rw [List.all_eq_true]
    intro x hx
    obtain ⟨j, hj, rfl⟩ := List.getElem_of_mem hx
    have := h j hj
    rwa [List.getD_eq_getElem?_getD, List.getElem?_eq_getElem hj] at this
  rw [this, Bool.and_true]
theorem num_wraps {p q r a b c : Int} (hp : 1 ≤ p ∧ p ≤ 144) (hq : 1 ≤ q ∧ q ≤ 144) (hr : 1 ≤ r ∧ r ≤ 144) (ha : 1 ≤ a ∧ a ≤ 144) (hb : 1 ≤ b ∧ b ≤ 144) (hc : 1 ≤ c ∧ c ≤ 144) :
    (IntKind.i64.wrap (p + q) = p + q ∧ IntKind.i64.wrap (p + q - a) = p + q - a ∧ IntKind.i64.wrap (p + r) = p + r ∧ IntKind.i64.wrap (p + r - b) = p + r - b ∧ IntKind.i64.wrap (q + r) = q + r ∧ IntKind.i64.wrap (q + r - c) = q + r - c) ∧
    ∀ s t u : Int, s = p + q - a → t = p + r - b → u = q + r - c →
    (IntKind.i64.wrap (4 * p) = 4 * p ∧ IntKind.i64.wrap (4 * p * q) = 4 * p * q ∧ IntKind.i64.wrap (4 * p * q * r) = 4 * p * q * r ∧
    IntKind.i64.wrap (s * t) = s * t ∧ IntKind.i64.wrap (s * t * u) = s * t * u ∧ IntKind.i64.wrap (p * u) = p * u ∧ IntKind.i64.wrap (p * u * u) = p * u * u ∧ IntKind.i64.wrap (q * t) = q * t ∧ IntKind.i64.wrap (q * t * t) = q * t * t ∧ IntKind.i64.wrap (r * s) = r * s ∧ IntKind.i64.wrap (r * s * s) = r * s * s ∧
    IntKind.i64.wrap (4 * p * q * r + s * t * u) = 4 * p * q * r + s * t * u ∧ IntKind.i64.wrap (4 * p * q * r + s * t * u - p * u * u) = 4 * p * q * r + s * t * u - p * u * u ∧ IntKind.i64.wrap (4 * p * q * r + s * t * u - p * u * u - q * t * t) = 4 * p * q * r + s * t * u - p * u * u - q * t * t ∧
    IntKind.i64.wrap (4 * p * q * r + s * t * u - p * u * u - q * t * t - r * s * s) = 4 * p * q * r + s * t * u - p * u * u - q * t * t - r * s * s) ∧ -100000000 ≤ numQ p q r a b c ∧ numQ p q r a b c ≤ 100000000 := by
  refine ⟨⟨?_, ?_, ?_, ?_, ?_, ?_⟩, ?_⟩
  iterate 6 exact wrap_is rfl (by omega) (by omega)
  rintro s t u rfl rfl rfl
  have hs : -300 ≤ p + q - a ∧ p + q - a ≤ 300 := by omega
  have ht : -300 ≤ p + r - b ∧ p + r - b ≤ 300 := by omega
  have hu : -300 ≤ q + r - c ∧ q + r - c ≤ 300 := by omega
  unfold numQ
  generalize p + q - a = s at *
  generalize p + r - b = t at *
  generalize q + r - c = u at *
  have k1 := mulS_bd (x := 4) (X := 4) (by omega) (show -144 ≤ p ∧ p ≤ 144 by omega)
  have k2 := mulS_bd k1 (show -144 ≤ q ∧ q ≤ 144 by omega)
  have k3 := mulS_bd k2 (show -144 ≤ r ∧ r ≤ 144 by omega)
  have k4 := mulS_bd hs ht
  have k5 := mulS_bd k4 hu
  have k6 := mulS_bd (show -144 ≤ p ∧ p ≤ 144 by omega) hu
  have k7 := mulS_bd k6 hu
  have k8 := mulS_bd (show -144 ≤ q ∧ q ≤ 144 by omega) ht
  have k9 := mulS_bd k8 ht
  have k10 := mulS_bd (show -144 ≤ r ∧ r ≤ 144 by omega) hs
  have k11 := mulS_bd k10 hs
  generalize 4 * p * q * r = m1 at *
  generalize s * t * u = m2 at *
  generalize p * u * u = m3 at *
  generalize q * t * t = m4 at *
  generalize r * s * s = m5 at *
  generalize 4 * p * q = m6 at *
  generalize s * t = m7 at *
  generalize p * u = m8 at *
  generalize q * t = m9 at *
  generalize r * s = m10 at *
  refine ⟨⟨?_, ?_, ?_, ?_, ?_, ?_, ?_, ?_, ?_, ?_, ?_, ?_, ?_, ?_, ?_⟩, ?_, ?_⟩
  iterate 15 exact wrap_is rfl (by omega) (by omega)
  · omega
  · omega
theorem sq_bd {x : Int} (h : 1 ≤ x ∧ x ≤ 12) : 1 ≤ x * x ∧ x * x ≤ 144 := by
  have h1 := Int.mul_le_mul h.1 h.1 (by omega) (by omega)
  have h2 := mulS_bd (show -12 ≤ x ∧ x ≤ 12 by omega) (show -12 ≤ x ∧ x ≤ 12 by omega)
  omega

/-! What the functions answer. -/
def facTo (xs : List Int) : Nat → Int
  | 0 => 0
  | 1 => b01 (triB (xs.getD 3 0) (xs.getD 4 0) (xs.getD 5 0))
  | 2 => b01 (triB (xs.getD 3 0) (xs.getD 4 0) (xs.getD 5 0)) + b01 (triB (xs.getD 1 0) (xs.getD 2 0) (xs.getD 5 0))
  | 3 => b01 (triB (xs.getD 3 0) (xs.getD 4 0) (xs.getD 5 0)) + b01 (triB (xs.getD 1 0) (xs.getD 2 0) (xs.getD 5 0)) + b01 (triB (xs.getD 0 0) (xs.getD 2 0) (xs.getD 4 0))
  | _ => facL xs
theorem facTo_bd (xs : List Int) (k : Nat) : 0 ≤ facTo xs k ∧ facTo xs k ≤ 4 := by
  have h1 := b01_le (triB (xs.getD 3 0) (xs.getD 4 0) (xs.getD 5 0))
  have h2 := b01_le (triB (xs.getD 1 0) (xs.getD 2 0) (xs.getD 5 0))
  have h3 := b01_le (triB (xs.getD 0 0) (xs.getD 2 0) (xs.getD 4 0))
  have h4 := fac_bd xs
  match k with
  | 0 => simp [facTo]
  | 1 => simp only [facTo]; omega
  | 2 => simp only [facTo]; omega
  | 3 => simp only [facTo]; omega
  | k + 4 => simp only [facTo]; omega
def numM (xs : List Int) : Int := if solB xs then numL xs else 0
theorem numM_yes {xs : List Int} (h : solB xs = true) : numM xs = numL xs := by unfold numM; rw [if_pos h]
theorem numM_no {xs : List Int} (h : solB xs = false) : numM xs = 0 := by unfold numM; rw [h]; rfl
def facM (xs : List Int) : Int := if solB xs then facL xs else 0
theorem facM_yes {xs : List Int} (h : solB xs = true) : facM xs = facL xs := by unfold facM; rw [if_pos h]
theorem facM_no {xs : List Int} (h : solB xs = false) : facM xs = 0 := by unfold facM; rw [h]; rfl
def stdM (xs : List Int) : Bool := solB xs && stdB xs
theorem stdM_yes {xs : List Int} (h : solB xs = true) : stdM xs = stdB xs := by unfold stdM; rw [h]; rfl
theorem stdM_no {xs : List Int} (h : solB xs = false) : stdM xs = false := by unfold stdM; rw [h]; rfl
def namB (xs cs : List Int) : Bool := solB xs && cornB cs
def namM (xs cs : List Int) : List Int := if namB xs cs then nmd (plcC cs) xs else []
theorem namB_yes {xs cs : List Int} (h : solB xs = true) (k : cornB cs = true) : namB xs cs = true := by unfold namB; rw [h, k]; rfl
theorem namB_no1 {xs cs : List Int} (h : solB xs = false) : namB xs cs = false := by unfold namB; rw [h]; rfl
theorem namB_no2 {xs cs : List Int} (h : cornB cs = false) : namB xs cs = false := by unfold namB; rw [h, Bool.and_false]
theorem namM_yes {xs cs : List Int} (h : namB xs cs = true) : namM xs cs = nmd (plcC cs) xs := by unfold namM; rw [if_pos h]
theorem namM_no {xs cs : List Int} (h : namB xs cs = false) : namM xs cs = [] := by unfold namM; rw [h]; rfl
def fsM (xs : List Int) : List Int := if solB xs then fstL xs else []
theorem fsM_yes {xs : List Int} (h : solB xs = true) : fsM xs = fstL xs := by unfold fsM; rw [if_pos h]
theorem fsM_no {xs : List Int} (h : solB xs = false) : fsM xs = [] := by unfold fsM; rw [h]; rfl
def samB (xs ys : List Int) : Bool := solB xs && (solB ys && decide (fstL xs = fstL ys))
theorem plcC_mem {cs : List Int} (h : cornB cs = true) : plcC cs ∈ P24 := plc_mem _ (corn_mem h)
end Go.Proofs.Ytiadnbdefcimiaa

/- Pure facts of chapter 8: solids of short edges are counted. -/
namespace Go.Proofs.Ytiadnbdefcimiaa

/-- The solids that are counted: their own first ones that stand. -/
def oneL (d : List Int) : Int := if (decide (fstL d = d) && stdB d) = true then 1 else 0
/-- The lengths from a place on run from 1 to n. -/
def cnR (r : List Int → Int) (d : List Int) (at_ : Nat) : Nat → Int
  | 0 => 0
  | k + 1 => cnR r d at_ k + r (d.set at_ ((k : Int) + 1))
def cnF (n : Nat) : Nat → List Int → Nat → Int
  | 0, d, _ => oneL d
  | m + 1, d, at_ => cnR (fun d' => cnF n m d' (at_ + 1)) d at_ n
theorem cnR_bd {r : List Int → Int} {d : List Int} {at_ : Nat} {b : Int} (h : ∀ d, 0 ≤ r d ∧ r d ≤ b) : ∀ k : Nat, 0 ≤ cnR r d at_ k ∧ cnR r d at_ k ≤ k * b
  | 0 => by simp [cnR]
  | k + 1 => by
    have h1 := cnR_bd (d := d) (at_ := at_) h k
    have h2 := h (d.set at_ ((k : Int) + 1))
    rw [cnR]
    have : ((k + 1 : Nat) : Int) * b = k * b + b := by rw [Int.natCast_add, Int.add_mul]; simp
    omega
theorem one_bd (d : List Int) : 0 ≤ oneL d ∧ oneL d ≤ 1 := by unfold oneL; split <;> omega
theorem cnF_bd {n : Nat} : ∀ (m : Nat) (d : List Int) (at_ : Nat), 0 ≤ cnF n m d at_ ∧ cnF n m d at_ ≤ ((n ^ m : Nat) : Int)
  | 0, d, _ => by have := one_bd d; simpa [cnF] using this
  | m + 1, d, at_ => by
    have h := cnR_bd (r := fun d' => cnF n m d' (at_ + 1)) (d := d) (at_ := at_) (fun d' => cnF_bd m d' (at_ + 1)) n
    rw [cnF]
    have e : ((n ^ (m + 1) : Nat) : Int) = n * ((n ^ m : Nat) : Int) := by rw [Nat.pow_succ, Nat.mul_comm, Int.natCast_mul]
    omega
/-- The model's way: the digits of a number. -/
def digL (n : Nat) (y : Nat) : Nat → List Int
  | 0 => []
  | k + 1 => ((1 + y % n : Nat) : Int) :: digL n (y / n) k
def cnS (n : Nat) : Nat → Int
  | 0 => 0
  | x + 1 => cnS n x + oneL (digL n x 6)
def cntSol (n : Int) : Int := if n = 1 then 1 else if n = 2 then 5 else if n = 3 then 21 else 0
theorem cn1 : cnF 1 6 [0, 0, 0, 0, 0, 0] 0 = 1 := by decide +kernel
theorem cn2 : cnF 2 6 [0, 0, 0, 0, 0, 0] 0 = 5 := by decide +kernel
theorem cn3 : cnF 3 6 [0, 0, 0, 0, 0, 0] 0 = 21 := by decide +kernel
theorem cs1 : cnS 1 1 = 1 := by decide +kernel
theorem cs2 : cnS 2 64 = 5 := by decide +kernel
theorem cs3 : cnS 3 729 = 21 := by decide +kernel
end Go.Proofs.Ytiadnbdefcimiaa

/- Pure facts of chapter 8: the order of lists, the least and the greatest length, the model's way through all names. -/
namespace Go.Proofs.Ytiadnbdefcimiaa

theorem less_at : ∀ (xs ys : List Int) (k : Nat), xs.length = ys.length → (∀ j, j < k → xs.getD j 0 = ys.getD j 0) → k < xs.length → xs.getD k 0 ≠ ys.getD k 0 → lessB xs ys = decide (xs.getD k 0 < ys.getD k 0)
  | [], _, k, _, _, hk, _ => absurd hk (by simp)
  | _ :: _, [], _, hl, _, _, _ => by simp at hl
  | x :: a, y :: b, 0, _, _, _, hne => by
    simp only [List.getD_cons_zero] at hne ⊢
    rw [lessB, if_neg hne]
  | x :: a, y :: b, k + 1, hl, h, hk, hne => by
    have h0 := h 0 (by omega)
    simp only [List.getD_cons_zero] at h0
    rw [lessB, if_pos h0]
    simp only [List.getD_cons_succ] at hne ⊢
    exact less_at a b k (by simpa using hl) (fun j hj => by have := h (j + 1) (by omega); simpa using this) (by simpa using hk) hne
theorem less_same : ∀ (xs ys : List Int), xs.length = ys.length → (∀ j, j < xs.length → xs.getD j 0 = ys.getD j 0) → lessB xs ys = false
  | [], _, _, _ => by simp [lessB]
  | _ :: _, [], hl, _ => by simp at hl
  | x :: a, y :: b, hl, h => by
    have h0 := h 0 (by simp)
    simp only [List.getD_cons_zero] at h0
    rw [lessB, if_pos h0]
    exact less_same a b (by simpa using hl) (fun j hj => by have := h (j + 1) (by simp; omega); simpa using this)

/-! The least and the greatest length at a place. -/
def lowF (xs : List Int) (i : Nat) : Nat → Int
  | 0 => 0
  | k + 1 => if stdB (xs.set i ((k : Int) + 1)) then (if lowF xs i k = 0 then (k : Int) + 1 else lowF xs i k) else lowF xs i k
def higF (xs : List Int) (i : Nat) : Nat → Int
  | 0 => 0
  | k + 1 => if stdB (xs.set i ((k : Int) + 1)) then (k : Int) + 1 else higF xs i k
theorem low_bd (xs : List Int) (i : Nat) : ∀ k : Nat, 0 ≤ lowF xs i k ∧ lowF xs i k ≤ k
  | 0 => by simp [lowF]
  | k + 1 => by
    have := low_bd xs i k
    rw [lowF]; repeat' split
    all_goals omega
theorem hig_bd (xs : List Int) (i : Nat) : ∀ k : Nat, 0 ≤ higF xs i k ∧ higF xs i k ≤ k
  | 0 => by simp [higF]
  | k + 1 => by
    have := hig_bd xs i k
    rw [higF]; repeat' split
    all_goals omega
theorem low_std (xs : List Int) (i : Nat) : ∀ k : Nat, lowF xs i k ≠ 0 → stdB (xs.set i (lowF xs i k)) = true
  | 0 => by simp [lowF]
  | k + 1 => by
    intro h
    rw [lowF] at h ⊢
    by_cases h1 : stdB (xs.set i ((k : Int) + 1)) = true
    · rw [if_pos h1] at h ⊢
      by_cases h2 : lowF xs i k = 0
      · rw [if_pos h2]; exact h1
      · rw [if_neg h2]; exact low_std xs i k h2
    · rw [if_neg h1] at h ⊢; exact low_std xs i k h
theorem hig_std (xs : List Int) (i : Nat) : ∀ k : Nat, higF xs i k ≠ 0 → stdB (xs.set i (higF xs i k)) = true
  | 0 => by simp [higF]
  | k + 1 => by
    intro h
    rw [higF] at h ⊢
    by_cases h1 : stdB (xs.set i ((k : Int) + 1)) = true
    · rw [if_pos h1]; exact h1
    · rw [if_neg h1] at h ⊢; exact hig_std xs i k h
theorem low_le (xs : List Int) (i : Nat) : ∀ (k : Nat) (j : Nat), 1 ≤ j → j ≤ k → stdB (xs.set i (j : Int)) = true → 1 ≤ lowF xs i k ∧ lowF xs i k ≤ j
  | 0, j, h1, h2, _ => by omega
  | k + 1, j, h1, h2, hs => by
    have hb := low_bd xs i k
    by_cases e : j = k + 1
    · subst e
      have hs' : stdB (xs.set i ((k : Int) + 1)) = true := by simpa using hs
      rw [lowF, if_pos hs']
      split
      · omega
      · omega
    · have := low_le xs i k j h1 (by omega) hs
      rw [lowF]
      repeat' split
      all_goals omega
theorem hig_le (xs : List Int) (i : Nat) : ∀ (k : Nat) (j : Nat), 1 ≤ j → j ≤ k → stdB (xs.set i (j : Int)) = true → (j : Int) ≤ higF xs i k
  | 0, j, h1, h2, _ => by omega
  | k + 1, j, h1, h2, hs => by
    have hb := hig_bd xs i k
    by_cases e : j = k + 1
    · subst e
      have hs' : stdB (xs.set i ((k : Int) + 1)) = true := by simpa using hs
      rw [higF, if_pos hs']; omega
    · have := hig_le xs i k j h1 (by omega) hs
      rw [higF]
      split
      all_goals omega
theorem low_hig (xs : List Int) (i k : Nat) (h : lowF xs i k ≠ 0) : lowF xs i k ≤ higF xs i k := by
  have hb := low_bd xs i k
  obtain ⟨j, hj⟩ : ∃ j : Nat, lowF xs i k = j := ⟨(lowF xs i k).toNat, by omega⟩
  have := low_std xs i k h
  rw [hj] at this h ⊢
  exact hig_le xs i k j (by omega) (by omega) this
/-- A solid stands just between the two. -/
theorem between_std {xs : List Int} (hs : Sol xs) {i : Nat} (hi : i < 6) (h : lowF xs i 12 ≠ 0) {x : Nat} (h1 : 1 ≤ x) (h2 : x ≤ 12) : stdB (xs.set i (x : Int)) = (decide (lowF xs i 12 ≤ x) && decide ((x : Int) ≤ higF xs i 12)) := by
  have hb := low_bd xs i 12
  rw [Bool.eq_iff_iff, Bool.and_eq_true, decide_eq_true_iff, decide_eq_true_iff]
  constructor
  · intro hx
    exact ⟨(low_le xs i 12 x h1 h2 hx).2, hig_le xs i 12 x h1 h2 hx⟩
  · rintro ⟨k1, k2⟩
    have hlh := low_hig xs i 12 h
    exact std_mid hs hi (by omega) k1 k2 (low_std xs i 12 h) (hig_std xs i 12 (by omega))
def lstB (xs : List Int) (at_ : Int) : Bool := solB xs && (inB at_ 0 5 && decide (0 < lowF xs at_.toNat 12))
def lowM (xs : List Int) (at_ : Int) : Int := if (solB xs && inB at_ 0 5) = true then lowF xs at_.toNat 12 else 0
def higM (xs : List Int) (at_ : Int) : Int := if (solB xs && inB at_ 0 5) = true then higF xs at_.toNat 12 else 0

/-! The model's way through all names. -/
def stp8 (xs : List Int) (a b : Nat) (s : List Int) (c : Nat) : List Int := if a = b ∨ a = c ∨ b = c then s else minL s (nmd (plcC [(a : Int), b, c, 6 - a - b - c]) xs)
def cF8 (xs : List Int) (a b : Nat) (s : List Int) (k : Nat) : List Int := (List.range k).foldl (stp8 xs a b) s
def bF8 (xs : List Int) (a : Nat) (s : List Int) (k : Nat) : List Int := (List.range k).foldl (fun s b => cF8 xs a b s 4) s
def aF8 (xs : List Int) (s : List Int) (k : Nat) : List Int := (List.range k).foldl (fun s a => bF8 xs a s 4) s
theorem cF8_succ (xs : List Int) (a b : Nat) (s : List Int) (k : Nat) : cF8 xs a b s (k + 1) = stp8 xs a b (cF8 xs a b s k) k := by unfold cF8; rw [List.range_succ, List.foldl_append]; rfl
theorem bF8_succ (xs : List Int) (a : Nat) (s : List Int) (k : Nat) : bF8 xs a s (k + 1) = cF8 xs a k (bF8 xs a s k) 4 := by unfold bF8; rw [List.range_succ, List.foldl_append]; rfl
theorem aF8_succ (xs : List Int) (s : List Int) (k : Nat) : aF8 xs s (k + 1) = bF8 xs k (aF8 xs s k) 4 := by unfold aF8; rw [List.range_succ, List.foldl_append]; rfl
theorem c24_is : C24 = [[0, 1, 2, 3], [0, 1, 3, 2], [0, 2, 1, 3], [0, 2, 3, 1], [0, 3, 1, 2], [0, 3, 2, 1], [1, 0, 2, 3], [1, 0, 3, 2], [1, 2, 0, 3], [1, 2, 3, 0], [1, 3, 0, 2], [1, 3, 2, 0], [2, 0, 1, 3], [2, 0, 3, 1], [2, 1, 0, 3], [2, 1, 3, 0], [2, 3, 0, 1], [2, 3, 1, 0], [3, 0, 1, 2], [3, 0, 2, 1], [3, 1, 0, 2], [3, 1, 2, 0], [3, 2, 0, 1], [3, 2, 1, 0]] := by decide +kernel
theorem stp8_is (xs : List Int) (a b c : Nat) (s : List Int) : stp8 xs a b s c = (if (a : Int) = b ∨ (a : Int) = c ∨ (b : Int) = c then ([] : List (List Int)) else [[(a : Int), b, c, 6 - a - b - c]]).foldl (fun s o => minL s (nmd (plcC o) xs)) s := by
  unfold stp8
  by_cases h : a = b ∨ a = c ∨ b = c
  · rw [if_pos h, if_pos (by omega)]; rfl
  · rw [if_neg h, if_neg (by omega)]; rfl
theorem range4 : List.range 4 = [0, 1, 2, 3] := by decide
theorem aF8_all (xs s : List Int) : aF8 xs s 4 = C24.foldl (fun s o => minL s (nmd (plcC o) xs)) s := by
  simp only [aF8, bF8, cF8, range4, List.foldl_cons, List.foldl_nil, stp8_is]
  simp only [C24, C4, List.flatMap_cons, List.flatMap_nil, List.foldl_append, List.append_nil]
  rfl
theorem aF8_fst {xs : List Int} (h : Sol xs) : aF8 xs xs 4 = fstL xs := by rw [aF8_all]; exact c24_fst h
theorem in_c24' : ∀ a ∈ List.range 4, ∀ b ∈ List.range 4, ∀ c ∈ List.range 4, (a = b ∨ a = c ∨ b = c) ∨ [(a : Int), (b : Int), (c : Int), 6 - (a : Int) - (b : Int) - (c : Int)] ∈ C24 := by decide +kernel
theorem in_c24 {a b c : Nat} (ha : a < 4) (hb : b < 4) (hc : c < 4) (h : ¬ (a = b ∨ a = c ∨ b = c)) : [(a : Int), (b : Int), (c : Int), 6 - (a : Int) - (b : Int) - (c : Int)] ∈ C24 :=
  (in_c24' a (List.mem_range.2 ha) b (List.mem_range.2 hb) c (List.mem_range.2 hc)).resolve_left h
theorem minL_len {s t : List Int} {n : Nat} (h1 : s.length = n) (h2 : t.length = n) : (minL s t).length = n := by unfold minL; split <;> assumption
def samM (xs ys : List Int) : Bool := samB xs ys
end Go.Proofs.Ytiadnbdefcimiaa
