/- Pure facts of chapter 8: the order of lists, the least and the greatest length, the model's way through all names. -/
import Derived.Test.YtdnegamminhbfaaSolC
namespace Go.Proofs.Ytdnegamminhbfaa

theorem less_at : ∀ (xs ys : List Int) (k : Nat), xs.length = ys.length → (∀ j, j < k → xs.getD j 0 = ys.getD j 0) → k < xs.length → xs.getD k 0 ≠ ys.getD k 0 → lessB xs ys = decide (xs.getD k 0 < ys.getD k 0)
  | [], _, k, _, _, hk, _ => absurd hk (by simp)
  | _ :: _, [], _, hl, _, _, _ => by simp at hl
  | x :: a, y :: b, 0, _, _, _, hne => by
    simp only [List.getD_cons_zero] at hne ⊢
    rw [lessB, if_neg hne]
  | x :: a, y :: b, k + 1, hl, h, hk, hne => by
    have h0 := h 0 (by omega)
    simp only [List.getD_cons_zero] at h0
    rw [lessB, if_pos h0]
    simp only [List.getD_cons_succ] at hne ⊢
    exact less_at a b k (by simpa using hl) (fun j hj => by have := h (j + 1) (by omega); simpa using this) (by simpa using hk) hne
theorem less_same : ∀ (xs ys : List Int), xs.length = ys.length → (∀ j, j < xs.length → xs.getD j 0 = ys.getD j 0) → lessB xs ys = false
  | [], _, _, _ => by simp [lessB]
  | _ :: _, [], hl, _ => by simp at hl
  | x :: a, y :: b, hl, h => by
    have h0 := h 0 (by simp)
    simp only [List.getD_cons_zero] at h0
    rw [lessB, if_pos h0]
    exact less_same a b (by simpa using hl) (fun j hj => by have := h (j + 1) (by simp; omega); simpa using this)

/-! The least and the greatest length at a place. -/
def lowF (xs : List Int) (i : Nat) : Nat → Int
  | 0 => 0
  | k + 1 => if stdB (xs.set i ((k : Int) + 1)) then (if lowF xs i k = 0 then (k : Int) + 1 else lowF xs i k) else lowF xs i k
def higF (xs : List Int) (i : Nat) : Nat → Int
  | 0 => 0
  | k + 1 => if stdB (xs.set i ((k : Int) + 1)) then (k : Int) + 1 else higF xs i k
theorem low_bd (xs : List Int) (i : Nat) : ∀ k : Nat, 0 ≤ lowF xs i k ∧ lowF xs i k ≤ k
  | 0 => by simp [lowF]
  | k + 1 => by
    have := low_bd xs i k
    rw [lowF]; repeat' split
    all_goals omega
theorem hig_bd (xs : List Int) (i : Nat) : ∀ k : Nat, 0 ≤ higF xs i k ∧ higF xs i k ≤ k
  | 0 => by simp [higF]
  | k + 1 => by
    have := hig_bd xs i k
    rw [higF]; repeat' split
    all_goals omega
theorem low_std (xs : List Int) (i : Nat) : ∀ k : Nat, lowF xs i k ≠ 0 → stdB (xs.set i (lowF xs i k)) = true
  | 0 => by simp [lowF]
  | k + 1 => by
    intro h
    rw [lowF] at h ⊢
    by_cases h1 : stdB (xs.set i ((k : Int) + 1)) = true
    · rw [if_pos h1] at h ⊢
      by_cases h2 : lowF xs i k = 0
      · rw [if_pos h2]; exact h1
      · rw [if_neg h2]; exact low_std xs i k h2
    · rw [if_neg h1] at h ⊢; exact low_std xs i k h
theorem hig_std (xs : List Int) (i : Nat) : ∀ k : Nat, higF xs i k ≠ 0 → stdB (xs.set i (higF xs i k)) = true
  | 0 => by simp [higF]
  | k + 1 => by
    intro h
    rw [higF] at h ⊢
    by_cases h1 : stdB (xs.set i ((k : Int) + 1)) = true
    · rw [if_pos h1]; exact h1
    · rw [if_neg h1] at h ⊢; exact hig_std xs i k h
theorem low_le (xs : List Int) (i : Nat) : ∀ (k : Nat) (j : Nat), 1 ≤ j → j ≤ k → stdB (xs.set i (j : Int)) = true → 1 ≤ lowF xs i k ∧ lowF xs i k ≤ j
  | 0, j, h1, h2, _ => by omega
  | k + 1, j, h1, h2, hs => by
    have hb := low_bd xs i k
    by_cases e : j = k + 1
    · subst e
      have hs' : stdB (xs.set i ((k : Int) + 1)) = true := by simpa using hs
      rw [lowF, if_pos hs']
      split
      · omega
      · omega
    · have := low_le xs i k j h1 (by omega) hs
      rw [lowF]
      repeat' split
      all_goals omega
theorem hig_le (xs : List Int) (i : Nat) : ∀ (k : Nat) (j : Nat), 1 ≤ j → j ≤ k → stdB (xs.set i (j : Int)) = true → (j : Int) ≤ higF xs i k
  | 0, j, h1, h2, _ => by omega
  | k + 1, j, h1, h2, hs => by
    have hb := hig_bd xs i k
    by_cases e : j = k + 1
    · subst e
      have hs' : stdB (xs.set i ((k : Int) + 1)) = true := by simpa using hs
      rw [higF, if_pos hs']; omega
    · have := hig_le xs i k j h1 (by omega) hs
      rw [higF]
      split
      all_goals omega
theorem low_hig (xs : List Int) (i k : Nat) (h : lowF xs i k ≠ 0) : lowF xs i k ≤ higF xs i k := by
  have hb := low_bd xs i k
  obtain ⟨j, hj⟩ : ∃ j : Nat, lowF xs i k = j := ⟨(lowF xs i k).toNat, by omega⟩
  have := low_std xs i k h
  rw [hj] at this h ⊢
  exact hig_le xs i k j (by omega) (by omega) this
/-- A solid stands just between the two. -/
theorem between_std {xs : List Int} (hs : Sol xs) {i : Nat} (hi : i < 6) (h : lowF xs i 12 ≠ 0) {x : Nat} (h1 : 1 ≤ x) (h2 : x ≤ 12) : stdB (xs.set i (x : Int)) = (decide (lowF xs i 12 ≤ x) && decide ((x : Int) ≤ higF xs i 12)) := by
  have hb := low_bd xs i 12
  rw [Bool.eq_iff_iff, Bool.and_eq_true, decide_eq_true_iff, decide_eq_true_iff]
  constructor
  · intro hx
    exact ⟨(low_le xs i 12 x h1 h2 hx).2, hig_le xs i 12 x h1 h2 hx⟩
  · rintro ⟨k1, k2⟩
    have hlh := low_hig xs i 12 h
    exact std_mid hs hi (by omega) k1 k2 (low_std xs i 12 h) (hig_std xs i 12 (by omega))
def lstB (xs : List Int) (at_ : Int) : Bool := solB xs && (inB at_ 0 5 && decide (0 < lowF xs at_.toNat 12))
def lowM (xs : List Int) (at_ : Int) : Int := if (solB xs && inB at_ 0 5) = true then lowF xs at_.toNat 12 else 0
def higM (xs : List Int) (at_ : Int) : Int := if (solB xs && inB at_ 0 5) = true then higF xs at_.toNat 12 else 0

/-! The model's way through all names. -/
def stp8 (xs : List Int) (a b : Nat) (s : List Int) (c : Nat) : List Int := if a = b ∨ a = c ∨ b = c then s else minL s (nmd (plcC [(a : Int), b, c, 6 - a - b - c]) xs)
def cF8 (xs : List Int) (a b : Nat) (s : List Int) (k : Nat) : List Int := (List.range k).foldl (stp8 xs a b) s
def bF8 (xs : List Int) (a : Nat) (s : List Int) (k : Nat) : List Int := (List.range k).foldl (fun s b => cF8 xs a b s 4) s
def aF8 (xs : List Int) (s : List Int) (k : Nat) : List Int := (List.range k).foldl (fun s a => bF8 xs a s 4) s
theorem cF8_succ (xs : List Int) (a b : Nat) (s : List Int) (k : Nat) : cF8 xs a b s (k + 1) = stp8 xs a b (cF8 xs a b s k) k := by unfold cF8; rw [List.range_succ, List.foldl_append]; rfl
theorem bF8_succ (xs : List Int) (a : Nat) (s : List Int) (k : Nat) : bF8 xs a s (k + 1) = cF8 xs a k (bF8 xs a s k) 4 := by unfold bF8; rw [List.range_succ, List.foldl_append]; rfl
theorem aF8_succ (xs : List Int) (s : List Int) (k : Nat) : aF8 xs s (k + 1) = bF8 xs k (aF8 xs s k) 4 := by unfold aF8; rw [List.range_succ, List.foldl_append]; rfl
theorem c24_is : C24 = [[0, 1, 2, 3], [0, 1, 3, 2], [0, 2, 1, 3], [0, 2, 3, 1], [0, 3, 1, 2], [0, 3, 2, 1], [1, 0, 2, 3], [1, 0, 3, 2], [1, 2, 0, 3], [1, 2, 3, 0], [1, 3, 0, 2], [1, 3, 2, 0], [2, 0, 1, 3], [2, 0, 3, 1], [2, 1, 0, 3], [2, 1, 3, 0], [2, 3, 0, 1], [2, 3, 1, 0], [3, 0, 1, 2], [3, 0, 2, 1], [3, 1, 0, 2], [3, 1, 2, 0], [3, 2, 0, 1], [3, 2, 1, 0]] := by decide +kernel
theorem stp8_is (xs : List Int) (a b c : Nat) (s : List Int) : stp8 xs a b s c = (if (a : Int) = b ∨ (a : Int) = c ∨ (b : Int) = c then ([] : List (List Int)) else [[(a : Int), b, c, 6 - a - b - c]]).foldl (fun s o => minL s (nmd (plcC o) xs)) s := by
  unfold stp8
  by_cases h : a = b ∨ a = c ∨ b = c
  · rw [if_pos h, if_pos (by omega)]; rfl
  · rw [if_neg h, if_neg (by omega)]; rfl
theorem range4 : List.range 4 = [0, 1, 2, 3] := by decide
theorem aF8_all (xs s : List Int) : aF8 xs s 4 = C24.foldl (fun s o => minL s (nmd (plcC o) xs)) s := by
  simp only [aF8, bF8, cF8, range4, List.foldl_cons, List.foldl_nil, stp8_is]
  simp only [C24, C4, List.flatMap_cons, List.flatMap_nil, List.foldl_append, List.append_nil]
  rfl
theorem aF8_fst {xs : List Int} (h : Sol xs) : aF8 xs xs 4 = fstL xs := by rw [aF8_all]; exact c24_fst h
theorem in_c24' : ∀ a ∈ List.range 4, ∀ b ∈ List.range 4, ∀ c ∈ List.range 4, (a = b ∨ a = c ∨ b = c) ∨ [(a : Int), (b : Int), (c : Int), 6 - (a : Int) - (b : Int) - (c : Int)] ∈ C24 := by decide +kernel
theorem in_c24 {a b c : Nat} (ha : a < 4) (hb : b < 4) (hc : c < 4) (h : ¬ (a = b ∨ a = c ∨ b = c)) : [(a : Int), (b : Int), (c : Int), 6 - (a : Int) - (b : Int) - (c : Int)] ∈ C24 :=
  (in_c24' a (List.mem_range.2 ha) b (List.mem_range.2 hb) c (List.mem_range.2 hc)).resolve_left h
theorem minL_len {s t : List Int} {n : Nat} (h1 : s.length = n) (h2 : t.length = n) : (minL s t).length = n := by unfold minL; split <;> assumption
def samM (xs ys : List Int) : Bool := samB xs ys
end Go.Proofs.Ytdnegamminhbfaa
