/- The order of lists: the model's l8Less, slices.Compare at []int. -/
import Derived.Test.YtdnegamminhbfaaSolQ
namespace Go.Proofs.Ytdnegamminhbfaa
open Go.RowKit

theorem isNaN_any (x : Int) (w : World) : Calls Try.prog 156 #[.int .i64 x] w fun e w' => e = .returned (.bool false) ∧ w = w' := by
  go_enter Try.func156, Try.ntmps156
  go_wp2
  go_ret
  exact ⟨by simp, rfl⟩
/-- How two numbers compare. -/
def cmpI (x y : Int) : Int := if x < y then -1 else if y < x then 1 else 0
theorem cmpI_lt {x y : Int} (h : x < y) : cmpI x y = -1 := by unfold cmpI; rw [if_pos h]
theorem cmpI_gt {x y : Int} (h : y < x) : cmpI x y = 1 := by unfold cmpI; rw [if_neg (by omega), if_pos h]
theorem cmpI_eq {x y : Int} (h : x = y) : cmpI x y = 0 := by unfold cmpI; rw [if_neg (by omega), if_neg (by omega)]
theorem cmpI_ne {x y : Int} (h : x ≠ y) : cmpI x y ≠ 0 ∧ decide (cmpI x y < 0) = decide (x < y) := by
  rcases Int.lt_or_lt_of_ne h with g | g
  · rw [cmpI_lt g]; simp [g]
  · rw [cmpI_gt g]; simp; omega
/-- How two lists compare. -/
def cmpL : List Int → List Int → Int
  | x :: a, y :: b => if x = y then cmpL a b else cmpI x y
  | _, _ => 0
theorem cmpL_less : ∀ xs ys : List Int, decide (cmpL xs ys < 0) = lessB xs ys
  | [], _ => by simp [cmpL, lessB]
  | _ :: _, [] => by simp [cmpL, lessB]
  | x :: a, y :: b => by
    rw [cmpL, lessB]
    by_cases h : x = y
    · rw [if_pos h, if_pos h]; exact cmpL_less a b
    · rw [if_neg h, if_neg h]; exact (cmpI_ne h).2
theorem cmpL_at : ∀ (xs ys : List Int) (k : Nat), xs.length = ys.length → (∀ j, j < k → xs.getD j 0 = ys.getD j 0) → k < xs.length → xs.getD k 0 ≠ ys.getD k 0 → cmpL xs ys = cmpI (xs.getD k 0) (ys.getD k 0)
  | [], _, k, _, _, hk, _ => absurd hk (by simp)
  | _ :: _, [], _, hl, _, _, _ => by simp at hl
  | x :: a, y :: b, 0, _, _, _, hne => by
    simp only [List.getD_cons_zero] at hne ⊢
    rw [cmpL, if_neg hne]
  | x :: a, y :: b, k + 1, hl, h, hk, hne => by
    have h0 := h 0 (by omega)
    simp only [List.getD_cons_zero] at h0
    rw [cmpL, if_pos h0]
    simp only [List.getD_cons_succ] at hne ⊢
    exact cmpL_at a b k (by simpa using hl) (fun j hj => by have := h (j + 1) (by omega); simpa using this) (by simpa using hk) hne
theorem cmpL_same : ∀ (xs ys : List Int), xs.length = ys.length → (∀ j, j < xs.length → xs.getD j 0 = ys.getD j 0) → cmpL xs ys = 0
  | [], _, _, _ => by simp [cmpL]
  | _ :: _, [], hl, _ => by simp at hl
  | x :: a, y :: b, hl, h => by
    have h0 := h 0 (by simp)
    simp only [List.getD_cons_zero] at h0
    rw [cmpL, if_pos h0]
    exact cmpL_same a b (by simpa using hl) (fun j hj => by have := h (j + 1) (by simp; omega); simpa using this)
theorem cmpC_any (x y : Int) (w : World) : Calls Try.prog 152 #[.int .i64 x, .int .i64 y] w fun e w' => e = .returned (.int .i64 (cmpI x y)) ∧ w = w' := by
  have h1 := fun W => isNaN_any x W
  have h2 := fun W => isNaN_any y W
  by_cases hlt : x < y
  · have e := cmpI_lt hlt
    generalize cmpI x y = r at *
    subst e
    go_enter Try.func152, Try.ntmps152
    go_wp2_with (first | (with_reducible refine (h1 _).mono ?_; rintro e w' ⟨rfl, rfl⟩) | (with_reducible refine (h2 _).mono ?_; rintro e w' ⟨rfl, rfl⟩))
    go_ret
    exact ⟨rfl, rfl⟩
  · by_cases hgt : y < x
    · have e := cmpI_gt hgt
      generalize cmpI x y = r at *
      subst e
      go_enter Try.func152, Try.ntmps152
      go_wp2_with (first | (with_reducible refine (h1 _).mono ?_; rintro e w' ⟨rfl, rfl⟩) | (with_reducible refine (h2 _).mono ?_; rintro e w' ⟨rfl, rfl⟩))
      go_ret
      exact ⟨rfl, rfl⟩
    · obtain rfl : x = y := by omega
      have e := cmpI_eq (rfl : x = x)
      generalize cmpI x x = r at *
      subst e
      clear hlt hgt
      go_enter Try.func152, Try.ntmps152
      go_wp2_with (first | (with_reducible refine (h1 _).mono ?_; rintro e w' ⟨rfl, rfl⟩) | (with_reducible refine (h2 _).mono ?_; rintro e w' ⟨rfl, rfl⟩))
      go_ret
      exact ⟨rfl, rfl⟩

set_option maxHeartbeats 1000000 in
theorem compareL_any (A A' : Option Addr) (n c c' : Nat) (xs ys : List Int) (w : World) (h : Rd w A n xs) (h' : Rd w A' n ys) (hn : n ≤ 1048576) :
    Calls Try.prog 141 #[.slice A n c, .slice A' n c'] w fun e w' => e = .returned (.int .i64 (cmpL xs ys)) ∧ Below w.heap.size w w' := by
  have HL := Lib.hid h.1
  have HL' := Lib.hid h'.1
  go_enter Try.func141, Try.ntmps141
  go_wp2_with fail
  go_loopw [5, 6, 7, 8, 11] (fun _ _ _ _ i wr => ∃ k : Nat, k ≤ n ∧ i = .int .i64 k ∧ (∀ j, j < k → xs.getD j 0 = ys.getD j 0) ∧ Below w.heap.size w wr) (fun _ _ _ _ i _ => n - (intOf i).toNat)
  case atStart => exact ⟨0, Nat.zero_le _, rfl, fun j hj => absurd hj (by omega), Below.refl _ _⟩
  case round =>
    obtain ⟨k, hk, rfl, hno, hb⟩ := hrel
    have HNO := Lib.hid hno
    clear hno
    by_cases hlt : k < n
    · obtain ⟨b, off, rfl, hbl, hc⟩ := h.2 (by omega)
      obtain ⟨b2, off2, rfl, hbl2, hc2⟩ := h'.2 (by omega)
      have hcx : wr.cell? ⟨b, off + k, none⟩ = some (.int .i64 (xs.getD k 0)) := (hb.cell (p := ⟨b, off + k, none⟩) hbl).trans (hc k hlt)
      have hcy : wr.cell? ⟨b2, off2 + k, none⟩ = some (.int .i64 (ys.getD k 0)) := (hb.cell (p := ⟨b2, off2 + k, none⟩) hbl2).trans (hc2 k hlt)
      obtain ⟨x, ex⟩ : ∃ x, x = xs.getD k 0 := ⟨_, rfl⟩
      obtain ⟨y, ey⟩ : ∃ y, y = ys.getD k 0 := ⟨_, rfl⟩
      rw [← ex] at hcx
      rw [← ey] at hcy
      have hq := fun W => cmpC_any x y W
      by_cases e1 : x = y
      · have E1 := Lib.hid (ex.symm.trans (e1.trans ey))
        rw [cmpI_eq e1] at hq
        clear e1 hc hc2 h h' ex ey
        go_wp2_with (refine (hq _).mono ?_; rintro e w' ⟨rfl, rfl⟩)
        go_roundw
        case rel =>
          have hT : ∀ j, j < k + 1 → xs.getD j 0 = ys.getD j 0 := fun j hj => by
            by_cases e : j = k
            · rw [e]; exact E1.out
            · exact HNO.out j (by omega)
          first
            | exact ⟨k + 1, by omega, by go_num, hT, hb⟩
            | ((repeat apply Exists.intro); exact ⟨⟨k + 1, by omega, by go_num, hT, hb⟩, rfl⟩)
        case measure => simp [intOf]; omega
      · have hQ := cmpL_at xs ys k (by rw [HL.out, HL'.out]) HNO.out (by rw [HL.out]; exact hlt) (by rw [← ex, ← ey]; exact e1)
        rw [← ex, ← ey] at hQ
        have hne := cmpI_ne e1
        have HN := Lib.hid hQ
        have d1 : (cmpI x y != 0) = true := by simpa using hne.1
        generalize cmpI x y = r at *
        clear e1 hc hc2 h h' hne hQ ex ey
        go_wp2_with (refine (hq _).mono ?_; rintro e w' ⟨rfl, rfl⟩)
        go_ret
        exact ⟨ret_i HN.out.symm, hb⟩
    · obtain rfl : k = n := by omega
      have HQ := Lib.hid (cmpL_same xs ys (by rw [HL.out, HL'.out]) (fun j hj => HNO.out j (by rw [← HL.out]; exact hj)))
      go_wp2_with fail
      go_ret
      exact ⟨ret_i HQ.out.symm, hb⟩

set_option maxHeartbeats 1000000 in
theorem l8Less_any (A A' : Option Addr) (n c c' : Nat) (xs ys : List Int) (w : World) (h : Rd w A n xs) (h' : Rd w A' n ys) (hn : n ≤ 1048576) :
    Calls Try.prog 103 #[.slice A n c, .slice A' n c'] w fun e w' => e = .returned (.bool (lessB xs ys)) ∧ Below w.heap.size w w' := by
  have HL := Lib.hid h.1
  have HL' := Lib.hid h'.1
  go_enter Try.func103, Try.ntmps103
  go_wp2_with fail
  go_loopw [5] (fun i wr => ∃ k : Nat, k ≤ n ∧ i = .int .i64 k ∧ (∀ j, j < k → xs.getD j 0 = ys.getD j 0) ∧ Below w.heap.size w wr) (fun i _ => n - (intOf i).toNat)
  case atStart => exact ⟨0, Nat.zero_le _, rfl, fun j hj => absurd hj (by omega), Below.refl _ _⟩
  case round =>
    obtain ⟨k, hk, rfl, hno, hb⟩ := hrel
    have HNO := Lib.hid hno
    clear hno
    by_cases hlt : k < n
    · obtain ⟨b, off, rfl, hbl, hc⟩ := h.2 (by omega)
      obtain ⟨b2, off2, rfl, hbl2, hc2⟩ := h'.2 (by omega)
      have hcx : wr.cell? ⟨b, off + k, none⟩ = some (.int .i64 (xs.getD k 0)) := (hb.cell (p := ⟨b, off + k, none⟩) hbl).trans (hc k hlt)
      have hcy : wr.cell? ⟨b2, off2 + k, none⟩ = some (.int .i64 (ys.getD k 0)) := (hb.cell (p := ⟨b2, off2 + k, none⟩) hbl2).trans (hc2 k hlt)
      obtain ⟨x, ex⟩ : ∃ x, x = xs.getD k 0 := ⟨_, rfl⟩
      obtain ⟨y, ey⟩ : ∃ y, y = ys.getD k 0 := ⟨_, rfl⟩
      rw [← ex] at hcx
      rw [← ey] at hcy
      by_cases e1 : x = y
      · have E1 := Lib.hid (ex.symm.trans (e1.trans ey))
        have d1 : (x != y) = false := by simp [e1]
        clear e1 hc hc2 h h' ex ey
        go_wp2_with fail
        go_quiet (fail)
        go_wp2_with fail
        go_roundw
        case rel =>
          have hT : ∀ j, j < k + 1 → xs.getD j 0 = ys.getD j 0 := fun j hj => by
            by_cases e : j = k
            · rw [e]; exact E1.out
            · exact HNO.out j (by omega)
          first
            | exact ⟨k + 1, by omega, by go_num, hT, below_drewN hb _⟩
            | ((repeat apply Exists.intro); exact ⟨⟨k + 1, by omega, by go_num, hT, below_drewN hb _⟩, rfl⟩)
        case measure => simp [intOf]; omega
      · have hQ := less_at xs ys k (by rw [HL.out, HL'.out]) HNO.out (by rw [HL.out]; exact hlt) (by rw [← ex, ← ey]; exact e1)
        rw [← ex, ← ey] at hQ
        have HQ := Lib.hid hQ
        have d1 : (x != y) = true := by simpa using e1
        clear e1 hc hc2 h h' ex ey hQ
        go_wp2_with fail
        go_quiet (fail)
        go_wp2_with fail
        go_quiet (fail)
        go_wp2_with fail
        go_ret
        exact ⟨ret_b HQ.out.symm, below_drewN (below_drewN hb _) _⟩
    · obtain rfl : k = n := by omega
      have HQ := Lib.hid (less_same xs ys (by rw [HL.out, HL'.out]) (fun j hj => HNO.out j (by rw [← HL.out]; exact hj)))
      go_wp2_with fail
      go_ret
      exact ⟨ret_b HQ.out.symm, hb⟩
end Go.Proofs.Ytdnegamminhbfaa
