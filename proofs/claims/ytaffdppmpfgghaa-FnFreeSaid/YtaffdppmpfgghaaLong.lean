/- Contracts for StickLongFree. -/
import Derived.Test.YtaffdppmpfgghaaKit
import Derived.Deep.RegionLaw
namespace Go.Proofs.Ytaffdppmpfgghaa
open Go.RowKit

def fibs : List Int := [1, 1, 2, 3, 5, 8, 13, 21, 34, 55]
def fib (k : Nat) : Int := fibs.getD k 0
def longM (n : Int) : List Int := if inB n 1 54 then fibs.filter (fun x => decide (x ≤ n)) else []
theorem fib_bd (k : Nat) : 0 ≤ fib k ∧ fib k ≤ 55 := by
  unfold fib fibs
  match k with
  | 0 => decide | 1 => decide | 2 => decide | 3 => decide | 4 => decide | 5 => decide | 6 => decide | 7 => decide | 8 => decide | 9 => decide
  | k + 10 => simp
theorem fib_add (m : Nat) (h : m ≤ 7) : fib m + fib (m + 1) = fib (m + 2) := by
  unfold fib fibs
  match m, h with
  | 0, _ => rfl | 1, _ => rfl | 2, _ => rfl | 3, _ => rfl | 4, _ => rfl | 5, _ => rfl | 6, _ => rfl | 7, _ => rfl
theorem fib_nine : fib 9 = 55 := rfl
theorem fibs_take (k : Nat) (h : k < 10) : fibs.take k ++ [fib k] = fibs.take (k + 1) := by
  unfold fib fibs
  match k, h with
  | 0, _ => rfl | 1, _ => rfl | 2, _ => rfl | 3, _ => rfl | 4, _ => rfl | 5, _ => rfl | 6, _ => rfl | 7, _ => rfl | 8, _ => rfl | 9, _ => rfl
theorem fibs_get (k j : Nat) (h : j < k) : (fibs.take k).getD j 0 = fib j := by
  unfold fib
  simp [List.getD_eq_getElem?_getD, h]
theorem long_done (n : Int) (k : Nat) (h2 : 2 ≤ k) (h9 : k ≤ 9) (hn : inB n 1 54 = true) (hlo : k = 2 ∨ fib (k - 1) ≤ n) (hhi : n < fib k) : longM n = fibs.take k := by
  have hb := inB_true hn
  unfold longM
  rw [if_pos hn]
  unfold fib fibs at *
  match k, h2, h9 with
  | 2, _, _ | 3, _, _ | 4, _, _ | 5, _, _ | 6, _, _ | 7, _, _ | 8, _, _ | 9, _, _ =>
    simp at hlo hhi
    simp [List.filter_cons]
    repeat (first | rw [if_pos (by omega)] | rw [if_neg (by omega)])
    try simp


set_option maxHeartbeats 1000000 in
theorem implStickLongFree_any (n : Int) (w : World) :
    Calls Try.prog 42 #[.int .i64 n] w fun e w' => ∃ A' n' c', e = .returned (.tuple #[.slice A' n' c', .bool (inB n 1 54)]) ∧ Own w' w.heap.size A' n' c' (longM n) ∧ n' ≤ 1048576 ∧ Below w.heap.size w w' := by
  by_cases hin : inB n 1 54 = true
  · have hbd := inB_true hin
    have HI := Lib.hid hin
    clear hin
    have hl := Own.lit w (Nat.le_refl _) [1, 1] (by simp)
    have f9 := fib_nine
    have F9 := Lib.hid f9
    clear f9
    go_enter Try.func42, Try.ntmps42
    go_wp2
    go_loopw [4, 5] (fun l x wr => ∃ (k : Nat) (A : Option Addr) (c : Nat), 2 ≤ k ∧ k ≤ 9 ∧ l = .slice A k c ∧ x = .int .i64 (fib k) ∧ Own wr w.heap.size A k c (fibs.take k) ∧ (k = 2 ∨ fib (k - 1) ≤ n) ∧ Below w.heap.size w wr)
      (fun l _ _ => 10 - sliceLen l)
    case atStart => exact ⟨2, _, _, by omega, by omega, rfl, rfl, hl, .inl rfl, below_alloc (Below.refl _ _) _⟩
    case round =>
      obtain ⟨k, A, c, hk2, hk9, rfl, rfl, ho, hlo, hb⟩ := hrel
      have HLO := Lib.hid hlo
      have fb := fib_bd k
      clear hlo hl
      by_cases hle : fib k ≤ n
      · have hk8 : k ≤ 8 := by
          rcases Nat.lt_or_ge k 9 with h | h
          · omega
          · obtain rfl : k = 9 := by omega
            rw [F9.out] at hle; omega
        obtain ⟨m, rfl⟩ : ∃ m, k = m + 2 := ⟨k - 2, by omega⟩
        have fa := fib_add (m + 1) (by omega)
        obtain ⟨x, ex⟩ : ∃ x, x = fib (m + 2) := ⟨_, rfl⟩
        obtain ⟨y, ey⟩ : ∃ y, y = fib (m + 1) := ⟨_, rfl⟩
        have fb1 := fib_bd (m + 1)
        have ho1 : ∀ W, Own W w.heap.size A (m + 2) c (fibs.take (m + 2)) → Own W w.heap.size A (m + 2) c (fibs.take (m + 2)) := fun _ h => h
        rw [← ex] at hle fb ⊢
        rw [← ey] at fb1
        have EX := Lib.hid ex
        have EY := Lib.hid ey
        have FA := Lib.hid fa
        clear ex ey fa ho1
        go_wp2_with (at_builtin; refine wpList_app rfl (.tmp 30) (.tmp 32) rfl rfl (ho.al _) rfl (rd_one _ _) (by omega) (by have := hb.size; simp; omega) ?_; intro A' c' W' ho' hg')
        have hb' := app_mark (below_alloc hb _) (ho.al _) (Nat.le_refl _) hg'
        obtain ⟨g, rfl, _, _⟩ := ho'.form (by omega)
        rw [EX.out, fibs_take _ (by omega)] at ho'
        have c1 := ho'.cell (m + 1) (by omega)
        have c2 := ho'.cell (m + 2) (by omega)
        rw [fibs_get _ _ (by omega), ← EY.out] at c1
        rw [fibs_get _ _ (by omega), ← EX.out] at c2
        have HO := Lib.hid ho'
        clear ho' ho hg' hb
        go_wp2
        go_quiet (fail)
        go_wp2
        go_roundw
        case rel => exact ⟨m + 3, some ⟨g, 0, none⟩, c', by omega, by omega, rfl, by rw [EX.out, EY.out]; exact congrArg (Value.int .i64) FA.out, HO.out.drN _, .inr (by show fib (m + 2) ≤ n; rw [← EX.out]; exact hle), below_drewN hb' _⟩
        case measure => show 10 - (m + 3) < 10 - (m + 2); omega
      · go_wp2
        refine bodyPost_ret (results_tmp2 rfl _ _ _) rfl ?_
        exact ⟨A, k, c, ret_lb HI.out, by rw [long_done n k hk2 hk9 HI.out HLO.out (by omega)]; exact ho, by omega, hb⟩
  · rw [Bool.not_eq_true] at hin
    have HI := Lib.hid hin
    have hm : longM n = [] := by unfold longM; rw [hin]; rfl
    have HM := Lib.hid hm
    have hl := Own.lit w (Nat.le_refl _) [] (by simp)
    have hlt : n < 1 ∨ (1 ≤ n ∧ 54 < n) := by
      unfold inB at hin
      rcases (show n < 1 ∨ 1 ≤ n by omega) with h | h
      · exact .inl h
      · refine .inr ⟨h, ?_⟩
        simp [h] at hin; omega
    clear hin hm
    rcases hlt with h | ⟨h1, h⟩ <;>
    · go_enter Try.func42, Try.ntmps42
      go_wp2
      refine bodyPost_ret (results_tmp2 rfl _ _ _) rfl ?_
      exact ⟨_, _, _, ret_lb HI.out, by rw [HM.out]; exact hl, by omega, below_alloc (Below.refl _ _) _⟩

set_option maxHeartbeats 1000000 in
theorem specStickLongFree_any (n : Int) (w : World) :
    Calls Try.prog 43 #[.int .i64 n] w fun e w' => ∃ A' n' c', e = .returned (.tuple #[.slice A' n' c', .bool (inB n 1 54)]) ∧ Rd w' A' n' (longM n) ∧ n' ≤ 1048576 ∧ Below w.heap.size w w' := by
  by_cases hin : inB n 1 54 = true
  · have hbd := inB_true hin
    have HI := Lib.hid hin
    clear hin
    have hl := Own.lit w (Nat.le_refl _) [1, 1] (by simp)
    have f9 := fib_nine
    have F9 := Lib.hid f9
    clear f9
    go_enter Try.func43, Try.ntmps43
    go_wp2_with (go_at_call 101; refine (l6In_is HI.out _).mono ?_; rintro e w' ⟨rfl, rfl⟩)
    go_loopw [4] (fun l wr => ∃ (k : Nat) (A : Option Addr) (c : Nat), 2 ≤ k ∧ k ≤ 9 ∧ l = .slice A k c ∧ Own wr w.heap.size A k c (fibs.take k) ∧ (k = 2 ∨ fib (k - 1) ≤ n) ∧ Below w.heap.size w wr)
      (fun l _ => 10 - sliceLen l)
    case atStart => exact ⟨2, _, _, by omega, by omega, rfl, hl, .inl rfl, below_alloc (Below.refl _ _) _⟩
    case round =>
      obtain ⟨k, A, c, hk2, hk9, rfl, ho, hlo, hb⟩ := hrel
      have HLO := Lib.hid hlo
      clear hlo hl
      obtain ⟨m, rfl⟩ : ∃ m, k = m + 2 := ⟨k - 2, by omega⟩
      have fa := fib_add m (by omega)
      have fb := fib_bd m
      have fb1 := fib_bd (m + 1)
      obtain ⟨g, rfl, _, _⟩ := ho.form (by omega)
      have c1 := ho.cell m (by omega)
      have c2 := ho.cell (m + 1) (by omega)
      rw [fibs_get _ _ (by omega)] at c1
      rw [fibs_get _ _ (by omega)] at c2
      obtain ⟨x, ex⟩ : ∃ x, x = fib m := ⟨_, rfl⟩
      obtain ⟨y, ey⟩ : ∃ y, y = fib (m + 1) := ⟨_, rfl⟩
      rw [← ex] at c1 fb
      rw [← ey] at c2 fb1
      have EX := Lib.hid ex
      have EY := Lib.hid ey
      have FA := Lib.hid fa
      clear ex ey fa
      by_cases hle : y + x ≤ n
      · have hm7 : m ≤ 6 := by
          rcases Nat.lt_or_ge m 7 with h | h
          · omega
          · obtain rfl : m = 7 := by omega
            have : x + y = 55 := by rw [EX.out, EY.out, FA.out]; rfl
            omega
        go_wp2
        go_quiet (fail)
        go_wp2
        have k1 : IntKind.i64.wrap ((m : Int) + 2 - 1) = (m : Int) + 1 := wrap_is (by omega) (by omega) (by omega)
        have k2 : IntKind.i64.wrap (m : Int) = (m : Int) := wrap_is rfl (by omega) (by omega)
        have k3 : IntKind.i64.wrap (y + x) = y + x := wrap_is rfl (by omega) (by omega)
        have k4 : ((m : Int) + 1).toNat = m + 1 := by omega
        have k5 : (0 : Int) ≤ (m : Int) + 1 := by omega
        have k6 : (0 : Int) ≤ (m : Int) := by omega
        have k7 : (m : Int) < (m : Int) + 2 := by omega
        have k8 : (m : Int) + 1 < (m : Int) + 2 := by omega
        have hsm : m + 2 + 1 ≤ 16777216 := by omega
        have hsz := Lib.hid hb.size
        go_region_law (refine step_app (c2 := 1) rfl (.tmp 25) (.tmp 39) rfl ?_ ((ho.drN _).al _) ?_ (rd_oneM _ _ _) hsm (size_alM _ _ _ _ hsz.out) ?_; (· simp [Act.eval]); (· simp [Act.eval]); intro A' c' W' ho' hg')
        all_goals
          have hb' := app_mark (W' := W') (below_alloc (below_drewN hb _) _) ((ho.drN _).al _) (Nat.le_refl _) hg'
          rw [show y + x = fib (m + 2) by rw [EX.out, EY.out, ← FA.out]; omega, fibs_take _ (by omega)] at ho'
          have HO := Lib.hid ho'
          clear ho' hg' c1 c2 k1 k2 k3 k4 k5 k6 k7 k8
          go_wp2
          go_roundw
          case rel =>
            (repeat apply Exists.intro)
            exact ⟨⟨m + 3, A', c', by omega, by omega, rfl, HO.out, .inr (by show fib (m + 2) ≤ n; rw [← FA.out, ← EX.out, ← EY.out]; omega), hb'⟩, rfl⟩
          case measure => show 10 - (m + 3) < 10 - (m + 2); omega
      · go_wp2
        go_quiet (fail)
        go_wp2
        refine bodyPost_ret (results_tmp2 rfl _ _ _) rfl ?_
        exact ⟨_, m + 2, c, ret_lb HI.out, by rw [long_done n (m + 2) hk2 hk9 HI.out HLO.out (by rw [← FA.out, ← EX.out, ← EY.out]; omega)]; exact (ho.drN _).rd, by omega, below_drewN hb _⟩
  · rw [Bool.not_eq_true] at hin
    have HI := Lib.hid hin
    have hm : longM n = [] := by unfold longM; rw [hin]; rfl
    have HM := Lib.hid hm
    have hl := Own.lit w (Nat.le_refl _) [] (by simp)
    clear hin hm
    go_enter Try.func43, Try.ntmps43
    go_wp2_with (go_at_call 101; refine (l6In_is HI.out _).mono ?_; rintro e w' ⟨rfl, rfl⟩)
    refine bodyPost_ret (results_tmp2 rfl _ _ _) rfl ?_
    exact ⟨_, _, _, ret_lb HI.out, by rw [HM.out]; exact hl.rd, by omega, below_alloc (Below.refl _ _) _⟩
end Go.Proofs.Ytaffdppmpfgghaa
