/- Contracts for StickSort and StickPut. -/
import Derived.Test.YtaffdppmpfgghaaSpecSort
namespace Go.Proofs.Ytaffdppmpfgghaa
open Go.RowKit

set_option maxHeartbeats 400000 in
theorem l1Done_any (A : Option Addr) (n c : Nat) (ys : List Int) (w : World) (h : Rd w A n ys) (hn : n ≤ 1048576) :
    Calls Try.prog 106 #[.slice A n c] w fun e w' => ∃ A' n' c', e = .returned (.tuple #[.slice A' n' c', .bool (bundleB ys)]) ∧ Rd w' A' n' (doneM ys) ∧ n' ≤ 1048576 ∧ Below w.heap.size w w' := by
  by_cases hb : bundleB ys = true
  · have HB := Lib.hid hb
    clear hb
    go_enter Try.func106, Try.ntmps106
    go_wp2_with fail
    refine (l1Bundle_any _ _ _ ys _ h hn).mono ?_
    rintro e w1 ⟨rfl, b1⟩
    rw [HB.out]
    go_wp2_with fail
    refine bodyPost_ret (results_tmp2 rfl _ _ _) rfl ?_
    exact ⟨A, n, c, ret_lb HB.out, by rw [doneM_yes HB.out]; exact h.same b1, hn, b1⟩
  · rw [Bool.not_eq_true] at hb
    have HB := Lib.hid hb
    clear hb
    go_enter Try.func106, Try.ntmps106
    go_wp2_with fail
    refine (l1Bundle_any _ _ _ ys _ h hn).mono ?_
    rintro e w1 ⟨rfl, b1⟩
    rw [HB.out]
    go_wp2_with fail
    refine bodyPost_ret (results_tmp2 rfl _ _ _) rfl ?_
    exact ⟨some ⟨w1.heap.size, 0, none⟩, 0, 0, ret_lb HB.out, by rw [doneM_no HB.out]; exact Rd.nil_ _ _, by omega, below_alloc b1 _⟩

set_option maxHeartbeats 400000 in
theorem specStickSort_any (A : Option Addr) (n c : Nat) (xs : List Int) (w : World) (h : Rd w A n xs) (hn : n ≤ 1048576) :
    Calls Try.prog 79 #[.slice A n c] w fun e w' => ∃ A' n' c', e = .returned (.tuple #[.slice A' n' c', .bool (bundleB (isort xs))]) ∧ Rd w' A' n' (doneM (isort xs)) ∧ n' ≤ 1048576 ∧ Below w.heap.size w w' := by
  by_cases h9 : n ≤ 9
  · go_enter Try.func79, Try.ntmps79
    go_wp2_with fail
    refine (l1Sort_any A n c xs _ h hn).mono ?_
    rintro e w1 ⟨A1, c1, rfl, o1, b1⟩
    go_wp2_with fail
    refine (l1Done_any A1 n c1 (isort xs) _ o1.rd hn).mono ?_
    rintro e w2 ⟨A2, n2, c2, rfl, r2, l2, b2⟩
    go_wp2_with fail
    refine bodyPost_ret (results_tmp2 rfl _ _ _) rfl ?_
    exact ⟨A2, n2, c2, rfl, r2, l2, below_then b1 b2⟩
  · have hb : bundleB (isort xs) = false := bundleB_not fun hb => by have := hb.2.1; rw [length_isort, h.1] at this; omega
    have HB := Lib.hid hb
    clear hb
    go_enter Try.func79, Try.ntmps79
    go_wp2_with fail
    refine bodyPost_ret (results_tmp2 rfl _ _ _) rfl ?_
    exact ⟨_, 0, 0, ret_lb HB.out, by rw [doneM_no HB.out]; exact Rd.nil_ _ _, by omega, below_alloc (Below.refl _ _) _⟩

set_option maxHeartbeats 400000 in
theorem implStickSort_any (A : Option Addr) (n c : Nat) (xs : List Int) (w : World) (h : Rd w A n xs) (hn : n ≤ 1048576) (hA : A = none → n = 0 ∧ c = 0) :
    Calls Try.prog 78 #[.slice A n c] w fun e w' => ∃ A' n' c', e = .returned (.tuple #[.slice A' n' c', .bool (bundleB (isort xs))]) ∧ Own w' w.heap.size A' n' c' (doneM (isort xs)) ∧ n' ≤ 1048576 ∧ Below w.heap.size w w' := by
  by_cases h9 : n ≤ 9
  · by_cases hb : bundleB (isort xs) = true
    · have HB := Lib.hid hb
      clear hb
      go_enter Try.func78, Try.ntmps78
      go_wp2_with fail
      refine (clone_any A n c xs _ h hn hA).mono ?_
      rintro e w1 ⟨A1, c1, rfl, o1, b1⟩
      go_wp2_with fail
      refine (slicesSort_any A1 n c1 _ _ _ o1 (by omega)).mono ?_
      rintro e w2 ⟨rfl, o2, g2⟩
      have b2 := app_mark b1 o1 (Nat.le_refl _) g2
      go_wp2_with fail
      refine (valid_any A1 n c1 (isort xs) _ o2.rd hn).mono ?_
      rintro e w3 ⟨rfl, b3⟩
      rw [HB.out]
      go_wp2_with fail
      refine bodyPost_ret (results_tmp2 rfl _ _ _) rfl ?_
      exact ⟨A1, n, c1, ret_lb HB.out, by rw [doneM_yes HB.out]; exact o2.same b3, hn, below_then b2 b3⟩
    · rw [Bool.not_eq_true] at hb
      have HB := Lib.hid hb
      clear hb
      go_enter Try.func78, Try.ntmps78
      go_wp2_with fail
      refine (clone_any A n c xs _ h hn hA).mono ?_
      rintro e w1 ⟨A1, c1, rfl, o1, b1⟩
      go_wp2_with fail
      refine (slicesSort_any A1 n c1 _ _ _ o1 (by omega)).mono ?_
      rintro e w2 ⟨rfl, o2, g2⟩
      have b2 := app_mark b1 o1 (Nat.le_refl _) g2
      go_wp2_with fail
      refine (valid_any A1 n c1 (isort xs) _ o2.rd hn).mono ?_
      rintro e w3 ⟨rfl, b3⟩
      rw [HB.out]
      have b4 := below_then b2 b3
      have hl := Own.lit w3 (B := w.heap.size) b4.size [] (by simp)
      go_wp2_with fail
      refine bodyPost_ret (results_tmp2 rfl _ _ _) rfl ?_
      exact ⟨_, 0, 0, ret_lb HB.out, by rw [doneM_no HB.out]; exact hl, by omega, below_alloc b4 _⟩
  · have hb : bundleB (isort xs) = false := bundleB_not fun hb => by have := hb.2.1; rw [length_isort, h.1] at this; omega
    have HB := Lib.hid hb
    have hl := Own.lit w (Nat.le_refl _) [] (by simp)
    clear hb
    go_enter Try.func78, Try.ntmps78
    go_wp2_with fail
    refine bodyPost_ret (results_tmp2 rfl _ _ _) rfl ?_
    exact ⟨_, 0, 0, ret_lb HB.out, by rw [doneM_no HB.out]; exact hl, by omega, below_alloc (Below.refl _ _) _⟩

/-- StickPut's answer. -/
noncomputable def putB (xs : List Int) (x : Int) : Bool := bundleB xs && (decide (xs.length < 9) && inB x 1 60)
noncomputable def putM (xs : List Int) (x : Int) : List Int := if putB xs x then isort (xs ++ [x]) else []
theorem putM_yes {xs : List Int} {x : Int} (h : putB xs x = true) : putM xs x = isort (xs ++ [x]) := by unfold putM; rw [if_pos h]
theorem putM_no {xs : List Int} {x : Int} (h : putB xs x = false) : putM xs x = [] := by unfold putM; rw [h]; rfl
theorem putB_no {xs : List Int} {x : Int} (h : bundleB xs = false) : putB xs x = false := by unfold putB; rw [h]; rfl
theorem putB_of {xs : List Int} {x : Int} (h : bundleB xs = true) : putB xs x = bundleB (isort (xs ++ [x])) := by unfold putB; rw [h, bundle_put (bundleB_true h)]; rfl
theorem putM_of {xs : List Int} {x : Int} (h : bundleB xs = true) : putM xs x = doneM (isort (xs ++ [x])) := by unfold putM doneM; rw [putB_of h]

set_option maxHeartbeats 400000 in
theorem specStickPut_any (A : Option Addr) (n c : Nat) (xs : List Int) (x : Int) (w : World) (h : Rd w A n xs) (hn : n ≤ 1048576) :
    Calls Try.prog 50 #[.slice A n c, .int .i64 x] w fun e w' => ∃ A' n' c', e = .returned (.tuple #[.slice A' n' c', .bool (putB xs x)]) ∧ Rd w' A' n' (putM xs x) ∧ n' ≤ 1048576 ∧ Below w.heap.size w w' := by
  by_cases hb : bundleB xs = true
  · have HB := Lib.hid hb
    have hn9 : n ≤ 9 := by have := (bundleB_true hb).2.1; rw [h.1] at this; exact this
    clear hb
    go_enter Try.func50, Try.ntmps50
    go_wp2_with fail
    refine (l1Bundle_any _ _ _ xs _ h hn).mono ?_
    rintro e w1 ⟨rfl, b1⟩
    rw [HB.out]
    have h1 := h.same b1
    have hl := Own.lit w1 (B := w.heap.size) b1.size [] (by simp)
    have hs1 := b1.size
    go_wp2_with (first
      | (at_builtin; refine wpList_app rfl (.tmp 10) (.tmp 11) rfl rfl hl rfl (h1.al _) (by simp; omega) (by simp; omega) ?_; intro A2 c2 w2 o2 g2; simp only [Nat.zero_add, List.nil_append] at o2; have b2 := app_mark (below_alloc b1 _) hl (Nat.le_refl _) g2)
      | (at_builtin; refine wpList_app rfl (.tmp 12) (.tmp 14) rfl rfl (o2.al _) rfl (rd_one _ _) (by omega) (by have := b2.size; simp; omega) ?_; intro A3 c3 w3 o3 g3; have b3 := app_mark (below_alloc b2 _) (o2.al _) (Nat.le_refl _) g3))
    refine (l1Sort_any A3 (n + 1) c3 (xs ++ [x]) _ o3.rd (by omega)).mono ?_
    rintro e w4 ⟨A4, c4, rfl, o4, b4⟩
    go_wp2_with fail
    refine (l1Done_any A4 (n + 1) c4 (isort (xs ++ [x])) _ o4.rd (by omega)).mono ?_
    rintro e w5 ⟨A5, n5, c5, rfl, r5, l5, b5⟩
    go_wp2_with fail
    refine bodyPost_ret (results_tmp2 rfl _ _ _) rfl ?_
    exact ⟨A5, n5, c5, ret_lb (putB_of HB.out), by rw [putM_of HB.out]; exact r5, l5, below_then (below_then b3 b4) b5⟩
  · rw [Bool.not_eq_true] at hb
    have HB := Lib.hid hb
    clear hb
    go_enter Try.func50, Try.ntmps50
    go_wp2_with fail
    refine (l1Bundle_any _ _ _ xs _ h hn).mono ?_
    rintro e w1 ⟨rfl, b1⟩
    rw [HB.out]
    go_wp2_with fail
    refine bodyPost_ret (results_tmp2 rfl _ _ _) rfl ?_
    exact ⟨_, 0, 0, ret_lb (putB_no HB.out), by rw [putM_no (putB_no HB.out)]; exact Rd.nil_ _ _, by omega, below_alloc b1 _⟩

set_option maxHeartbeats 800000 in
theorem implStickPut_any (A : Option Addr) (n c : Nat) (xs : List Int) (x : Int) (w : World) (h : Rd w A n xs) (hn : n ≤ 1048576) (hA : A = none → n = 0 ∧ c = 0) :
    Calls Try.prog 49 #[.slice A n c, .int .i64 x] w fun e w' => ∃ A' n' c', e = .returned (.tuple #[.slice A' n' c', .bool (putB xs x)]) ∧ Own w' w.heap.size A' n' c' (putM xs x) ∧ n' ≤ 1048576 ∧ Below w.heap.size w w' := by
  have HL := Lib.hid h.1
  by_cases hb : bundleB xs = true
  · have HB := Lib.hid hb
    have hn9 : n ≤ 9 := by have := (bundleB_true hb).2.1; rw [h.1] at this; exact this
    by_cases h9 : n = 9
    · have hp : putB xs x = false := by unfold putB; rw [hb, HL.out, h9]; rfl
      have HP := Lib.hid hp
      have hd : ((n : Int) == 9) = true := by simp; omega
      clear hb hp h9
      go_enter Try.func49, Try.ntmps49
      go_wp2_with fail
      refine (valid_any _ _ _ xs _ h hn).mono ?_
      rintro e w1 ⟨rfl, b1⟩
      rw [HB.out]
      have hl := Own.lit w1 (B := w.heap.size) b1.size [] (by simp)
      go_wp2_with fail
      refine bodyPost_ret (results_tmp2 rfl _ _ _) rfl ?_
      exact ⟨_, 0, 0, ret_lb HP.out, by rw [putM_no HP.out]; exact hl, by omega, below_alloc b1 _⟩
    · have hd : ((n : Int) == 9) = false := by simp; omega
      by_cases hx : inB x 1 60 = true
      · have hp : putB xs x = true := by unfold putB; rw [hb, HL.out, hx]; simp; omega
        have HP := Lib.hid hp
        have HX := Lib.hid hx
        clear hb hp hx
        go_enter Try.func49, Try.ntmps49
        go_wp2_with fail
        refine (valid_any _ _ _ xs _ h hn).mono ?_
        rintro e w1 ⟨rfl, b1⟩
        rw [HB.out]
        go_wp2_with fail
        refine (isLength_any x _).mono ?_
        rintro e w1' ⟨rfl, rfl⟩
        rw [HX.out]
        go_wp2_with fail
        refine (with_any A n c xs x _ (h.same b1) (by omega) hA).mono ?_
        rintro e w2 ⟨A2, c2, rfl, o2, b2⟩
        go_wp2_with fail
        refine bodyPost_ret (results_tmp2 rfl _ _ _) rfl ?_
        exact ⟨A2, n + 1, c2, ret_lb HP.out, by rw [putM_yes HP.out]; exact o2.lower b1.size, by omega, below_then b1 b2⟩
      · rw [Bool.not_eq_true] at hx
        have hp : putB xs x = false := by unfold putB; rw [hx]; simp
        have HP := Lib.hid hp
        have HX := Lib.hid hx
        clear hb hp hx
        go_enter Try.func49, Try.ntmps49
        go_wp2_with fail
        refine (valid_any _ _ _ xs _ h hn).mono ?_
        rintro e w1 ⟨rfl, b1⟩
        rw [HB.out]
        have hl := Own.lit w1 (B := w.heap.size) b1.size [] (by simp)
        go_wp2_with fail
        refine (isLength_any x _).mono ?_
        rintro e w1' ⟨rfl, rfl⟩
        rw [HX.out]
        go_wp2_with fail
        refine bodyPost_ret (results_tmp2 rfl _ _ _) rfl ?_
        exact ⟨_, 0, 0, ret_lb HP.out, by rw [putM_no HP.out]; exact hl, by omega, below_alloc b1 _⟩
  · rw [Bool.not_eq_true] at hb
    have HB := Lib.hid hb
    clear hb
    go_enter Try.func49, Try.ntmps49
    go_wp2_with fail
    refine (valid_any _ _ _ xs _ h hn).mono ?_
    rintro e w1 ⟨rfl, b1⟩
    rw [HB.out]
    have hl := Own.lit w1 (B := w.heap.size) b1.size [] (by simp)
    go_wp2_with fail
    refine bodyPost_ret (results_tmp2 rfl _ _ _) rfl ?_
    exact ⟨_, 0, 0, ret_lb (putB_no HB.out), by rw [putM_no (putB_no HB.out)]; exact hl, by omega, below_alloc b1 _⟩
end Go.Proofs.Ytaffdppmpfgghaa
