/- Contracts for StickSort and StickPut. -/
import Derived.Test.YtiadnbdefcimiaaSpecSort
namespace Go.Proofs.Ytiadnbdefcimiaa
open Go.RowKit

/-- StickPut's answer. -/
noncomputable def putB (xs : List Int) (x : Int) : Bool := bundleB xs && (decide (xs.length < 9) && inB x 1 60)
noncomputable def putM (xs : List Int) (x : Int) : List Int := if putB xs x then isort (xs ++ [x]) else []
theorem putM_yes {xs : List Int} {x : Int} (h : putB xs x = true) : putM xs x = isort (xs ++ [x]) := by unfold putM; rw [if_pos h]
theorem putM_no {xs : List Int} {x : Int} (h : putB xs x = false) : putM xs x = [] := by unfold putM; rw [h]; rfl
theorem putB_no {xs : List Int} {x : Int} (h : bundleB xs = false) : putB xs x = false := by unfold putB; rw [h]; rfl
theorem putB_of {xs : List Int} {x : Int} (h : bundleB xs = true) : putB xs x = bundleB (isort (xs ++ [x])) := by unfold putB; rw [h, bundle_put (bundleB_true h)]; rfl
theorem putM_of {xs : List Int} {x : Int} (h : bundleB xs = true) : putM xs x = doneM (isort (xs ++ [x])) := by unfold putM doneM; rw [putB_of h]

set_option maxHeartbeats 800000 in
theorem implStickPut_any (A : Option Addr) (n c : Nat) (xs : List Int) (x : Int) (w : World) (h : Rd w A n xs) (hn : n ≤ 1048576) (hA : A = none → n = 0 ∧ c = 0) :
    Calls Try.prog 27 #[.slice A n c, .int .i64 x] w fun e w' => ∃ A' n' c', e = .returned (.tuple #[.slice A' n' c', .bool (putB xs x)]) ∧ Own w' w.heap.size A' n' c' (putM xs x) ∧ n' ≤ 1048576 ∧ Below w.heap.size w w' := by
  have HL := Lib.hid h.1
  by_cases hb : bundleB xs = true
  · have HB := Lib.hid hb
    have hn9 : n ≤ 9 := by have := (bundleB_true hb).2.1; rw [h.1] at this; exact this
    by_cases h9 : n = 9
    · have hp : putB xs x = false := by unfold putB; rw [hb, HL.out, h9]; rfl
      have HP := Lib.hid hp
      have hd : ((n : Int) == 9) = true := by simp; omega
      clear hb hp h9
      go_enter Try.func27, Try.ntmps27
      go_wp2_with fail
      refine (valid_any _ _ _ xs _ h hn).mono ?_
      rintro e w1 ⟨rfl, b1⟩
      rw [HB.out]
      have hl := Own.lit w1 (B := w.heap.size) b1.size [] (by simp)
      go_wp2_with fail
      refine bodyPost_ret (results_tmp2 rfl _ _ _) rfl ?_
      exact ⟨_, 0, 0, ret_lb HP.out, by rw [putM_no HP.out]; exact hl, by omega, below_alloc b1 _⟩
    · have hd : ((n : Int) == 9) = false := by simp; omega
      by_cases hx : inB x 1 60 = true
      · have hp : putB xs x = true := by unfold putB; rw [hb, HL.out, hx]; simp; omega
        have HP := Lib.hid hp
        have HX := Lib.hid hx
        clear hb hp hx
        go_enter Try.func27, Try.ntmps27
        go_wp2_with fail
        refine (valid_any _ _ _ xs _ h hn).mono ?_
        rintro e w1 ⟨rfl, b1⟩
        rw [HB.out]
        go_wp2_with fail
        refine (isLength_any x _).mono ?_
        rintro e w1' ⟨rfl, rfl⟩
        rw [HX.out]
        go_wp2_with fail
        refine (with_any A n c xs x _ (h.same b1) (by omega) hA).mono ?_
        rintro e w2 ⟨A2, c2, rfl, o2, b2⟩
        go_wp2_with fail
        refine bodyPost_ret (results_tmp2 rfl _ _ _) rfl ?_
        exact ⟨A2, n + 1, c2, ret_lb HP.out, by rw [putM_yes HP.out]; exact o2.lower b1.size, by omega, below_then b1 b2⟩
      · rw [Bool.not_eq_true] at hx
        have hp : putB xs x = false := by unfold putB; rw [hx]; simp
        have HP := Lib.hid hp
        have HX := Lib.hid hx
        clear hb hp hx
        go_enter Try.func27, Try.ntmps27
        go_wp2_with fail
        refine (valid_any _ _ _ xs _ h hn).mono ?_
        rintro e w1 ⟨rfl, b1⟩
        rw [HB.out]
        have hl := Own.lit w1 (B := w.heap.size) b1.size [] (by simp)
        go_wp2_with fail
        refine (isLength_any x _).mono ?_
        rintro e w1' ⟨rfl, rfl⟩
        rw [HX.out]
        go_wp2_with fail
        refine bodyPost_ret (results_tmp2 rfl _ _ _) rfl ?_
        exact ⟨_, 0, 0, ret_lb HP.out, by rw [putM_no HP.out]; exact hl, by omega, below_alloc b1 _⟩
  · rw [Bool.not_eq_true] at hb
    have HB := Lib.hid hb
    clear hb
    go_enter Try.func27, Try.ntmps27
    go_wp2_with fail
    refine (valid_any _ _ _ xs _ h hn).mono ?_
    rintro e w1 ⟨rfl, b1⟩
    rw [HB.out]
    have hl := Own.lit w1 (B := w.heap.size) b1.size [] (by simp)
    go_wp2_with fail
    refine bodyPost_ret (results_tmp2 rfl _ _ _) rfl ?_
    exact ⟨_, 0, 0, ret_lb (putB_no HB.out), by rw [putM_no (putB_no HB.out)]; exact hl, by omega, below_alloc b1 _⟩
end Go.Proofs.Ytiadnbdefcimiaa
