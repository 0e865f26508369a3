/- Contracts for StickSort and StickPut. -/
import Derived.Test.YtogmoljaiapolaaSpecSort
namespace Go.Proofs.Ytogmoljaiapolaa
open Go.RowKit

set_option maxHeartbeats 400000 in
theorem implStickSort_any (A : Option Addr) (n c : Nat) (xs : List Int) (w : World) (h : Rd w A n xs) (hn : n ≤ 1048576) (hA : A = none → n = 0 ∧ c = 0) :
    Calls Try.prog 73 #[.slice A n c] w fun e w' => ∃ A' n' c', e = .returned (.tuple #[.slice A' n' c', .bool (bundleB (isort xs))]) ∧ Own w' w.heap.size A' n' c' (doneM (isort xs)) ∧ n' ≤ 1048576 ∧ Below w.heap.size w w' := by
  by_cases h9 : n ≤ 9
  · by_cases hb : bundleB (isort xs) = true
    · have HB := Lib.hid hb
      clear hb
      go_enter Try.func73, Try.ntmps73
      go_wp2_with fail
      refine (clone_any A n c xs _ h hn hA).mono ?_
      rintro e w1 ⟨A1, c1, rfl, o1, b1⟩
      go_wp2_with fail
      refine (slicesSort_any A1 n c1 _ _ _ o1 (by omega)).mono ?_
      rintro e w2 ⟨rfl, o2, g2⟩
      have b2 := app_mark b1 o1 (Nat.le_refl _) g2
      go_wp2_with fail
      refine (valid_any A1 n c1 (isort xs) _ o2.rd hn).mono ?_
      rintro e w3 ⟨rfl, b3⟩
      rw [HB.out]
      go_wp2_with fail
      refine bodyPost_ret (results_tmp2 rfl _ _ _) rfl ?_
      exact ⟨A1, n, c1, ret_lb HB.out, by rw [doneM_yes HB.out]; exact o2.same b3, hn, below_then b2 b3⟩
    · rw [Bool.not_eq_true] at hb
      have HB := Lib.hid hb
      clear hb
      go_enter Try.func73, Try.ntmps73
      go_wp2_with fail
      refine (clone_any A n c xs _ h hn hA).mono ?_
      rintro e w1 ⟨A1, c1, rfl, o1, b1⟩
      go_wp2_with fail
      refine (slicesSort_any A1 n c1 _ _ _ o1 (by omega)).mono ?_
      rintro e w2 ⟨rfl, o2, g2⟩
      have b2 := app_mark b1 o1 (Nat.le_refl _) g2
      go_wp2_with fail
      refine (valid_any A1 n c1 (isort xs) _ o2.rd hn).mono ?_
      rintro e w3 ⟨rfl, b3⟩
      rw [HB.out]
      have b4 := below_then b2 b3
      have hl := Own.lit w3 (B := w.heap.size) b4.size [] (by simp)
      go_wp2_with fail
      refine bodyPost_ret (results_tmp2 rfl _ _ _) rfl ?_
      exact ⟨_, 0, 0, ret_lb HB.out, by rw [doneM_no HB.out]; exact hl, by omega, below_alloc b4 _⟩
  · have hb : bundleB (isort xs) = false := bundleB_not fun hb => by have := hb.2.1; rw [length_isort, h.1] at this; omega
    have HB := Lib.hid hb
    have hl := Own.lit w (Nat.le_refl _) [] (by simp)
    clear hb
    go_enter Try.func73, Try.ntmps73
    go_wp2_with fail
    refine bodyPost_ret (results_tmp2 rfl _ _ _) rfl ?_
    exact ⟨_, 0, 0, ret_lb HB.out, by rw [doneM_no HB.out]; exact hl, by omega, below_alloc (Below.refl _ _) _⟩

/-- StickPut's answer. -/
noncomputable def putB (xs : List Int) (x : Int) : Bool := bundleB xs && (decide (xs.length < 9) && inB x 1 60)
noncomputable def putM (xs : List Int) (x : Int) : List Int := if putB xs x then isort (xs ++ [x]) else []
theorem putM_yes {xs : List Int} {x : Int} (h : putB xs x = true) : putM xs x = isort (xs ++ [x]) := by unfold putM; rw [if_pos h]
theorem putM_no {xs : List Int} {x : Int} (h : putB xs x = false) : putM xs x = [] := by unfold putM; rw [h]; rfl
theorem putB_no {xs : List Int} {x : Int} (h : bundleB xs = false) : putB xs x = false := by unfold putB; rw [h]; rfl
theorem putB_of {xs : List Int} {x : Int} (h : bundleB xs = true) : putB xs x = bundleB (isort (xs ++ [x])) := by unfold putB; rw [h, bundle_put (bundleB_true h)]; rfl
theorem putM_of {xs : List Int} {x : Int} (h : bundleB xs = true) : putM xs x = doneM (isort (xs ++ [x])) := by unfold putM doneM; rw [putB_of h]

end Go.Proofs.Ytogmoljaiapolaa
