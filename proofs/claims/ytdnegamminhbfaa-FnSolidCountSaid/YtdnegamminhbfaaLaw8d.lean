/- The walks of the laws FnEqual, FnSolidCount. -/
import Derived.Test.YtdnegamminhbfaaDraw8
import Derived.Test.YtdnegamminhbfaaSolK
import Derived.Test.YtdnegamminhbfaaSolS6
namespace Go.Proofs.Ytdnegamminhbfaa
open Go.RowKit Go.Sort Go.Lib

set_option maxRecDepth 100000 in
set_option maxHeartbeats 4000000 in
theorem fnEqual_walk (A0 : Option Addr) (n0 c0 : Nat) (z0 : List Int) (w : World) (h0 : RdB w A0 n0 z0) (k0 : WfL .u8 z0) (q0 : n0 ≤ c0) :
    Calls Try.prog 7 #[.slice A0 n0 c0] w fun e w' => e = .returned (.bool true) ∧ Below w.heap.size w w' := by
  by_cases big : n0 ≤ 1048576
  rotate_left
  · go_enter Try.func7, Try.ntmps7
    go_wp2_with fail
    go_ret
    exact ⟨rfl, Below.refl _ _⟩
  go_enter Try.func7, Try.ntmps7
  go_wp2_with fail
  refine (drawSolidCount_any A0 n0 c0 z0 _ h0 (bytes_of k0) big q0).mono ?_
  rintro e w1 ⟨z, rfl, hz1, hz2, B1⟩
  have hI := fun W => implSolidCount_any z W
  have hS := fun W => specSolidCount_any z W
  cases hb : inB z 1 3 with
  | false =>
    rw [cnt_no' hb, hb] at hI hS
    clear hb
    go_wp2_with fail
    refine (hI _).mono ?_
    rintro e w2 ⟨rfl, b⟩
    have B2 := below_then B1 b
    clear b
    go_wp2_with fail
    refine (hS _).mono ?_
    rintro e w3 ⟨rfl, b⟩
    have B3 := below_then B2 b
    clear b
    go_wp2_with fail
    go_ret
    exact ⟨rfl, B3⟩
  | true =>
    have h3 := inB_true hb
    have hc : z = 1 ∨ z = 2 ∨ z = 3 := by omega
    rw [hb] at hI hS
    clear hb h3 hz1 hz2
    rcases hc with rfl | rfl | rfl
    · have hN := fun A W (h : Rd W A 6 [1, 1, 1, 1, 1, 1]) => implSolidNumber_any A 6 6 _ W h (by omega)
      rw [show numM [1, 1, 1, 1, 1, 1] = 2 by decide, show solB [1, 1, 1, 1, 1, 1] = true by decide] at hN
      go_wp2_with fail
      refine (hI _).mono ?_
      rintro e w2 ⟨rfl, b⟩
      have B2 := below_then B1 b
      clear b
      go_wp2_with fail
      refine (hS _).mono ?_
      rintro e w3 ⟨rfl, b⟩
      have B3 := below_then B2 b
      clear b
      have l1 := (Own.lit w3 (Nat.le_refl _) [1, 1, 1, 1, 1, 1] (by simp)).rd
      have B3' := below_alloc B3 (.cells (ints [1, 1, 1, 1, 1, 1]).toArray 3)
      clear B3
      go_wp2_with fail
      refine (hN _ _ l1).mono ?_
      rintro e w4 ⟨rfl, b⟩
      have B4 := below_then B3' b
      clear b
      go_wp2_with fail
      go_ret
      exact ⟨rfl, B4⟩
    · have hN := fun A W (h : Rd W A 6 [2, 2, 2, 2, 2, 2]) => implSolidNumber_any A 6 6 _ W h (by omega)
      rw [show numM [2, 2, 2, 2, 2, 2] = 128 by decide, show solB [2, 2, 2, 2, 2, 2] = true by decide] at hN
      go_wp2_with fail
      refine (hI _).mono ?_
      rintro e w2 ⟨rfl, b⟩
      have B2 := below_then B1 b
      clear b
      go_wp2_with fail
      refine (hS _).mono ?_
      rintro e w3 ⟨rfl, b⟩
      have B3 := below_then B2 b
      clear b
      have l1 := (Own.lit w3 (Nat.le_refl _) [2, 2, 2, 2, 2, 2] (by simp)).rd
      have B3' := below_alloc B3 (.cells (ints [2, 2, 2, 2, 2, 2]).toArray 3)
      clear B3
      go_wp2_with fail
      refine (hN _ _ l1).mono ?_
      rintro e w4 ⟨rfl, b⟩
      have B4 := below_then B3' b
      clear b
      go_wp2_with fail
      go_ret
      exact ⟨rfl, B4⟩
    · have hN := fun A W (h : Rd W A 6 [3, 3, 3, 3, 3, 3]) => implSolidNumber_any A 6 6 _ W h (by omega)
      rw [show numM [3, 3, 3, 3, 3, 3] = 1458 by decide, show solB [3, 3, 3, 3, 3, 3] = true by decide] at hN
      go_wp2_with fail
      refine (hI _).mono ?_
      rintro e w2 ⟨rfl, b⟩
      have B2 := below_then B1 b
      clear b
      go_wp2_with fail
      refine (hS _).mono ?_
      rintro e w3 ⟨rfl, b⟩
      have B3 := below_then B2 b
      clear b
      have l1 := (Own.lit w3 (Nat.le_refl _) [3, 3, 3, 3, 3, 3] (by simp)).rd
      have B3' := below_alloc B3 (.cells (ints [3, 3, 3, 3, 3, 3]).toArray 3)
      clear B3
      go_wp2_with fail
      refine (hN _ _ l1).mono ?_
      rintro e w4 ⟨rfl, b⟩
      have B4 := below_then B3' b
      clear b
      go_wp2_with fail
      go_ret
      exact ⟨rfl, B4⟩

set_option maxRecDepth 100000 in
set_option maxHeartbeats 4000000 in
theorem fnSolidCount_walk (A0 : Option Addr) (n0 c0 : Nat) (z0 : List Int) (w : World) (h0 : RdB w A0 n0 z0) (k0 : WfL .u8 z0) (q0 : n0 ≤ c0) :
    Calls Try.prog 13 #[.slice A0 n0 c0] w fun e w' => e = .returned (.bool true) ∧ Below w.heap.size w w' := by
  by_cases big : n0 ≤ 1048576
  rotate_left
  · go_enter Try.func13, Try.ntmps13
    go_wp2_with fail
    go_ret
    exact ⟨rfl, Below.refl _ _⟩
  go_enter Try.func13, Try.ntmps13
  go_wp2_with fail
  refine (drawSolidCount_any A0 n0 c0 z0 _ h0 (bytes_of k0) big q0).mono ?_
  rintro e w1 ⟨z, rfl, hz1, hz2, B1⟩
  have hI := fun W => implSolidCount_any z W
  have hS := fun W => specSolidCount_any z W
  cases hb : inB z 1 3 with
  | false =>
    rw [cnt_no' hb, hb] at hI hS
    clear hb
    go_wp2_with fail
    refine (hI _).mono ?_
    rintro e w2 ⟨rfl, b⟩
    have B2 := below_then B1 b
    clear b
    go_wp2_with fail
    refine (hS _).mono ?_
    rintro e w3 ⟨rfl, b⟩
    have B3 := below_then B2 b
    clear b
    go_wp2_with fail
    go_ret
    exact ⟨rfl, B3⟩
  | true =>
    have h3 := inB_true hb
    have hc : z = 1 ∨ z = 2 ∨ z = 3 := by omega
    rw [hb] at hI hS
    clear hb h3 hz1 hz2
    rcases hc with rfl | rfl | rfl
    · have hP := fun W => implSolidCount_any 0 W
      rw [show cntSol 1 = 1 by decide] at hI hS
      rw [show cntSol 0 = 0 by decide, show inB 0 1 3 = false by decide] at hP
      go_wp2_with fail
      refine (hI _).mono ?_
      rintro e w2 ⟨rfl, b⟩
      have B2 := below_then B1 b
      clear b
      go_wp2_with fail
      refine (hS _).mono ?_
      rintro e w3 ⟨rfl, b⟩
      have B3 := below_then B2 b
      clear b
      go_wp2_with fail
      refine (hP _).mono ?_
      rintro e w4 ⟨rfl, b⟩
      have B4 := below_then B3 b
      clear b
      go_wp2_with fail
      go_ret
      exact ⟨rfl, B4⟩
    · have hP := fun W => implSolidCount_any 1 W
      rw [show cntSol 2 = 5 by decide] at hI hS
      rw [show cntSol 1 = 1 by decide, show inB 1 1 3 = true by decide] at hP
      go_wp2_with fail
      refine (hI _).mono ?_
      rintro e w2 ⟨rfl, b⟩
      have B2 := below_then B1 b
      clear b
      go_wp2_with fail
      refine (hS _).mono ?_
      rintro e w3 ⟨rfl, b⟩
      have B3 := below_then B2 b
      clear b
      go_wp2_with fail
      refine (hP _).mono ?_
      rintro e w4 ⟨rfl, b⟩
      have B4 := below_then B3 b
      clear b
      go_wp2_with fail
      go_ret
      exact ⟨rfl, B4⟩
    · have hP := fun W => implSolidCount_any 2 W
      rw [show cntSol 3 = 21 by decide] at hI hS
      rw [show cntSol 2 = 5 by decide, show inB 2 1 3 = true by decide] at hP
      go_wp2_with fail
      refine (hI _).mono ?_
      rintro e w2 ⟨rfl, b⟩
      have B2 := below_then B1 b
      clear b
      go_wp2_with fail
      refine (hS _).mono ?_
      rintro e w3 ⟨rfl, b⟩
      have B3 := below_then B2 b
      clear b
      go_wp2_with fail
      refine (hP _).mono ?_
      rintro e w4 ⟨rfl, b⟩
      have B4 := below_then B3 b
      clear b
      go_wp2_with fail
      go_ret
      exact ⟨rfl, B4⟩

end Go.Proofs.Ytdnegamminhbfaa
