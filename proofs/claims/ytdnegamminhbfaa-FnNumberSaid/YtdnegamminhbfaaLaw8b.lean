/- The walk of the law FnNumber. -/
import Derived.Test.YtdnegamminhbfaaDraw8
import Derived.Test.YtdnegamminhbfaaSolI2
import Derived.Test.YtdnegamminhbfaaSolN3
namespace Go.Proofs.Ytdnegamminhbfaa
open Go.RowKit Go.Sort Go.Lib

set_option maxRecDepth 100000 in
set_option maxHeartbeats 4000000 in
theorem fnNumber_walk (A0 : Option Addr) (n0 c0 : Nat) (z0 : List Int) (w : World) (h0 : RdB w A0 n0 z0) (k0 : WfL .u8 z0) (q0 : n0 ≤ c0) :
    Calls Try.prog 6 #[.slice A0 n0 c0] w fun e w' => e = .returned (.bool true) ∧ Below w.heap.size w w' := by
  by_cases big : n0 ≤ 1048576
  rotate_left
  · go_enter Try.func6, Try.ntmps6
    go_wp2_with fail
    go_ret
    exact ⟨rfl, Below.refl _ _⟩
  go_enter Try.func6, Try.ntmps6
  go_wp2_with fail
  refine (drawSolidNumber_any A0 n0 c0 z0 _ h0 (bytes_of k0) big q0).mono ?_
  rintro e w1 ⟨A, n, c, xs, rfl, r, hn, B1⟩
  have hI := fun W (h : Rd W A n xs) => implSolidNumber_any A n c xs W h hn
  have hS := fun W (h : Rd W A n xs) => specSolidNumber_any A n c xs W h hn
  cases hb : solB xs with
  | false =>
    rw [numM_no hb, hb] at hI hS
    clear hb hn
    go_wp2_with fail
    refine (hI _ r).mono ?_
    rintro e w2 ⟨rfl, b⟩
    have B2 := below_then B1 b
    replace r := r.same b
    clear b
    go_wp2_with fail
    refine (hS _ r).mono ?_
    rintro e w3 ⟨rfl, b⟩
    have B3 := below_then B2 b
    replace r := r.same b
    clear b
    go_wp2_with fail
    go_ret
    exact ⟨rfl, B3⟩
  | true =>
    have hsol := sol_of hb
    rw [numM_yes hb, hb] at hI hS
    have hX := fun A1 W (h : Rd W A n xs) (h1 : Rd W A1 4 [1, 2, 3, 0]) => implSolidNamed_any A n c xs A1 4 4 [1, 2, 3, 0] W h hn h1 (by omega)
    have hY := fun A1 W (h : Rd W A n xs) (h1 : Rd W A1 4 [0, 2, 1, 3]) => implSolidNamed_any A n c xs A1 4 4 [0, 2, 1, 3] W h hn h1 (by omega)
    have e1 : namB xs [1, 2, 3, 0] = true := namB_yes hb (by decide)
    have e2 : namB xs [0, 2, 1, 3] = true := namB_yes hb (by decide)
    have p1 := plcC_mem (show cornB [1, 2, 3, 0] = true by decide)
    have p2 := plcC_mem (show cornB [0, 2, 1, 3] = true by decide)
    rw [e1, namM_yes e1] at hX
    rw [e2, namM_yes e2] at hY
    have hU := fun A n c W (h : Rd W A n (nmd (plcC [1, 2, 3, 0]) xs)) (hn : n ≤ 1048576) => implSolidNumber_any A n c _ W h hn
    have hV := fun A n c W (h : Rd W A n (nmd (plcC [0, 2, 1, 3]) xs)) (hn : n ≤ 1048576) => implSolidNumber_any A n c _ W h hn
    rw [numM_yes (nmd_sol p1 hsol).solB, (nmd_sol p1 hsol).solB, num_named hsol p1] at hU
    rw [numM_yes (nmd_sol p2 hsol).solB, (nmd_sol p2 hsol).solB, num_named hsol p2] at hV
    generalize numL xs = z at *
    generalize nmd (plcC [1, 2, 3, 0]) xs = P at *
    generalize nmd (plcC [0, 2, 1, 3]) xs = Q at *
    clear e1 e2 p1 p2 hsol hb
    go_wp2_with fail
    refine (hI _ r).mono ?_
    rintro e w2 ⟨rfl, b⟩
    have B2 := below_then B1 b
    replace r := r.same b
    clear b
    go_wp2_with fail
    refine (hS _ r).mono ?_
    rintro e w3 ⟨rfl, b⟩
    have B3 := below_then B2 b
    replace r := r.same b
    clear b
    have l1 := (Own.lit w3 (Nat.le_refl _) [1, 2, 3, 0] (by simp)).rd
    have B3' := below_alloc B3 (.cells (ints [1, 2, 3, 0]).toArray 3)
    replace r := r.al (.cells (ints [1, 2, 3, 0]).toArray 3)
    clear B3
    go_wp2_with fail
    refine (hX _ _ r l1).mono ?_
    rintro e w4 ⟨A4, n4, c4, rfl, o4, hn4, b⟩
    have B4 := below_then B3' b
    replace r := r.same b
    have r4 := o4.rd
    clear b o4 l1 B3'
    have l2 := (Own.lit w4 (Nat.le_refl _) [0, 2, 1, 3] (by simp)).rd
    have B4' := below_alloc B4 (.cells (ints [0, 2, 1, 3]).toArray 3)
    replace r := r.al (.cells (ints [0, 2, 1, 3]).toArray 3)
    replace r4 := r4.al (.cells (ints [0, 2, 1, 3]).toArray 3)
    clear B4
    go_wp2_with fail
    refine (hY _ _ r l2).mono ?_
    rintro e w5 ⟨A5, n5, c5, rfl, o5, hn5, b⟩
    have B5 := below_then B4' b
    replace r4 := r4.same b
    have r5 := o5.rd
    clear b o5 l2 B4'
    go_wp2_with fail
    refine (hU A4 n4 c4 _ r4 hn4).mono ?_
    rintro e w6 ⟨rfl, b⟩
    have B6 := below_then B5 b
    replace r4 := r4.same b
    replace r5 := r5.same b
    clear b
    go_wp2_with fail
    refine (hV A5 n5 c5 _ r5 hn5).mono ?_
    rintro e w7 ⟨rfl, b⟩
    have B7 := below_then B6 b
    replace r4 := r4.same b
    replace r5 := r5.same b
    clear b
    go_wp2_with fail
    go_ret
    exact ⟨rfl, B7⟩

end Go.Proofs.Ytdnegamminhbfaa
