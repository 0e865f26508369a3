/- The walk of the law FnStands. -/
import Derived.Test.YtdnegamminhbfaaDraw8
import Derived.Test.YtdnegamminhbfaaSolI2
import Derived.Test.YtdnegamminhbfaaSolF
namespace Go.Proofs.Ytdnegamminhbfaa
open Go.RowKit Go.Sort Go.Lib

set_option maxRecDepth 100000 in
set_option maxHeartbeats 4000000 in
theorem fnStands_walk (A0 : Option Addr) (n0 c0 : Nat) (z0 : List Int) (w : World) (h0 : RdB w A0 n0 z0) (k0 : WfL .u8 z0) (q0 : n0 ≤ c0) :
    Calls Try.prog 9 #[.slice A0 n0 c0] w fun e w' => e = .returned (.bool true) ∧ Below w.heap.size w w' := by
  by_cases big : n0 ≤ 1048576
  rotate_left
  · go_enter Try.func9, Try.ntmps9
    go_wp2_with fail
    go_ret
    exact ⟨rfl, Below.refl _ _⟩
  go_enter Try.func9, Try.ntmps9
  go_wp2_with fail
  refine (drawSolidStands_any A0 n0 c0 z0 _ h0 (bytes_of k0) big q0).mono ?_
  rintro e w1 ⟨A, n, c, xs, rfl, r, hn, B1⟩
  have hI := fun W (h : Rd W A n xs) => implSolidStands_any A n c xs W h hn
  have hS := fun W (h : Rd W A n xs) => specSolidStands_any A n c xs W h hn
  cases hs : stdM xs with
  | false =>
    rw [hs] at hI hS
    clear hs hn
    go_wp2_with fail
    refine (hI _ r).mono ?_
    rintro e w2 ⟨rfl, b⟩
    have B2 := below_then B1 b
    replace r := r.same b
    clear b
    go_wp2_with fail
    refine (hS _ r).mono ?_
    rintro e w3 ⟨rfl, b⟩
    have B3 := below_then B2 b
    replace r := r.same b
    clear b
    go_wp2_with fail
    go_ret
    exact ⟨rfl, B3⟩
  | true =>
    have hb : solB xs = true := by unfold stdM at hs; cases hb : solB xs with
      | true => rfl
      | false => rw [hb] at hs; cases hs
    have hsol := sol_of hb
    have hd : stdB xs = true := by rw [← stdM_yes hb]; exact hs
    have hd2 := hd
    unfold stdB at hd2
    rw [Bool.and_eq_true, decide_eq_true_iff, decide_eq_true_iff] at hd2
    have hN := fun W (h : Rd W A n xs) => implSolidNumber_any A n c xs W h hn
    have hF := fun W (h : Rd W A n xs) => implSolidFaces_any A n c xs W h hn
    have hX := fun W (h : Rd W A n xs) => implSolidFirst_any A n c xs W h hn
    rw [numM_yes hb, hb] at hN
    rw [facM_yes hb, hb, hd2.1] at hF
    rw [hb, fsM_yes hb] at hX
    have hT := fun A n c W (h : Rd W A n (fstL xs)) (hn : n ≤ 1048576) => implSolidStands_any A n c (fstL xs) W h hn
    rw [stdM_yes (fst_sol hsol).solB, std_fst hsol, hd] at hT
    rw [hs] at hI hS
    have hz := hd2.2
    generalize numL xs = z at *
    generalize fstL xs = F at *
    have d1 : decide (z > 0) = true := by simpa using hz
    clear hs hd hd2 hz hsol hb
    go_wp2_with fail
    refine (hI _ r).mono ?_
    rintro e w2 ⟨rfl, b⟩
    have B2 := below_then B1 b
    replace r := r.same b
    clear b
    go_wp2_with fail
    refine (hS _ r).mono ?_
    rintro e w3 ⟨rfl, b⟩
    have B3 := below_then B2 b
    replace r := r.same b
    clear b
    go_wp2_with fail
    refine (hN _ r).mono ?_
    rintro e w4 ⟨rfl, b⟩
    have B4 := below_then B3 b
    replace r := r.same b
    clear b
    go_wp2_with fail
    refine (hF _ r).mono ?_
    rintro e w5 ⟨rfl, b⟩
    have B5 := below_then B4 b
    replace r := r.same b
    clear b
    go_wp2_with fail
    refine (hX _ r).mono ?_
    rintro e w6 ⟨A4, n4, c4, rfl, o4, hn4, b⟩
    have B6 := below_then B5 b
    replace r := r.same b
    clear b
    have r4 := o4.rd
    clear o4
    go_wp2_with fail
    refine (hT A4 n4 c4 _ r4 hn4).mono ?_
    rintro e w7 ⟨rfl, b⟩
    have B7 := below_then B6 b
    replace r4 := r4.same b
    clear b
    go_wp2_with fail
    go_ret
    exact ⟨rfl, B7⟩

end Go.Proofs.Ytdnegamminhbfaa
