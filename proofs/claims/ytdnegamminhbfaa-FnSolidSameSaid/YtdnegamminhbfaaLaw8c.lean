/- The walk of the law FnSolidSame. -/
import Derived.Test.YtdnegamminhbfaaDraw8
import Derived.Test.YtdnegamminhbfaaSolI2
import Derived.Test.YtdnegamminhbfaaSolG
import Derived.Test.YtdnegamminhbfaaSolS4
namespace Go.Proofs.Ytdnegamminhbfaa
open Go.RowKit Go.Sort Go.Lib

set_option maxRecDepth 100000 in
set_option maxHeartbeats 4000000 in
theorem fnSolidSame_walk (A0 : Option Addr) (n0 c0 : Nat) (z0 : List Int) (w : World) (h0 : RdB w A0 n0 z0) (k0 : WfL .u8 z0) (q0 : n0 ≤ c0) :
    Calls Try.prog 12 #[.slice A0 n0 c0] w fun e w' => e = .returned (.bool true) ∧ Below w.heap.size w w' := by
  by_cases big : n0 ≤ 1048576
  rotate_left
  · go_enter Try.func12, Try.ntmps12
    go_wp2_with fail
    go_ret
    exact ⟨rfl, Below.refl _ _⟩
  go_enter Try.func12, Try.ntmps12
  go_wp2_with fail
  refine (drawSolidSame_any A0 n0 c0 z0 _ h0 (bytes_of k0) big q0).mono ?_
  rintro e w1 ⟨A, n, c, xs, A1, n1, c1, ys, rfl, r, hn, s, hn1, B1⟩
  have hI := fun W (h : Rd W A n xs) (k : Rd W A1 n1 ys) => implSolidSame_any A n c xs A1 n1 c1 ys W h hn k hn1
  have hS := fun W (h : Rd W A n xs) (k : Rd W A1 n1 ys) => specSolidSame_any A n c xs A1 n1 c1 ys W h hn k hn1
  cases hb : samB xs ys with
  | false =>
    rw [hb] at hI hS
    clear hb
    go_wp2_with fail
    refine (hI _ r s).mono ?_
    rintro e w2 ⟨rfl, b⟩
    have B2 := below_then B1 b
    replace r := r.same b
    replace s := s.same b
    clear b
    go_wp2_with fail
    refine (hS _ r s).mono ?_
    rintro e w3 ⟨rfl, b⟩
    have B3 := below_then B2 b
    replace r := r.same b
    replace s := s.same b
    clear b
    go_wp2_with fail
    go_ret
    exact ⟨rfl, B3⟩
  | true =>
    have h1 : solB xs = true := by cases h : solB xs with
      | true => rfl
      | false => rw [samB_no1' h] at hb; cases hb
    have h2 : solB ys = true := by cases h : solB ys with
      | true => rfl
      | false => rw [samB_no2' h] at hb; cases hb
    have hf : fstL xs = fstL ys := by rw [samB_yes h1 h2] at hb; exact of_decide_eq_true hb
    have hN := fun W (h : Rd W A n xs) => implSolidNumber_any A n c xs W h hn
    have hM := fun W (h : Rd W A1 n1 ys) => implSolidNumber_any A1 n1 c1 ys W h hn1
    have hT := fun W (h : Rd W A n xs) => implSolidStands_any A n c xs W h hn
    have hU := fun W (h : Rd W A1 n1 ys) => implSolidStands_any A1 n1 c1 ys W h hn1
    have hB := fun W (h : Rd W A n xs) (k : Rd W A1 n1 ys) => implSolidSame_any A1 n1 c1 ys A n c xs W k hn1 h hn
    rw [samB_yes h2 h1, decide_eq_true hf.symm] at hB
    rw [numM_yes h1, h1, ← num_fst (sol_of h1), hf, num_fst (sol_of h2)] at hN
    rw [numM_yes h2, h2] at hM
    rw [stdM_yes h1, ← std_fst (sol_of h1), hf, std_fst (sol_of h2)] at hT
    rw [stdM_yes h2] at hU
    rw [hb] at hI hS
    generalize numL ys = z at *
    generalize stdB ys = t at *
    clear hf h1 h2 hb
    go_wp2_with fail
    refine (hI _ r s).mono ?_
    rintro e w2 ⟨rfl, b⟩
    have B2 := below_then B1 b
    replace r := r.same b
    replace s := s.same b
    clear b
    go_wp2_with fail
    refine (hS _ r s).mono ?_
    rintro e w3 ⟨rfl, b⟩
    have B3 := below_then B2 b
    replace r := r.same b
    replace s := s.same b
    clear b
    go_wp2_with fail
    refine (hN _ r).mono ?_
    rintro e w4 ⟨rfl, b⟩
    have B4 := below_then B3 b
    replace r := r.same b
    replace s := s.same b
    clear b
    go_wp2_with fail
    refine (hM _ s).mono ?_
    rintro e w5 ⟨rfl, b⟩
    have B5 := below_then B4 b
    replace r := r.same b
    replace s := s.same b
    clear b
    go_wp2_with fail
    refine (hB _ r s).mono ?_
    rintro e w6 ⟨rfl, b⟩
    have B6 := below_then B5 b
    replace r := r.same b
    replace s := s.same b
    clear b
    go_wp2_with fail
    refine (hT _ r).mono ?_
    rintro e w7 ⟨rfl, b⟩
    have B7 := below_then B6 b
    replace r := r.same b
    replace s := s.same b
    clear b
    go_wp2_with fail
    refine (hU _ s).mono ?_
    rintro e w8 ⟨rfl, b⟩
    have B8 := below_then B7 b
    replace r := r.same b
    replace s := s.same b
    clear b
    go_wp2_with fail
    go_ret
    exact ⟨ret_b (by cases t <;> rfl), B8⟩

end Go.Proofs.Ytdnegamminhbfaa
