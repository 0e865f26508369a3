/- The walk of the law FnFaces. -/
import Derived.Test.YtdnegamminhbfaaDraw8
import Derived.Test.YtdnegamminhbfaaSolI2
import Derived.Test.YtdnegamminhbfaaSolF
namespace Go.Proofs.Ytdnegamminhbfaa
open Go.RowKit Go.Sort Go.Lib

theorem three8_any (a b c : Int) (w : World) (ha : 1 ≤ a ∧ a ≤ 12) (hb : 1 ≤ b ∧ b ≤ 12) (hc : 1 ≤ c ∧ c ≤ 12) : Calls Try.prog 49 #[.int .i64 a, .int .i64 b, .int .i64 c] w fun e w' => e = .returned (.bool (triB a b c)) ∧ Below w.heap.size w w' := by
  have h := implThree_any a b c w
  have e : sidesB a b c = triB a b c := by
    unfold sidesB
    rw [inB_mk (by omega) (by omega), inB_mk (by omega) (by omega), inB_mk (by omega) (by omega)]
    rfl
  rwa [e] at h

set_option maxRecDepth 100000 in
set_option maxHeartbeats 4000000 in
theorem fnFaces_walk (A0 : Option Addr) (n0 c0 : Nat) (z0 : List Int) (w : World) (h0 : RdB w A0 n0 z0) (k0 : WfL .u8 z0) (q0 : n0 ≤ c0) :
    Calls Try.prog 8 #[.slice A0 n0 c0] w fun e w' => e = .returned (.bool true) ∧ Below w.heap.size w w' := by
  by_cases big : n0 ≤ 1048576
  rotate_left
  · go_enter Try.func8, Try.ntmps8
    go_wp2_with fail
    go_ret
    exact ⟨rfl, Below.refl _ _⟩
  go_enter Try.func8, Try.ntmps8
  go_wp2_with fail
  refine (drawSolidFaces_any A0 n0 c0 z0 _ h0 (bytes_of k0) big q0).mono ?_
  rintro e w1 ⟨A, n, c, xs, rfl, r, hn, B1⟩
  have hI := fun W (h : Rd W A n xs) => implSolidFaces_any A n c xs W h hn
  have hS := fun W (h : Rd W A n xs) => specSolidFaces_any A n c xs W h hn
  cases hb : solB xs with
  | false =>
    rw [facM_no hb, hb] at hI hS
    clear hb hn
    go_wp2_with fail
    refine (hI _ r).mono ?_
    rintro e w2 ⟨rfl, b⟩
    have B2 := below_then B1 b
    replace r := r.same b
    clear b
    go_wp2_with fail
    refine (hS _ r).mono ?_
    rintro e w3 ⟨rfl, b⟩
    have B3 := below_then B2 b
    replace r := r.same b
    clear b
    go_wp2_with fail
    go_ret
    exact ⟨rfl, B3⟩
  | true =>
    have hsol := sol_of hb
    obtain rfl : n = 6 := by rw [← r.1, hsol.len]
    have hX := fun W (h : Rd W A 6 xs) => implSolidFirst_any A 6 c xs W h hn
    have hF := fun A n c W (h : Rd W A n (fstL xs)) (hn : n ≤ 1048576) => implSolidFaces_any A n c (fstL xs) W h hn
    rw [facM_yes (fst_sol hsol).solB, (fst_sol hsol).solB, fac_fst hsol] at hF
    rw [facM_yes hb, hb] at hI hS
    rw [hb, fsM_yes hb] at hX
    have h4 := fac_four xs
    have hbd := fac_bd xs
    have q := fun i (hi : i < 6) => hsol.at_ hi
    have k1 := fun W => three8_any (xs.getD 0 0) (xs.getD 1 0) (xs.getD 3 0) W (q 0 (by omega)) (q 1 (by omega)) (q 3 (by omega))
    have k2 := fun W => three8_any (xs.getD 0 0) (xs.getD 2 0) (xs.getD 4 0) W (q 0 (by omega)) (q 2 (by omega)) (q 4 (by omega))
    have k3 := fun W => three8_any (xs.getD 1 0) (xs.getD 2 0) (xs.getD 5 0) W (q 1 (by omega)) (q 2 (by omega)) (q 5 (by omega))
    have k4 := fun W => three8_any (xs.getD 3 0) (xs.getD 4 0) (xs.getD 5 0) W (q 3 (by omega)) (q 4 (by omega)) (q 5 (by omega))
    generalize triB (xs.getD 0 0) (xs.getD 1 0) (xs.getD 3 0) = t1 at *
    generalize triB (xs.getD 0 0) (xs.getD 2 0) (xs.getD 4 0) = t2 at *
    generalize triB (xs.getD 1 0) (xs.getD 2 0) (xs.getD 5 0) = t3 at *
    generalize triB (xs.getD 3 0) (xs.getD 4 0) (xs.getD 5 0) = t4 at *
    generalize facL xs = o at *
    generalize fstL xs = F at *
    obtain ⟨x0, x1, x2, x3, x4, x5, rfl⟩ := six_of hsol.len
    simp only [List.getD_cons_zero, List.getD_cons_succ] at k1 k2 k3 k4
    have H4 := Lib.hid h4
    have d1 : decide (o ≥ 0) = true := by simpa using hbd.1
    have d2 : decide (o ≤ 4) = true := by simpa using hbd.2
    clear q hsol hb h4
    go_wp2_with fail
    refine (hI _ r).mono ?_
    rintro e w2 ⟨rfl, b⟩
    have B2 := below_then B1 b
    replace r := r.same b
    clear b
    go_wp2_with fail
    refine (hS _ r).mono ?_
    rintro e w3 ⟨rfl, b⟩
    have B3 := below_then B2 b
    replace r := r.same b
    clear b
    go_wp2_with fail
    refine (hX _ r).mono ?_
    rintro e w4 ⟨A4, n4, c4, rfl, o4, hn4, b⟩
    have B4 := below_then B3 b
    replace r := r.same b
    clear b
    have r4 := o4.rd
    clear o4
    go_wp2_with fail
    refine (hF A4 n4 c4 _ r4 hn4).mono ?_
    rintro e w5 ⟨rfl, b⟩
    have B5 := below_then B4 b
    replace r := r.same b
    clear b
    clear r4
    obtain ⟨gb, off, rfl, hgb, e0, e1, e2, e3, e4, e5⟩ := sol_cells r
    have z0 := cell_regrown e0
    have z1 := cell_regrown e1
    have z2 := cell_regrown e2
    have z3 := cell_regrown e3
    have z4 := cell_regrown e4
    have z5 := cell_regrown e5
    have cA : ∀ d os, Calls Try.prog 49 #[.int .i64 x0, .int .i64 x1, .int .i64 x3] (grow (redrawn w5 d) os) fun e w'' => e = .returned (.bool t1) ∧ ∃ p : Regrown, w'' = grow (redrawn w5 p.d) p.os := fun d os => Calls.regrown_of (k1 _)
    have cB : ∀ d os, Calls Try.prog 49 #[.int .i64 x0, .int .i64 x2, .int .i64 x4] (grow (redrawn w5 d) os) fun e w'' => e = .returned (.bool t2) ∧ ∃ p : Regrown, w'' = grow (redrawn w5 p.d) p.os := fun d os => Calls.regrown_of (k2 _)
    have cC : ∀ d os, Calls Try.prog 49 #[.int .i64 x1, .int .i64 x2, .int .i64 x5] (grow (redrawn w5 d) os) fun e w'' => e = .returned (.bool t3) ∧ ∃ p : Regrown, w'' = grow (redrawn w5 p.d) p.os := fun d os => Calls.regrown_of (k3 _)
    have cD : ∀ d os, Calls Try.prog 49 #[.int .i64 x3, .int .i64 x4, .int .i64 x5] (grow (redrawn w5 d) os) fun e w'' => e = .returned (.bool t4) ∧ ∃ p : Regrown, w'' = grow (redrawn w5 p.d) p.os := fun d os => Calls.regrown_of (k4 _)
    clear r e0 e1 e2 e3 e4 e5 k1 k2 k3 k4 hX hF hI hS
    go_wp2_with fail
    cases t1 with
    | false =>
      have d3 : (o == 4) = false := by have := H4.out; simpa using this
      refine wp_region_quiet_below (by kernel_rfl) (by kernel_rfl) ?_
      repeat (go_big_quiet_step (first | with_reducible exact cA _ _ | with_reducible exact cB _ _ | with_reducible exact cC _ _ | with_reducible exact cD _ _))
      refine wpQuiet_nil ?_
      intro _ hw'
      obtain ⟨⟨dq, osq⟩, hw''⟩ := hw'
      subst hw''
      have bq := below_regrown w5 dq osq
      generalize Go.Sort.grow (redrawn w5 dq) osq = wq at bq ⊢
      go_wp2_with fail
      go_ret
      exact ⟨rfl, below_then B5 bq⟩
    | true =>
      cases t2 with
      | false =>
        have d3 : (o == 4) = false := by have := H4.out; simpa using this
        refine wp_region_quiet_below (by kernel_rfl) (by kernel_rfl) ?_
        repeat (go_big_quiet_step (first | with_reducible exact cA _ _ | with_reducible exact cB _ _ | with_reducible exact cC _ _ | with_reducible exact cD _ _))
        refine wpQuiet_nil ?_
        intro _ hw'
        obtain ⟨⟨dq, osq⟩, hw''⟩ := hw'
        subst hw''
        have bq := below_regrown w5 dq osq
        generalize Go.Sort.grow (redrawn w5 dq) osq = wq at bq ⊢
        go_wp2_with fail
        go_ret
        exact ⟨rfl, below_then B5 bq⟩
      | true =>
        cases t3 with
        | false =>
          have d3 : (o == 4) = false := by have := H4.out; simpa using this
          refine wp_region_quiet_below (by kernel_rfl) (by kernel_rfl) ?_
          repeat (go_big_quiet_step (first | with_reducible exact cA _ _ | with_reducible exact cB _ _ | with_reducible exact cC _ _ | with_reducible exact cD _ _))
          refine wpQuiet_nil ?_
          intro _ hw'
          obtain ⟨⟨dq, osq⟩, hw''⟩ := hw'
          subst hw''
          have bq := below_regrown w5 dq osq
          generalize Go.Sort.grow (redrawn w5 dq) osq = wq at bq ⊢
          go_wp2_with fail
          go_ret
          exact ⟨rfl, below_then B5 bq⟩
        | true =>
          cases t4 with
          | false =>
            have d3 : (o == 4) = false := by have := H4.out; simpa using this
            refine wp_region_quiet_below (by kernel_rfl) (by kernel_rfl) ?_
            repeat (go_big_quiet_step (first | with_reducible exact cA _ _ | with_reducible exact cB _ _ | with_reducible exact cC _ _ | with_reducible exact cD _ _))
            refine wpQuiet_nil ?_
            intro _ hw'
            obtain ⟨⟨dq, osq⟩, hw''⟩ := hw'
            subst hw''
            have bq := below_regrown w5 dq osq
            generalize Go.Sort.grow (redrawn w5 dq) osq = wq at bq ⊢
            go_wp2_with fail
            go_ret
            exact ⟨rfl, below_then B5 bq⟩
          | true =>
            have d3 : (o == 4) = true := by have := H4.out; simpa using this
            refine wp_region_quiet_below (by kernel_rfl) (by kernel_rfl) ?_
            repeat (go_big_quiet_step (first | with_reducible exact cA _ _ | with_reducible exact cB _ _ | with_reducible exact cC _ _ | with_reducible exact cD _ _))
            refine wpQuiet_nil ?_
            intro _ hw'
            obtain ⟨⟨dq, osq⟩, hw''⟩ := hw'
            subst hw''
            have bq := below_regrown w5 dq osq
            generalize Go.Sort.grow (redrawn w5 dq) osq = wq at bq ⊢
            go_wp2_with fail
            go_ret
            exact ⟨rfl, below_then B5 bq⟩

end Go.Proofs.Ytdnegamminhbfaa
