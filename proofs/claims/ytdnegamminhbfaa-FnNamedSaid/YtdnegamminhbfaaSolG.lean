/- Contracts of the program's functions of chapter 8: solids compared, SolidSame. -/
import Derived.Test.YtdnegamminhbfaaSolF
import Derived.Stop.BytesEq
import Derived.ChangeKeysEq
namespace Go.Proofs.Ytdnegamminhbfaa
open Go.RowKit Go.Sort Go.Lib

theorem all_eqI : ∀ xs ys : List Int, xs.length = ys.length → ((List.range xs.length).all fun i => xs.getD i 0 == ys.getD i 0) = decide (xs = ys)
  | [], [], _ => rfl
  | x :: xs, y :: ys, h => by
    rw [List.length_cons, List.range_succ_eq_map, List.all_cons, List.all_map]
    have := all_eqI xs ys (by simpa using h)
    simp only [Function.comp_def, List.getD_cons_succ, List.getD_cons_zero, this]
    rw [Bool.eq_iff_iff]; simp
  | [], _ :: _, h => by simp at h
  | _ :: _, [], h => by simp at h
theorem run_equalIn_sol (w : World) (d : Nat) (xs ys : List Int) (hx : xs.length = 6) (hy : ys.length = 6) :
    (Op.equalIn (d + 2) 81 (.agg (ints xs).toArray) (.agg (ints ys).toArray)).run Try.prog w = .ok (decide (xs = ys)) w := by
  have he := Try.underlying3
  have hsz : ∀ w, (sizeOf 3).run Try.prog w = .ok 1 w := fun w => by kernel_rfl
  rw [← all_eqI xs ys (hx.trans hy.symm), hx, List.range_eq_range', Op.equalIn]
  simp only [Sem.run_bind, run_underlying Try.underlying81, Result.andThen_ok, hsz, Std.Legacy.Range.forIn_eq_forIn_range', Std.Legacy.Range.size, Nat.sub_zero, Nat.add_sub_cancel, Nat.div_one]
  have hl : ∀ i ∈ List.range' 0 6 1, i < 6 := fun i hi => by simpa using (List.mem_range'_1.1 hi).2
  generalize List.range' 0 6 1 = l at hl ⊢
  induction l with
  | nil => simp
  | cons i l ih =>
    have hi : i < 6 := hl i (by simp)
    have px : (part 3 (ints xs).toArray (i * 1)).run Try.prog w = .ok (.int .i64 (xs.getD i 0)) w := by
      simp [part, isAgg, run_underlying he, List.getD, List.getElem?_eq_getElem (show i < xs.length by omega)]
    have py : (part 3 (ints ys).toArray (i * 1)).run Try.prog w = .ok (.int .i64 (ys.getD i 0)) w := by
      simp [part, isAgg, run_underlying he, List.getD, List.getElem?_eq_getElem (show i < ys.length by omega)]
    have pe := run_equalIn_int (P := Try.prog) w d 3 .i64 .i64 (xs.getD i 0) (ys.getD i 0) he
    simp only [List.forIn_cons, Sem.run_bind, px, py, pe, Result.andThen_ok, List.all_cons]
    cases hb : (xs.getD i 0 == ys.getD i 0)
    · simp
    · simp only [Bool.not_true, Bool.false_eq_true, if_false, Sem.run_pure, Result.andThen_ok, Bool.true_and]
      exact ih fun j hj => hl j (by simp [hj])
theorem run_eql_sol (w : World) (xs ys : List Int) (hx : xs.length = 6) (hy : ys.length = 6) :
    (binOp .eql 81 (.agg (ints xs).toArray) (.agg (ints ys).toArray)).run Try.prog w = .ok (.bool (decide (xs = ys))) w := by
  rw [run_eql_struct, run_equalIn_sol w 9998 xs ys hx hy]
  rfl
theorem run_eqGuard_sol (w : World) (x y : Operand) (xs ys : Array Value) : (eqGuard .eql 81 x y (.agg xs) (.agg ys)).run Try.prog w = .ok () w := run_eqGuard_agg w .eql _ x y xs ys (by kernel_rfl)

theorem samB_no1' {xs ys : List Int} (h : solB xs = false) : samB xs ys = false := by unfold samB; rw [h]; rfl
theorem samB_no2' {xs ys : List Int} (h : solB ys = false) : samB xs ys = false := by unfold samB; rw [h]; simp
theorem samB_yes {xs ys : List Int} (h1 : solB xs = true) (h2 : solB ys = true) : samB xs ys = decide (fstL xs = fstL ys) := by unfold samB; rw [h1, h2, Bool.true_and, Bool.true_and]

set_option maxRecDepth 100000 in
set_option maxHeartbeats 4000000 in
theorem implSolidSame_any (A : Option Addr) (n c : Nat) (xs : List Int) (A1 : Option Addr) (n1 c1 : Nat) (ys : List Int) (w : World) (h : Rd w A n xs) (hn : n ≤ 1048576) (h1 : Rd w A1 n1 ys) (hn1 : n1 ≤ 1048576) :
    Calls Try.prog 56 #[.slice A n c, .slice A1 n1 c1] w fun e w' => e = .returned (.bool (samB xs ys)) ∧ Below w.heap.size w w' := by
  cases hb : solB xs with
  | false =>
    have HM := Lib.hid (samB_no1' (ys := ys) hb)
    have hS := solidOf_no (c := c) h hn hb
    have hK : ∀ W, Below w.heap.size w W → ∃ y0 y1 y2 y3 y4 y5 t, Calls Try.prog 93 #[.slice A1 n1 c1] W fun e w' => e = .returned (.tuple #[sixV y0 y1 y2 y3 y4 y5, .bool t]) ∧ Below W.heap.size W w' := fun W hW => by
      cases hb1 : solB ys with
      | true =>
        obtain ⟨y0, y1, y2, y3, y4, y5, ey⟩ := six_of (sol_of hb1).len
        exact ⟨_, _, _, _, _, _, _, solidOf_yes (c := c1) (ey ▸ (h1.same hW)) hn1 (ey ▸ hb1)⟩
      | false => exact ⟨_, _, _, _, _, _, _, solidOf_no (c := c1) (h1.same hW) hn1 hb1⟩
    clear hb h h1
    go_enter Try.func56, Try.ntmps56
    go_wp2_with fail
    refine hS.mono ?_
    rintro e w1 ⟨rfl, b1⟩
    have b2 := below_alloc b1 (.cells #[.int .i64 0, .int .i64 0, .int .i64 0, .int .i64 0, .int .i64 0, .int .i64 0] 81)
    obtain ⟨y0, y1, y2, y3, y4, y5, t, hQ⟩ := hK _ b2
    clear hS hK
    go_wp2_with fail
    refine hQ.mono ?_
    rintro e w3 ⟨rfl, b3⟩
    have b4 := below_alloc (below_then b2 b3) (.cells #[.int .i64 y0, .int .i64 y1, .int .i64 y2, .int .i64 y3, .int .i64 y4, .int .i64 y5] 81)
    obtain ⟨W4, hW4⟩ : ∃ W4, W4 = w3.alloc (sixO y0 y1 y2 y3 y4 y5) := ⟨_, rfl⟩
    go_wp2_with fail
    change Code.wp _ _ _ _ (w3.alloc (sixO y0 y1 y2 y3 y4 y5))
    rw [← hW4]
    rw [← hW4] at b4
    have HB4 := Lib.hid b4
    clear hW4 b2 b3 b1 hQ b4
    refine wp_region_quiet_below (by kernel_rfl) (by kernel_rfl) ?_
    repeat (go_big_quiet_step (fail))
    refine wpQuiet_nil ?_
    intro _ hw'
    obtain ⟨⟨dq, osq⟩, hw''⟩ := hw'
    subst hw''
    have bq := below_regrown W4 dq osq
    generalize Go.Sort.grow (redrawn W4 dq) osq = wq at bq ⊢
    go_wp2_with fail
    go_ret
    exact ⟨ret_b HM.out.symm, below_then HB4.out bq⟩
  | true =>
    have hs := sol_of hb
    obtain ⟨x0, x1, x2, x3, x4, x5, ex⟩ := six_of hs.len
    have hS := solidOf_yes (c := c) (ex ▸ h) hn (ex ▸ hb)
    cases hb1 : solB ys with
    | false =>
      have HM := Lib.hid (samB_no2' (xs := xs) hb1)
      have hK := fun W (hW : Below w.heap.size w W) => solidOf_no (c := c1) (h1.same hW) hn1 hb1
      clear hs hb h ex h1 hb1
      go_enter Try.func56, Try.ntmps56
      go_wp2_with fail
      refine hS.mono ?_
      rintro e w1 ⟨rfl, b1⟩
      have b2 := below_alloc b1 (.cells #[.int .i64 x0, .int .i64 x1, .int .i64 x2, .int .i64 x3, .int .i64 x4, .int .i64 x5] 81)
      have hQ := hK _ b2
      clear hS hK
      go_wp2_with fail
      refine hQ.mono ?_
      rintro e w3 ⟨rfl, b3⟩
      have b4 := below_alloc (below_then b2 b3) (.cells #[.int .i64 0, .int .i64 0, .int .i64 0, .int .i64 0, .int .i64 0, .int .i64 0] 81)
      obtain ⟨W4, hW4⟩ : ∃ W4, W4 = w3.alloc (sixO 0 0 0 0 0 0) := ⟨_, rfl⟩
      go_wp2_with fail
      change Code.wp _ _ _ _ (w3.alloc (sixO 0 0 0 0 0 0))
      rw [← hW4]
      rw [← hW4] at b4
      have HB4 := Lib.hid b4
      clear hW4 b2 b3 b1 hQ b4
      refine wp_region_quiet_below (by kernel_rfl) (by kernel_rfl) ?_
      repeat (go_big_quiet_step (fail))
      refine wpQuiet_nil ?_
      intro _ hw'
      obtain ⟨⟨dq, osq⟩, hw''⟩ := hw'
      subst hw''
      have bq := below_regrown W4 dq osq
      generalize Go.Sort.grow (redrawn W4 dq) osq = wq at bq ⊢
      go_wp2_with fail
      go_ret
      exact ⟨ret_b HM.out.symm, below_then HB4.out bq⟩
    | true =>
      have hs1 := sol_of hb1
      have HM := Lib.hid (samB_yes hb hb1)
      obtain ⟨y0, y1, y2, y3, y4, y5, ey⟩ := six_of hs1.len
      have hK := fun W (hW : Below w.heap.size w W) => solidOf_yes (c := c1) (ey ▸ (h1.same hW)) hn1 (ey ▸ hb1)
      have hN := fun W => first_any x0 x1 x2 x3 x4 x5 W (ex ▸ hs)
      have hN1 := fun W => first_any y0 y1 y2 y3 y4 y5 W (ey ▸ hs1)
      obtain ⟨f0, f1, f2, f3, f4, f5, ef⟩ := six_of (fst_sol hs).len
      obtain ⟨g0, g1, g2, g3, g4, g5, eg⟩ := six_of (fst_sol hs1).len
      rw [← ex, ef] at hN
      rw [← ey, eg] at hN1
      rw [ef, eg] at HM
      have hE := fun W => run_eql_sol W [f0, f1, f2, f3, f4, f5] [g0, g1, g2, g3, g4, g5] rfl rfl
      obtain ⟨q, hq⟩ : ∃ q, q = decide (([f0, f1, f2, f3, f4, f5] : List Int) = [g0, g1, g2, g3, g4, g5]) := ⟨_, rfl⟩
      rw [← hq] at hE HM
      have hE' : ∀ W, (binOp .eql 81 (sixV f0 f1 f2 f3 f4 f5) (sixV g0 g1 g2 g3 g4 g5)).run Try.prog W = .ok (.bool q) W := hE
      have hG := fun W x y => run_eqGuard_sol W x y #[.int .i64 f0, .int .i64 f1, .int .i64 f2, .int .i64 f3, .int .i64 f4, .int .i64 f5] #[.int .i64 g0, .int .i64 g1, .int .i64 g2, .int .i64 g3, .int .i64 g4, .int .i64 g5]
      have hN' : ∀ W, Calls Try.prog 107 #[sixV x0 x1 x2 x3 x4 x5] W fun e w' => e = .returned (sixV f0 f1 f2 f3 f4 f5) ∧ Below W.heap.size W w' := hN
      have hN1' : ∀ W, Calls Try.prog 107 #[sixV y0 y1 y2 y3 y4 y5] W fun e w' => e = .returned (sixV g0 g1 g2 g3 g4 g5) ∧ Below W.heap.size W w' := hN1
      rw [HM.out]
      clear hs hb h ex h1 hb1 hs1 ey hN hN1 ef eg hE hq
      go_enter Try.func56, Try.ntmps56
      go_wp2_with fail
      refine hS.mono ?_
      rintro e w1 ⟨rfl, b1⟩
      have s2 := six_new w1 x0 x1 x2 x3 x4 x5
      have b2 := below_alloc b1 (.cells #[.int .i64 x0, .int .i64 x1, .int .i64 x2, .int .i64 x3, .int .i64 x4, .int .i64 x5] 81)
      have hQ := hK _ b2
      clear hS hK
      go_wp2_with fail
      refine hQ.mono ?_
      rintro e w3 ⟨rfl, b3⟩
      have s3 := (s2.same b3).same (below_alloc (Below.refl _ _) (sixO y0 y1 y2 y3 y4 y5))
      have s4 := six_new w3 y0 y1 y2 y3 y4 y5
      have b4 := below_alloc (below_then b2 b3) (.cells #[.int .i64 y0, .int .i64 y1, .int .i64 y2, .int .i64 y3, .int .i64 y4, .int .i64 y5] 81)
      go_wp2_with fail
      change Code.wp _ _ _ _ (w3.alloc (sixO y0 y1 y2 y3 y4 y5))
      generalize hW4 : w3.alloc (sixO y0 y1 y2 y3 y4 y5) = W4 at *
      obtain ⟨c0, c1', c2, c3, c4, c5, _⟩ := s3.cells
      obtain ⟨d0, d1, d2, d3, d4, d5, _⟩ := s4.cells
      have z0 := cell_regrown c0
      have z1 := cell_regrown c1'
      have z2 := cell_regrown c2
      have z3 := cell_regrown c3
      have z4 := cell_regrown c4
      have z5 := cell_regrown c5
      have u0 := cell_regrown d0
      have u1 := cell_regrown d1
      have u2 := cell_regrown d2
      have u3 := cell_regrown d3
      have u4 := cell_regrown d4
      have u5 := cell_regrown d5
      have cA : ∀ d os, Calls Try.prog 107 #[sixV x0 x1 x2 x3 x4 x5] (grow (redrawn W4 d) os) fun e w'' => e = .returned (sixV f0 f1 f2 f3 f4 f5) ∧ ∃ p : Regrown, w'' = grow (redrawn W4 p.d) p.os := fun d os => Calls.regrown_of (hN' _)
      have cB : ∀ d os, Calls Try.prog 107 #[sixV y0 y1 y2 y3 y4 y5] (grow (redrawn W4 d) os) fun e w'' => e = .returned (sixV g0 g1 g2 g3 g4 g5) ∧ ∃ p : Regrown, w'' = grow (redrawn W4 p.d) p.os := fun d os => Calls.regrown_of (hN1' _)
      have HB4 := Lib.hid b4
      clear hW4 b2 b3 b1 hQ b4 s2 s3 s4 c0 c1' c2 c3 c4 c5 d0 d1 d2 d3 d4 d5 hN' hN1'
      refine wp_region_quiet_below (by kernel_rfl) (by kernel_rfl) ?_
      repeat (go_big_quiet_step (first | with_reducible exact cA _ _ | with_reducible exact cB _ _))
      refine wpQuiet_nil ?_
      intro _ hw'
      obtain ⟨⟨dq, osq⟩, hw''⟩ := hw'
      subst hw''
      have bq := below_regrown W4 dq osq
      generalize Go.Sort.grow (redrawn W4 dq) osq = wq at bq ⊢
      go_wp2_with fail
      go_ret
      exact ⟨rfl, below_then HB4.out bq⟩
end Go.Proofs.Ytdnegamminhbfaa
