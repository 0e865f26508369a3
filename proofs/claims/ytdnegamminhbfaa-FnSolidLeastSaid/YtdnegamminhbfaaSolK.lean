/- Contracts of the program's functions of chapter 8: SolidCount, SolidLeast. -/
import Derived.Test.YtdnegamminhbfaaSolG
import Derived.Test.YtdnegamminhbfaaSolI2
namespace Go.Proofs.Ytdnegamminhbfaa
open Go.RowKit Go.Sort Go.Lib

theorem cn_all {N : Nat} (h1 : 1 ≤ N) (h3 : N ≤ 3) : cnF N 6 [0, 0, 0, 0, 0, 0] 0 = cntSol N := by
  have : N = 1 ∨ N = 2 ∨ N = 3 := by omega
  rcases this with rfl | rfl | rfl
  · exact cn1
  · exact cn2
  · exact cn3
theorem powN {n k : Nat} (_ : 1 ≤ n) (h3 : n ≤ 3) (hk : k ≤ 6) : n ^ k ≤ 729 :=
  Nat.le_trans (Nat.pow_le_pow_left h3 k) (Nat.le_trans (Nat.pow_le_pow_right (by omega) hk) (by decide))
theorem sol_up {xs : List Int} (hl : xs.length = 6) (h : ∀ j, j < 6 → 1 ≤ xs.getD j 0 ∧ xs.getD j 0 ≤ 12) : Sol xs := by
  obtain ⟨a, b, c, d, e, f, rfl⟩ := six_of hl
  exact ⟨a, b, c, d, e, f, rfl, h 0 (by omega), h 1 (by omega), h 2 (by omega), h 3 (by omega), h 4 (by omega), h 5 (by omega)⟩
theorem cnF_step (N m : Nat) (xs : List Int) (k : Nat) : cnF N (m + 1) xs k = cnR (fun d' => cnF N m d' (k + 1)) xs k N := rfl
theorem cnR_step (r : List Int → Int) (xs : List Int) (k i : Nat) : cnR r xs k (i + 1) = cnR r xs k i + r (xs.set k ((i : Int) + 1)) := rfl

set_option maxRecDepth 100000 in
set_option maxHeartbeats 8000000 in
theorem countFrom_any (N : Nat) (hN1 : 1 ≤ N) (hN3 : N ≤ 3) : ∀ (m k : Nat) (xs : List Int) (w : World), k + m = 6 → xs.length = 6 → (∀ j, j < k → 1 ≤ xs.getD j 0 ∧ xs.getD j 0 ≤ 12) →
    Calls Try.prog 100 #[solV xs, .int .i64 k, .int .i64 N] w fun e w' => e = .returned (.int .i64 (cnF N m xs k)) ∧ Below w.heap.size w w' := by
  intro m
  induction m with
  | zero =>
    intro k xs w hk hl hj
    obtain rfl : k = 6 := by omega
    have hs := sol_up hl hj
    obtain ⟨x0, x1, x2, x3, x4, x5, ex⟩ := six_of hl
    subst ex
    have hone : cnF N 0 [x0, x1, x2, x3, x4, x5] 6 = oneL [x0, x1, x2, x3, x4, x5] := rfl
    rw [hone]
    obtain ⟨W1, hW1⟩ : ∃ W1, W1 = w.alloc (sixO x0 x1 x2 x3 x4 x5) := ⟨_, rfl⟩
    have s1 := six_new w x0 x1 x2 x3 x4 x5
    have b1 := below_alloc (Below.refl w.heap.size w) (sixO x0 x1 x2 x3 x4 x5)
    rw [show w.alloc (.cells #[.int .i64 x0, .int .i64 x1, .int .i64 x2, .int .i64 x3, .int .i64 x4, .int .i64 x5] 81) = W1 from hW1.symm] at s1
    rw [← hW1] at b1
    have hN := fun W => first_any x0 x1 x2 x3 x4 x5 W hs
    have hT := fun W => stands_any [x0, x1, x2, x3, x4, x5] W hs
    obtain ⟨f0, f1, f2, f3, f4, f5, ef⟩ := six_of (fst_sol hs).len
    rw [ef] at hN
    have hN' : ∀ W, Calls Try.prog 107 #[sixV x0 x1 x2 x3 x4 x5] W fun e w' => e = .returned (sixV f0 f1 f2 f3 f4 f5) ∧ Below W.heap.size W w' := hN
    have hT' : ∀ W, Calls Try.prog 110 #[sixV x0 x1 x2 x3 x4 x5] W fun e w' => e = .returned (.bool (stdB [x0, x1, x2, x3, x4, x5])) ∧ Below W.heap.size W w' := hT
    have hE := fun W => run_eql_sol W [f0, f1, f2, f3, f4, f5] [x0, x1, x2, x3, x4, x5] rfl rfl
    have hone2 : oneL [x0, x1, x2, x3, x4, x5] = if (decide (([f0, f1, f2, f3, f4, f5] : List Int) = [x0, x1, x2, x3, x4, x5]) && stdB [x0, x1, x2, x3, x4, x5]) = true then 1 else 0 := by unfold oneL; rw [ef]
    rw [hone2]
    obtain ⟨q, hq⟩ : ∃ q, q = decide (([f0, f1, f2, f3, f4, f5] : List Int) = [x0, x1, x2, x3, x4, x5]) := ⟨_, rfl⟩
    rw [← hq] at hE ⊢
    have hE' : ∀ W, (binOp .eql 81 (sixV f0 f1 f2 f3 f4 f5) (sixV x0 x1 x2 x3 x4 x5)).run Try.prog W = .ok (.bool q) W := hE
    have hG := fun W x y => run_eqGuard_sol W x y #[.int .i64 f0, .int .i64 f1, .int .i64 f2, .int .i64 f3, .int .i64 f4, .int .i64 f5] #[.int .i64 x0, .int .i64 x1, .int .i64 x2, .int .i64 x3, .int .i64 x4, .int .i64 x5]
    obtain ⟨c0, c1, c2, c3, c4, c5, _⟩ := s1.cells
    have z0 := cell_regrown c0
    have z1 := cell_regrown c1
    have z2 := cell_regrown c2
    have z3 := cell_regrown c3
    have z4 := cell_regrown c4
    have z5 := cell_regrown c5
    have cA : ∀ d os, Calls Try.prog 107 #[sixV x0 x1 x2 x3 x4 x5] (grow (redrawn W1 d) os) fun e w'' => e = .returned (sixV f0 f1 f2 f3 f4 f5) ∧ ∃ p : Regrown, w'' = grow (redrawn W1 p.d) p.os := fun d os => Calls.regrown_of (hN' _)
    have cB : ∀ d os, Calls Try.prog 110 #[sixV x0 x1 x2 x3 x4 x5] (grow (redrawn W1 d) os) fun e w'' => e = .returned (.bool (stdB [x0, x1, x2, x3, x4, x5])) ∧ ∃ p : Regrown, w'' = grow (redrawn W1 p.d) p.os := fun d os => Calls.regrown_of (hT' _)
    generalize stdB [x0, x1, x2, x3, x4, x5] = sb at *
    have HB := Lib.hid b1
    have HW := Lib.hid hW1
    clear hs hone hone2 hq hE hN hT hN' hT' ef s1 b1 hW1 hj hk hl c0 c1 c2 c3 c4 c5
    cases q with
    | false =>
      go_enter Try.func100, Try.ntmps100
      go_wp2_with fail
      change Code.wp _ _ _ _ (w.alloc (sixO x0 x1 x2 x3 x4 x5))
      rw [← HW.out]
      refine wp_region_quiet_below (by kernel_rfl) (by kernel_rfl) ?_
      repeat (go_big_quiet_step (first | with_reducible exact cA _ _ | with_reducible exact cB _ _))
      refine wpQuiet_nil ?_
      intro _ hw'
      obtain ⟨⟨dq, osq⟩, hw''⟩ := hw'
      subst hw''
      have bq := below_regrown W1 dq osq
      generalize Go.Sort.grow (redrawn W1 dq) osq = wq at bq ⊢
      go_wp2_with fail
      go_ret
      exact ⟨rfl, below_then HB.out bq⟩
    | true =>
      cases sb with
      | true =>
        go_enter Try.func100, Try.ntmps100
        go_wp2_with fail
        change Code.wp _ _ _ _ (w.alloc (sixO x0 x1 x2 x3 x4 x5))
        rw [← HW.out]
        refine wp_region_quiet_below (by kernel_rfl) (by kernel_rfl) ?_
        repeat (go_big_quiet_step (first | with_reducible exact cA _ _ | with_reducible exact cB _ _))
        refine wpQuiet_nil ?_
        intro _ hw'
        obtain ⟨⟨dq, osq⟩, hw''⟩ := hw'
        subst hw''
        have bq := below_regrown W1 dq osq
        generalize Go.Sort.grow (redrawn W1 dq) osq = wq at bq ⊢
        go_wp2_with fail
        go_ret
        exact ⟨rfl, below_then HB.out bq⟩
      | false =>
        go_enter Try.func100, Try.ntmps100
        go_wp2_with fail
        change Code.wp _ _ _ _ (w.alloc (sixO x0 x1 x2 x3 x4 x5))
        rw [← HW.out]
        refine wp_region_quiet_below (by kernel_rfl) (by kernel_rfl) ?_
        repeat (go_big_quiet_step (first | with_reducible exact cA _ _ | with_reducible exact cB _ _))
        refine wpQuiet_nil ?_
        intro _ hw'
        obtain ⟨⟨dq, osq⟩, hw''⟩ := hw'
        subst hw''
        have bq := below_regrown W1 dq osq
        generalize Go.Sort.grow (redrawn W1 dq) osq = wq at bq ⊢
        go_wp2_with fail
        go_ret
        exact ⟨rfl, below_then HB.out bq⟩
  | succ m ih =>
    intro k xs w hk hl hj
    have IH := Lib.hid ih
    have HJ := Lib.hid hj
    have HX := Lib.hid hl
    have HM := Lib.hid hk
    have hk6 : k < 6 := by omega
    obtain ⟨x0, x1, x2, x3, x4, x5, ex⟩ := six_of hl
    have EX := Lib.hid ex
    have s1 := six_new w x0 x1 x2 x3 x4 x5
    have b1 := below_alloc (Below.refl w.heap.size w) (sixO x0 x1 x2 x3 x4 x5)
    have HS := Lib.hid (cnF_step N m xs k)
    have HP := Lib.hid (fun i => cnR_bd (r := fun d' => cnF N m d' (k + 1)) (d := xs) (at_ := k) (b := ((N ^ m : Nat) : Int)) (fun d => cnF_bd m d (k + 1)) i)
    have hpw := powN hN1 hN3 (show m ≤ 6 by omega)
    obtain ⟨P, eP⟩ : ∃ P, P = N ^ m := ⟨_, rfl⟩
    rw [← eP] at HP hpw
    rw [show solV xs = sixV x0 x1 x2 x3 x4 x5 by rw [ex]; rfl]
    have d6 : ((k : Int) == 6) = false := by simp; omega
    have g1 : (k : Int) < 6 := by omega
    have g0 : (0 : Int) ≤ (k : Int) := by omega
    have v0 : IntKind.i64.wrap ((k : Int) + 1) = ((k + 1 : Nat) : Int) := wrap_is (by omega) (by omega) (by omega)
    have HF := Lib.hid (fun d => cnF_bd (n := N) m d (k + 1))
    rw [← eP] at HF
    clear hl hj ex ih hk eP
    go_enter Try.func100, Try.ntmps100
    go_wp2_with fail
    go_loopw [7, 8] (fun s i wr => ∃ (j : Nat) (ys : List Int), j ≤ N ∧ i = .int .i64 ((j : Int) + 1) ∧ s = .int .i64 (cnR (fun d' => cnF N m d' (k + 1)) xs k j) ∧ SolAt wr w.heap.size ys ∧ ys.length = 6 ∧ (∀ v, ys.set k v = xs.set k v) ∧ Below w.heap.size w wr) (fun _ i _ => N + 2 - (intOf i).toNat)
    case atStart => exact ⟨0, [x0, x1, x2, x3, x4, x5], by omega, rfl, rfl, s1, rfl, fun v => by rw [EX.out], b1⟩
    case round =>
      clear s1 b1
      obtain ⟨j, ys, hj, rfl, rfl, hs, hyl, hys, hb⟩ := hrel
      by_cases hlt : j < N
      · have HST := Lib.hid (cnR_step (fun d' => cnF N m d' (k + 1)) xs k j)
        have hbd := HP.out j
        generalize hS : cnR (fun d' => cnF N m d' (k + 1)) xs k j = S at *
        have hset := hs.set (j := k) (by omega) ((j : Int) + 1)
        rw [hys] at hset
        have hbs := hb.setCell (p := ⟨w.heap.size, k, none⟩) (Nat.le_refl _) (.int .i64 ((j : Int) + 1))
        have hcy := hs.cell (j := k) (by omega)
        have hfz := frozen_of_row wr w.heap.size k _ _ hs
        generalize ys.getD k 0 = y at hcy
        have hzl : (xs.set k ((j : Int) + 1)).length = 6 := by rw [List.length_set]; exact HX.out
        have hin : ∀ i, i < k + 1 → 1 ≤ (xs.set k ((j : Int) + 1)).getD i 0 ∧ (xs.set k ((j : Int) + 1)).getD i 0 ≤ 12 := fun i hi => by
          rw [getD_set _ _ _ _ (by rw [HX.out]; exact hk6)]
          by_cases e : i = k
          · rw [if_pos e]; omega
          · rw [if_neg e]; exact HJ.out i (by omega)
        have hC := fun W => IH.out (k + 1) (xs.set k ((j : Int) + 1)) W (by have := HM.out; omega) hzl hin
        have hfb := HF.out (xs.set k ((j : Int) + 1))
        have HKS := Lib.hid (show ∀ v, (xs.set k ((j : Int) + 1)).set k v = xs.set k v from fun v => by rw [List.set_set])
        obtain ⟨Z, eZ⟩ : ∃ Z, Z = xs.set k ((j : Int) + 1) := ⟨_, rfl⟩
        rw [← eZ] at hset hzl hin hC hfb HKS HST
        obtain ⟨z0, z1, z2, z3, z4, z5, ez⟩ := six_of hzl
        obtain ⟨q0, q1, q2, q3, q4, q5, _⟩ := (ez ▸ hset).cells
        have hC' : ∀ W, Calls Try.prog 100 #[sixV z0 z1 z2 z3 z4 z5, .int .i64 ((k + 1 : Nat) : Int), .int .i64 N] W fun e w' => e = .returned (.int .i64 (cnF N m Z (k + 1))) ∧ Below W.heap.size W w' := fun W => by
          have := hC W
          rw [show solV Z = sixV z0 z1 z2 z3 z4 z5 by rw [ez]; rfl] at this
          exact this
        generalize cnF N m Z (k + 1) = R at *
        have hmul : (j : Int) * (P : Int) ≤ 3 * 729 := by
          have h1 : (j : Int) * (P : Int) ≤ 3 * (P : Int) := Int.mul_le_mul_of_nonneg_right (by omega) (by omega)
          omega
        have v1 : IntKind.i64.wrap (S + R) = S + R := wrap_is rfl (by omega) (by omega)
        have d1 : decide ((j : Int) + 1 ≤ (N : Int)) = true := by rw [decide_eq_true_iff]; omega
        have HZ := Lib.hid hset
        have HZL := Lib.hid hzl
        have HBS := Lib.hid hbs
        clear hS hs hyl hys hset hbs hzl hin hC hfb hmul hbd eZ ez hb
        go_wp2_with fail
        refine (hC' _).mono ?_
        rintro e w4 ⟨rfl, b4⟩
        have HB4 := Lib.hid (HBS.out.trans (b4.mono HBS.out.size))
        have HZ4 := Lib.hid (HZ.out.same b4)
        clear b4 hC' q0 q1 q2 q3 q4 q5 hcy hfz
        go_wp2_with fail
        go_roundw
        case rel =>
          first
            | exact ⟨j + 1, Z, by omega, by go_num, by rw [HST.out], HZ4.out, HZL.out, HKS.out, HB4.out⟩
            | ((repeat apply Exists.intro); exact ⟨⟨j + 1, Z, by omega, by go_num, by rw [HST.out], HZ4.out, HZL.out, HKS.out, HB4.out⟩, rfl⟩)
        case measure => simp [intOf]; omega
      · obtain rfl : j = N := by omega
        rw [← HS.out]
        go_wp2_with fail
        go_ret
        exact ⟨rfl, hb⟩

theorem cnt_no' {n : Int} (h : inB n 1 3 = false) : cntSol n = 0 := by
  unfold cntSol
  unfold inB at h
  by_cases h1 : n = 1
  · subst h1; simp at h
  · by_cases h2 : n = 2
    · subst h2; simp at h
    · by_cases h3 : n = 3
      · subst h3; simp at h
      · rw [if_neg h1, if_neg h2, if_neg h3]
theorem implSolidCount_any (n : Int) (w : World) :
    Calls Try.prog 43 #[.int .i64 n] w fun e w' => e = .returned (.tuple #[.int .i64 (cntSol n), .bool (inB n 1 3)]) ∧ Below w.heap.size w w' := by
  cases hi : inB n 1 3 with
  | false =>
    rw [cnt_no' hi]
    by_cases h1 : n < 1
    · clear hi
      go_enter Try.func43, Try.ntmps43
      go_wp2_with fail
      refine bodyPost_ret (results_tmp2 rfl _ _ _) rfl ?_
      exact ⟨rfl, Below.refl _ _⟩
    · have h3 : 3 < n := by
        unfold inB at hi
        rw [decide_eq_true (by omega), Bool.true_and, decide_eq_false_iff_not] at hi
        omega
      have d1 : decide (n > 3) = true := by rw [decide_eq_true_iff]; omega
      clear hi
      go_enter Try.func43, Try.ntmps43
      go_wp2_with fail
      refine bodyPost_ret (results_tmp2 rfl _ _ _) rfl ?_
      exact ⟨rfl, Below.refl _ _⟩
  | true =>
    obtain ⟨hi0, hi5⟩ := inB_true hi
    obtain ⟨N, rfl⟩ : ∃ i : Nat, n = i := ⟨n.toNat, by omega⟩
    have hC := fun W => countFrom_any N (by omega) (by omega) 6 0 [0, 0, 0, 0, 0, 0] W rfl rfl (fun j hj => absurd hj (by omega))
    rw [cn_all (by omega) (by omega)] at hC
    have hC' : ∀ W, Calls Try.prog 100 #[sixV 0 0 0 0 0 0, .int .i64 0, .int .i64 N] W fun e w' => e = .returned (.int .i64 (cntSol N)) ∧ Below W.heap.size W w' := hC
    generalize cntSol N = z at *
    have d0 : decide ((N : Int) < 1) = false := by rw [decide_eq_false_iff_not]; omega
    have d1 : decide ((N : Int) > 3) = false := by rw [decide_eq_false_iff_not]; omega
    have e0 : ¬ (N < 1) := by omega
    have e1 : ¬ (3 < N) := by omega
    clear hi hi0 hi5 hC
    go_enter Try.func43, Try.ntmps43
    go_wp2_with fail
    refine (hC' _).mono ?_
    rintro e w1 ⟨rfl, b1⟩
    go_wp2_with fail
    refine bodyPost_ret (results_tmp2 rfl _ _ _) rfl ?_
    exact ⟨rfl, b1⟩

theorem Sol.setK {xs : List Int} (h : Sol xs) {i : Nat} {x : Int} (hi : i < 6) (hx : 1 ≤ x ∧ x ≤ 12) : Sol (xs.set i x) :=
  sol_up (by rw [List.length_set]; exact h.len) fun j hj => by
    rw [getD_set _ _ _ _ (by rw [h.len]; exact hi)]
    by_cases e : j = i
    · rw [if_pos e]; exact hx
    · rw [if_neg e]; exact h.at_ hj
theorem lst_no1' {xs : List Int} (at_ : Int) (h : solB xs = false) : lstB xs at_ = false ∧ lowM xs at_ = 0 ∧ higM xs at_ = 0 := by
  unfold lstB lowM higM; rw [h]; exact ⟨rfl, rfl, rfl⟩
theorem lst_no2' (xs : List Int) {at_ : Int} (h : inB at_ 0 5 = false) : lstB xs at_ = false ∧ lowM xs at_ = 0 ∧ higM xs at_ = 0 := by
  unfold lstB lowM higM; rw [h]; exact ⟨by simp, by simp, by simp⟩
theorem lst_yes' {xs : List Int} {i : Nat} (h : solB xs = true) (h2 : inB (i : Int) 0 5 = true) : lstB xs (i : Int) = decide (0 < lowF xs i 12) ∧ lowM xs (i : Int) = lowF xs i 12 ∧ higM xs (i : Int) = higF xs i 12 := by
  unfold lstB lowM higM; rw [h, h2]; exact ⟨by simp, by simp, by simp⟩
theorem low_step' (xs : List Int) (i k : Nat) : lowF xs i (k + 1) = if stdB (xs.set i ((k : Int) + 1)) then (if lowF xs i k = 0 then (k : Int) + 1 else lowF xs i k) else lowF xs i k := rfl
theorem hig_step' (xs : List Int) (i k : Nat) : higF xs i (k + 1) = if stdB (xs.set i ((k : Int) + 1)) then (k : Int) + 1 else higF xs i k := rfl

set_option maxRecDepth 100000 in
set_option maxHeartbeats 8000000 in
theorem implSolidLeast_any (A : Option Addr) (n c : Nat) (xs : List Int) (at_ : Int) (w : World) (h : Rd w A n xs) (hn : n ≤ 1048576) :
    Calls Try.prog 63 #[.slice A n c, .int .i64 at_] w fun e w' => e = .returned (.tuple #[.int .i64 (lowM xs at_), .int .i64 (higM xs at_), .bool (lstB xs at_)]) ∧ Below w.heap.size w w' := by
  cases hb : solB xs with
  | false =>
    obtain ⟨m1, m2, m3⟩ := lst_no1' at_ hb
    rw [m1, m2, m3]
    have hS := solidOf_no (c := c) h hn hb
    clear hb m1 m2 m3 h
    go_enter Try.func63, Try.ntmps63
    go_wp2_with fail
    refine hS.mono ?_
    rintro e w1 ⟨rfl, b1⟩
    have b2 := below_alloc b1 (.cells #[.int .i64 0, .int .i64 0, .int .i64 0, .int .i64 0, .int .i64 0, .int .i64 0] 81)
    go_wp2_with fail
    refine bodyPost_ret (results_tmp3 rfl _ _ _) rfl ?_
    exact ⟨rfl, b2⟩
  | true =>
    have hs := sol_of hb
    obtain ⟨x0, x1, x2, x3, x4, x5, ex⟩ := six_of hs.len
    have hS := solidOf_yes (c := c) (ex ▸ h) hn (ex ▸ hb)
    have EX := Lib.hid ex
    have HSS := Lib.hid hs
    cases hi : inB at_ 0 5 with
    | false =>
      obtain ⟨m1, m2, m3⟩ := lst_no2' xs hi
      rw [m1, m2, m3]
      have hc : at_ < 0 ∨ (0 ≤ at_ ∧ 6 ≤ at_) := by
        unfold inB at hi
        by_cases h0 : at_ < 0
        · exact .inl h0
        · rw [decide_eq_true (by omega), Bool.true_and, decide_eq_false_iff_not] at hi
          exact .inr (by omega)
      clear hb m1 m2 m3 h ex hs hi
      rcases hc with hc | hc
      · go_enter Try.func63, Try.ntmps63
        go_wp2_with fail
        refine hS.mono ?_
        rintro e w1 ⟨rfl, b1⟩
        have b2 := below_alloc b1 (.cells #[.int .i64 x0, .int .i64 x1, .int .i64 x2, .int .i64 x3, .int .i64 x4, .int .i64 x5] 81)
        go_wp2_with fail
        refine bodyPost_ret (results_tmp3 rfl _ _ _) rfl ?_
        exact ⟨rfl, b2⟩
      · have d0 : decide (at_ < 0) = false := by rw [decide_eq_false_iff_not]; omega
        have d1 : decide (at_ ≥ 6) = true := by rw [decide_eq_true_iff]; omega
        have d2 : ¬ at_ < 0 := by omega
        have d3 : 6 ≤ at_ := by omega
        clear hc
        go_enter Try.func63, Try.ntmps63
        go_wp2_with fail
        refine hS.mono ?_
        rintro e w1 ⟨rfl, b1⟩
        have b2 := below_alloc b1 (.cells #[.int .i64 x0, .int .i64 x1, .int .i64 x2, .int .i64 x3, .int .i64 x4, .int .i64 x5] 81)
        go_wp2_with fail
        refine bodyPost_ret (results_tmp3 rfl _ _ _) rfl ?_
        exact ⟨rfl, b2⟩
    | true =>
      obtain ⟨hi0, hi5⟩ := inB_true hi
      obtain ⟨i, rfl⟩ : ∃ i : Nat, at_ = i := ⟨at_.toNat, by omega⟩
      obtain ⟨m1, m2, m3⟩ := lst_yes' hb hi
      rw [m1, m2, m3]
      have hi6 : i < 6 := by omega
      have gi : (i : Int) < 6 := by omega
      have gi0 : (0 : Int) ≤ (i : Int) := by omega
      have gd : decide ((i : Int) < 0) = false := by rw [decide_eq_false_iff_not]; omega
      have gd1 : decide ((i : Int) ≥ 6) = false := by rw [decide_eq_false_iff_not]; omega
      have ge : ¬ 6 ≤ i := by omega
      obtain ⟨lo12, elo⟩ : ∃ l, l = lowF xs i 12 := ⟨_, rfl⟩
      obtain ⟨hi12, ehi⟩ : ∃ l, l = higF xs i 12 := ⟨_, rfl⟩
      rw [← elo, ← ehi]
      have EL := Lib.hid (And.intro elo ehi)
      clear hb hi m1 m2 m3 h ex hs hi0 hi5 elo ehi
      go_enter Try.func63, Try.ntmps63
      go_wp2_with fail
      refine hS.mono ?_
      rintro e w1 ⟨rfl, b1⟩
      have s1 := six_new w1 x0 x1 x2 x3 x4 x5
      have b2 := below_alloc b1 (.cells #[.int .i64 x0, .int .i64 x1, .int .i64 x2, .int .i64 x3, .int .i64 x4, .int .i64 x5] 81)
      have hbw := b1.size
      clear hS
      go_wp2_with fail
      go_loopw [9, 10, 11] (fun lo hg x wr => ∃ (k : Nat) (ys : List Int), k ≤ 12 ∧ x = .int .i64 ((k : Int) + 1) ∧ lo = .int .i64 (lowF xs i k) ∧ hg = .int .i64 (higF xs i k) ∧ SolAt wr w1.heap.size ys ∧ ys.length = 6 ∧ (∀ v, ys.set i v = xs.set i v) ∧ Below w.heap.size w wr) (fun _ _ x _ => 14 - (intOf x).toNat)
      case atStart => exact ⟨0, [x0, x1, x2, x3, x4, x5], by omega, rfl, rfl, rfl, s1, rfl, fun v => by rw [EX.out], b2⟩
      case round =>
        clear s1 b1 b2
        obtain ⟨k, ys, hk, rfl, rfl, rfl, hs, hyl, hys, hb⟩ := hrel
        by_cases hlt : k < 12
        · have HL := Lib.hid (low_step' xs i k)
          have HG := Lib.hid (hig_step' xs i k)
          have lb := low_bd xs i k
          generalize hlo : lowF xs i k = lo at *
          generalize hhg : higF xs i k = hg at *
          have hs2 := HSS.out.setK hi6 (x := (k : Int) + 1) (by omega)
          have d0 : decide ((k : Int) + 1 ≤ 12) = true := by rw [decide_eq_true_iff]; omega
          have v1 : IntKind.i64.wrap ((k : Int) + 1 + 1) = (k : Int) + 1 + 1 := wrap_is rfl (by omega) (by omega)
          have hset := hs.set (j := i) (by omega) ((k : Int) + 1)
          rw [hys] at hset
          have hbs := hb.setCell (p := ⟨w1.heap.size, i, none⟩) hbw (.int .i64 ((k : Int) + 1))
          have hcy := hs.cell (j := i) (by omega)
          have hfz := frozen_of_row wr w1.heap.size i _ _ hs
          generalize ys.getD i 0 = y at hcy
          have HKS := Lib.hid (show ∀ v, (xs.set i ((k : Int) + 1)).set i v = xs.set i v from fun v => by rw [List.set_set])
          have hT := fun W => stands_any (xs.set i ((k : Int) + 1)) W hs2
          obtain ⟨Z, eZ⟩ : ∃ Z, Z = xs.set i ((k : Int) + 1) := ⟨_, rfl⟩
          rw [← eZ] at hset HKS hT HL HG hs2
          have hzl := hs2.len
          obtain ⟨z0, z1, z2, z3, z4, z5, ez⟩ := six_of hzl
          obtain ⟨q0, q1, q2, q3, q4, q5, _⟩ := (ez ▸ hset).cells
          have hT' : ∀ W, Calls Try.prog 110 #[sixV z0 z1 z2 z3 z4 z5] W fun e w' => e = .returned (.bool (stdB Z)) ∧ Below W.heap.size W w' := fun W => by
            have := hT W
            rw [show solV Z = sixV z0 z1 z2 z3 z4 z5 by rw [ez]; rfl] at this
            exact this
          have HZ := Lib.hid hset
          have HZL := Lib.hid hzl
          have HBS := Lib.hid hbs
          generalize hstd : stdB Z = sb at *
          clear hlo hhg hs hyl hys hset hbs hzl hT eZ ez hb hs2 hstd
          cases sb with
          | false =>
            have HL2 := Lib.hid (HL.out.trans (if_neg (by simp)))
            have HG2 := Lib.hid (HG.out.trans (if_neg (by simp)))
            go_wp2_with fail
            refine (hT' _).mono ?_
            rintro e w4 ⟨rfl, b4⟩
            have HB4 := Lib.hid (HBS.out.trans (b4.mono HBS.out.size))
            have HZ4 := Lib.hid (HZ.out.same b4)
            clear b4 hT' q0 q1 q2 q3 q4 q5 hcy hfz
            go_wp2_with fail
            go_roundw
            case rel =>
              first
                | exact ⟨k + 1, Z, by omega, by go_num, by rw [HL2.out], by rw [HG2.out], HZ4.out, HZL.out, HKS.out, HB4.out⟩
                | ((repeat apply Exists.intro); exact ⟨⟨k + 1, Z, by omega, by go_num, by rw [HL2.out], by rw [HG2.out], HZ4.out, HZL.out, HKS.out, HB4.out⟩, rfl⟩)
            case measure => simp [intOf]; omega
          | true =>
            have HG2 := Lib.hid (HG.out.trans (if_pos rfl))
            have hL1 := HL.out.trans (if_pos rfl)
            by_cases hz : lo = 0
            · have HL2 := Lib.hid (hL1.trans (if_pos hz))
              subst hz
              clear hL1
              go_wp2_with fail
              refine (hT' _).mono ?_
              rintro e w4 ⟨rfl, b4⟩
              have HB4 := Lib.hid (HBS.out.trans (b4.mono HBS.out.size))
              have HZ4 := Lib.hid (HZ.out.same b4)
              clear b4 hT' q0 q1 q2 q3 q4 q5 hcy hfz
              go_wp2_with fail
              go_roundw
              case rel =>
                first
                  | exact ⟨k + 1, Z, by omega, by go_num, by rw [HL2.out], by rw [HG2.out], HZ4.out, HZL.out, HKS.out, HB4.out⟩
                  | ((repeat apply Exists.intro); exact ⟨⟨k + 1, Z, by omega, by go_num, by rw [HL2.out], by rw [HG2.out], HZ4.out, HZL.out, HKS.out, HB4.out⟩, rfl⟩)
              case measure => simp [intOf]; omega
            · have HL2 := Lib.hid (hL1.trans (if_neg hz))
              have dz : (lo == 0) = false := by simpa using hz
              clear hL1 hz
              go_wp2_with fail
              refine (hT' _).mono ?_
              rintro e w4 ⟨rfl, b4⟩
              have HB4 := Lib.hid (HBS.out.trans (b4.mono HBS.out.size))
              have HZ4 := Lib.hid (HZ.out.same b4)
              clear b4 hT' q0 q1 q2 q3 q4 q5 hcy hfz
              go_wp2_with fail
              go_roundw
              case rel =>
                first
                  | exact ⟨k + 1, Z, by omega, by go_num, by rw [HL2.out], by rw [HG2.out], HZ4.out, HZL.out, HKS.out, HB4.out⟩
                  | ((repeat apply Exists.intro); exact ⟨⟨k + 1, Z, by omega, by go_num, by rw [HL2.out], by rw [HG2.out], HZ4.out, HZL.out, HKS.out, HB4.out⟩, rfl⟩)
              case measure => simp [intOf]; omega
        · obtain rfl : k = 12 := by omega
          rw [← EL.out.1, ← EL.out.2]
          go_wp2_with fail
          refine bodyPost_ret (results_tmp3 rfl _ _ _) rfl ?_
          exact ⟨rfl, hb⟩
end Go.Proofs.Ytdnegamminhbfaa
