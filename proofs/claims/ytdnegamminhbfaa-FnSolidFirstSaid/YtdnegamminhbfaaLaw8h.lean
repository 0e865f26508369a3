/- The walk of the law FnSolidFirst. -/
import Derived.Test.YtdnegamminhbfaaDraw8
import Derived.Test.YtdnegamminhbfaaSolF
import Derived.Test.YtdnegamminhbfaaSolS4
import Derived.Test.YtdnegamminhbfaaLaw8s
import Derived.Test.YtdnegamminhbfaaS1a
namespace Go.Proofs.Ytdnegamminhbfaa
open Go.RowKit Go.Sort Go.Lib

theorem perm_sum8 {l l' : List Int} (h : l.Perm l') : l.sum = l'.sum := by
  induction h with
  | nil => rfl
  | cons x _ ih => simp [ih]
  | swap x y l => simp only [List.sum_cons]; omega
  | trans _ _ h1 h2 => exact h1.trans h2
theorem sum6 {xs : List Int} (h : xs.length = 6) : sumL xs = xs.sum := by
  obtain ⟨a, b, c, d, e, f, rfl⟩ := six_of h
  simp [sumL, sumTo]
  omega
theorem sum_fst {xs : List Int} (h : Sol xs) : sumL (fstL xs) = sumL xs := by
  obtain ⟨p, hp, e⟩ := fst_mem h
  rw [sum6 (fst_sol h).len, sum6 h.len, e, perm_sum8 (nmd_perm h hp)]
theorem small_sol {xs : List Int} (h : Sol xs) : Small 1000000 xs := fun j hj => by
  have := h.at_ (i := j) (by rw [← h.len]; exact hj)
  omega
/-- The least length up to a place. -/
def mnT (xs : List Int) : Nat → Int
  | 0 => xs.getD 0 0
  | k + 1 => if xs.getD k 0 < mnT xs k then xs.getD k 0 else mnT xs k
theorem mn_le (xs : List Int) : ∀ k : Nat, (∀ j, j < k → mnT xs k ≤ xs.getD j 0) ∧ ∃ j, (j = 0 ∨ j < k) ∧ mnT xs k = xs.getD j 0
  | 0 => ⟨fun j hj => absurd hj (by omega), 0, .inl rfl, rfl⟩
  | k + 1 => by
    obtain ⟨h1, j0, h2, h3⟩ := mn_le xs k
    rw [mnT]
    by_cases h : xs.getD k 0 < mnT xs k
    · rw [if_pos h]
      refine ⟨fun j hj => ?_, k, .inr (by omega), rfl⟩
      by_cases e : j = k
      · rw [e]; omega
      · have := h1 j (by omega); omega
    · rw [if_neg h]
      refine ⟨fun j hj => ?_, j0, by omega, h3⟩
      by_cases e : j = k
      · rw [e]; omega
      · exact h1 j (by omega)
theorem mn_fst {xs : List Int} (h : Sol xs) : (fstL xs).getD 0 0 = mnT xs 6 := by
  obtain ⟨h1, i, hi, h2⟩ := fst_head h
  obtain ⟨h3, j, hj, h4⟩ := mn_le xs 6
  have a := h1 j (by omega)
  have b := h3 i hi
  omega

set_option maxRecDepth 100000 in
set_option maxHeartbeats 4000000 in
theorem fnSolidFirst_walk (A0 : Option Addr) (n0 c0 : Nat) (z0 : List Int) (w : World) (h0 : RdB w A0 n0 z0) (k0 : WfL .u8 z0) (q0 : n0 ≤ c0) :
    Calls Try.prog 11 #[.slice A0 n0 c0] w fun e w' => e = .returned (.bool true) ∧ Below w.heap.size w w' := by
  by_cases big : n0 ≤ 1048576
  rotate_left
  · go_enter Try.func11, Try.ntmps11
    go_wp2_with fail
    go_ret
    exact ⟨rfl, Below.refl _ _⟩
  go_enter Try.func11, Try.ntmps11
  go_wp2_with fail
  refine (drawSolidFirst_any A0 n0 c0 z0 _ h0 (bytes_of k0) big q0).mono ?_
  rintro e w1 ⟨A, n, c, xs, rfl, r, hn, B1⟩
  have hI := fun W (h : Rd W A n xs) => implSolidFirst_any A n c xs W h hn
  have hS := fun W (h : Rd W A n xs) => specSolidFirst_any A n c xs W h hn
  cases hb : solB xs with
  | false =>
    rw [fsM_no hb, hb] at hI hS
    clear hb
    go_wp2_with fail
    refine (hI _ r).mono ?_
    rintro e w2 ⟨A4, n4, c4, rfl, o4, hn4, b⟩
    have B2 := below_then B1 b
    replace r := r.same b
    clear b
    have r4 := o4.rd
    clear o4
    go_wp2_with fail
    refine (hS _ r).mono ?_
    rintro e w3 ⟨A5, n5, c5, rfl, r5, hn5, b⟩
    have B3 := below_then B2 b
    replace r4 := r4.same b
    replace r := r.same b
    clear b
    go_wp2_with fail
    refine (sameI8_any A4 A5 n4 n5 c4 c5 _ _ r4 r5 hn4).mono ?_
    rintro e w4 ⟨rfl, b⟩
    have B4 := below_then B3 b
    replace r4 := r4.same b
    replace r5 := r5.same b
    clear b
    go_wp2_with fail
    refine (sameI8_any A4 A5 n4 n5 c4 c5 _ _ r4 r5 hn4).mono ?_
    rintro e w5 ⟨rfl, b⟩
    have B5 := below_then B4 b
    replace r4 := r4.same b
    replace r5 := r5.same b
    clear b
    go_wp2_with fail
    go_ret
    exact ⟨rfl, B5⟩
  | true =>
    have hsol := sol_of hb
    obtain rfl : n = 6 := by rw [← r.1, hsol.len]
    rw [fsM_yes hb, hb] at hI hS
    have hF := fst_sol hsol
    have hX := fun A4 n4 c4 W (h : Rd W A4 n4 (fstL xs)) (hn4 : n4 ≤ 1048576) => implSolidFirst_any A4 n4 c4 (fstL xs) W h hn4
    rw [fsM_yes hF.solB, hF.solB, fst_fst hsol] at hX
    have hT := fun A4 n4 c4 W (h : Rd W A4 n4 (fstL xs)) (hn4 : n4 ≤ 1048576) => total_any A4 n4 c4 (fstL xs) W h hn4 (small_sol hF)
    have hU := fun W (h : Rd W A 6 xs) => total_any A 6 c xs W h hn (small_sol hsol)
    rw [sum_fst hsol] at hT
    have HMN := Lib.hid (mn_fst hsol)
    have hlF := hF.len
    have HAT := Lib.hid hsol
    generalize sumL xs = sm at *
    generalize hFF : fstL xs = F at *
    have HT := Lib.hid hT
    have HU := Lib.hid hU
    have HX := Lib.hid hX
    clear hT hU hX hF hsol hb
    go_wp2_with fail
    refine (hI _ r).mono ?_
    rintro e w2 ⟨A4, n4, c4, rfl, o4, hn4, b⟩
    have B2 := below_then B1 b
    replace r := r.same b
    clear b
    have r4 := o4.rd
    clear o4
    go_wp2_with fail
    refine (hS _ r).mono ?_
    rintro e w3 ⟨A5, n5, c5, rfl, r5, hn5, b⟩
    have B3 := below_then B2 b
    replace r4 := r4.same b
    replace r := r.same b
    clear b
    go_wp2_with fail
    refine (sameI8_any A4 A5 n4 n5 c4 c5 _ _ r4 r5 hn4).mono ?_
    rintro e w4 ⟨rfl, b⟩
    have B4 := below_then B3 b
    replace r4 := r4.same b
    replace r5 := r5.same b
    replace r := r.same b
    clear b
    clear r5 hI hS
    go_wp2_with fail
    refine (HX.out A4 n4 c4 _ r4 hn4).mono ?_
    rintro e w5 ⟨A6, n6, c6, rfl, o6, hn6, b⟩
    have B5 := below_then B4 b
    replace r4 := r4.same b
    replace r := r.same b
    clear b
    have r6 := o6.rd
    clear o6
    obtain rfl : n4 = 6 := by rw [← r4.1, hlF]
    obtain ⟨bs, os_, rfl, hbs, hcs⟩ := r.2 (by omega)
    obtain ⟨bf, of_, rfl, hbf, hcf⟩ := r4.2 (by omega)
    have y0 := hcs 0 (by omega)
    rw [Nat.add_zero] at y0
    have R := Lib.hid (And.intro r (And.intro r4 r6))
    have HC := Lib.hid hcs
    have HCF := Lib.hid (hcf 0 (by omega))
    have HB := Lib.hid B5
    clear hcs hcf r r4 r6 B5
    go_wp2_with fail
    go_loopw [10, 11] (fun m i wr => ∃ k : Nat, k ≤ 6 ∧ i = .int .i64 k ∧ m = .int .i64 (mnT xs k) ∧ Below w5.heap.size w5 wr) (fun _ i _ => 6 - (intOf i).toNat)
    case atStart => exact ⟨0, by omega, rfl, rfl, Below.refl _ _⟩
    case round =>
      clear y0
      obtain ⟨k, hk, rfl, rfl, hb⟩ := hrel
      by_cases hlt : k < 6
      · have y1 := (hb.cell (p := ⟨bs, os_ + k, none⟩) hbs).trans (HC.out k hlt)
        have HST := Lib.hid (show mnT xs (k + 1) = if xs.getD k 0 < mnT xs k then xs.getD k 0 else mnT xs k from rfl)
        generalize xs.getD k 0 = v at *
        generalize mnT xs k = m at *
        obtain ⟨m2, hm2⟩ : ∃ m2, (if v < m then v else m) = m2 := ⟨_, rfl⟩
        rw [hm2] at HST
        have g1 : (k : Int) < 6 := by omega
        have d0 : decide ((k : Int) < 6) = true := by rw [decide_eq_true_iff]; omega
        go_wp2_with fail
        go_roundw
        case rel =>
          first
            | exact ⟨k + 1, by omega, by go_num, by rw [HST.out], hb⟩
            | ((repeat apply Exists.intro); exact ⟨⟨k + 1, by omega, by go_num, by rw [HST.out], hb⟩, rfl⟩)
        case measure => simp [intOf]; omega
      · obtain rfl : k = 6 := by omega
        have hmn := HMN.out
        have r := R.out.1.same hb
        have r4 := R.out.2.1.same hb
        have r6 := R.out.2.2.same hb
        have y2 := (hb.cell (p := ⟨bf, of_ + 0, none⟩) hbf).trans HCF.out
        rw [hmn, Nat.add_zero] at y2
        generalize mnT xs 6 = m at *
        have hbfr : bf < wr.heap.size := Nat.lt_of_lt_of_le hbf hb.size
        have HB6 := Lib.hid (HB.out.trans (hb.mono HB.out.size))
        clear hb
        go_wp2_with fail
        refine (sameI8_any A6 (some ⟨bf, of_, none⟩) n6 6 c6 c4 _ _ r6 r4 hn6).mono ?_
        rintro e w8 ⟨rfl, b8⟩
        replace r := r.same b8
        replace r4 := r4.same b8
        have B8 := Lib.hid (HB6.out.trans (b8.mono HB6.out.size))
        have y4 := (b8.cell (p := ⟨bf, of_, none⟩) hbfr).trans y2
        clear b8 r6 y2
        go_wp2_with fail
        refine (HT.out _ 6 c4 _ r4 (by omega)).mono ?_
        rintro e w9 ⟨rfl, b9⟩
        replace r := r.same b9
        have B9 := Lib.hid (B8.out.trans (b9.mono B8.out.size))
        clear b9
        go_wp2_with fail
        refine (HU.out _ r).mono ?_
        rintro e w10 ⟨rfl, b10⟩
        go_wp2_with fail
        go_ret
        exact ⟨rfl, B9.out.trans (b10.mono B9.out.size)⟩

end Go.Proofs.Ytdnegamminhbfaa
