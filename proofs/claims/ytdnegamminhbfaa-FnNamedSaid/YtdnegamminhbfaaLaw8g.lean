/- The walk of the law FnNamed. -/
import Derived.Test.YtdnegamminhbfaaDraw8
import Derived.Test.YtdnegamminhbfaaSolN3
import Derived.Test.YtdnegamminhbfaaSolG
import Derived.Test.YtdnegamminhbfaaLaw8s
namespace Go.Proofs.Ytdnegamminhbfaa
open Go.RowKit Go.Sort Go.Lib

/-- The names that lead back, up to a corner. -/
def bkL (c : List Int) (k : Nat) : List Int := (List.range k).foldl (fun b i => b.set (c.getD i 0).toNat (i : Int)) [0, 0, 0, 0]
theorem bkL_succ (c : List Int) (k : Nat) : bkL c (k + 1) = (bkL c k).set (c.getD k 0).toNat (k : Int) := by unfold bkL; rw [List.range_succ, List.foldl_append]; rfl
theorem bk_all : ∀ l ∈ C24, cornB (bkL l 4) = true ∧ cmpN (plcC (bkL l 4)) (plcC l) = [0, 1, 2, 3, 4, 5] := by decide +kernel

set_option maxRecDepth 100000 in
set_option maxHeartbeats 4000000 in
theorem fnNamed_walk (A0 : Option Addr) (n0 c0 : Nat) (z0 : List Int) (w : World) (h0 : RdB w A0 n0 z0) (k0 : WfL .u8 z0) (q0 : n0 ≤ c0) :
    Calls Try.prog 10 #[.slice A0 n0 c0] w fun e w' => e = .returned (.bool true) ∧ Below w.heap.size w w' := by
  by_cases big : n0 ≤ 1048576
  rotate_left
  · go_enter Try.func10, Try.ntmps10
    go_wp2_with fail
    go_ret
    exact ⟨rfl, Below.refl _ _⟩
  go_enter Try.func10, Try.ntmps10
  go_wp2_with fail
  refine (drawSolidNamed_any A0 n0 c0 z0 _ h0 (bytes_of k0) big q0).mono ?_
  rintro e w1 ⟨A, n, c, xs, A1, n1, c1, ys, rfl, r, hn, s, hn1, B1⟩
  have hI := fun W (h : Rd W A n xs) (k : Rd W A1 n1 ys) => implSolidNamed_any A n c xs A1 n1 c1 ys W h hn k hn1
  have hS := fun W (h : Rd W A n xs) (k : Rd W A1 n1 ys) => specSolidNamed_any A n c xs A1 n1 c1 ys W h hn k hn1
  cases hb : namB xs ys with
  | false =>
    rw [namM_no hb, hb] at hI hS
    clear hb
    go_wp2_with fail
    refine (hI _ r s).mono ?_
    rintro e w2 ⟨A4, n4, c4, rfl, o4, hn4, b⟩
    have B2 := below_then B1 b
    replace r := r.same b
    replace s := s.same b
    clear b
    have r4 := o4.rd
    clear o4
    go_wp2_with fail
    refine (hS _ r s).mono ?_
    rintro e w3 ⟨A5, n5, c5, rfl, r5, hn5, b⟩
    have B3 := below_then B2 b
    replace r4 := r4.same b
    replace r := r.same b
    replace s := s.same b
    clear b
    go_wp2_with fail
    refine (sameI8_any A4 A5 n4 n5 c4 c5 _ _ r4 r5 hn4).mono ?_
    rintro e w4 ⟨rfl, b⟩
    have B4 := below_then B3 b
    replace r4 := r4.same b
    replace r5 := r5.same b
    clear b
    go_wp2_with fail
    refine (sameI8_any A4 A5 n4 n5 c4 c5 _ _ r4 r5 hn4).mono ?_
    rintro e w5 ⟨rfl, b⟩
    have B5 := below_then B4 b
    replace r4 := r4.same b
    replace r5 := r5.same b
    clear b
    go_wp2_with fail
    go_ret
    exact ⟨rfl, B5⟩
  | true =>
    have hsb : solB xs = true := by cases h : solB xs with
      | true => rfl
      | false => rw [namB_no1 h] at hb; cases hb
    have hcb : cornB ys = true := by cases h : cornB ys with
      | true => rfl
      | false => rw [namB_no2 h] at hb; cases hb
    have hsol := sol_of hsb
    have hmem := corn_mem hcb
    obtain rfl : n1 = 4 := by rw [← s.1, (c24_at ys hmem).1]
    have p1 := plcC_mem hcb
    have hN := nmd_sol p1 hsol
    obtain ⟨k1, k2⟩ := bk_all ys hmem
    have hback : nmd (plcC (bkL ys 4)) (nmd (plcC ys) xs) = xs := by
      rw [nmd_comp (P24_six _ (plcC_mem k1)).2 (P24_six _ p1).1, k2, nmd_id hsol]
    have e1 : namB (nmd (plcC ys) xs) (bkL ys 4) = true := namB_yes hN.solB k1
    have e2 : namM (nmd (plcC ys) xs) (bkL ys 4) = xs := by rw [namM_yes e1, hback]
    have e3 : samB xs (nmd (plcC ys) xs) = true := by rw [samB_yes hsb hN.solB, fst_named hsol p1]; simp
    rw [namM_yes hb, hb] at hI hS
    have hlN := hN.len
    generalize nmd (plcC ys) xs = N at *
    have hX := fun A4 n4 c4 A2 W (h : Rd W A4 n4 N) (hn4 : n4 ≤ 1048576) (k : Rd W A2 4 (bkL ys 4)) => implSolidNamed_any A4 n4 c4 N A2 4 4 (bkL ys 4) W h hn4 k (by omega)
    rw [e1, e2] at hX
    have hY := fun A4 n4 c4 W (h : Rd W A n xs) (k : Rd W A4 n4 N) (hn4 : n4 ≤ 1048576) => implSolidSame_any A n c xs A4 n4 c4 N W h hn k hn4
    rw [e3] at hY
    have HX := Lib.hid hX
    have HY := Lib.hid hY
    have HM := Lib.hid (fun i (hi : i < 4) => ((c24_at ys hmem).2 i hi).1)
    clear hX hY e1 e2 e3 hback k1 k2 hN p1 hmem hsol hsb hcb hb
    go_wp2_with fail
    refine (hI _ r s).mono ?_
    rintro e w2 ⟨A4, n4, c4, rfl, o4, hn4, b⟩
    have B2 := below_then B1 b
    replace r := r.same b
    replace s := s.same b
    clear b
    have r4 := o4.rd
    clear o4
    go_wp2_with fail
    refine (hS _ r s).mono ?_
    rintro e w3 ⟨A5, n5, c5, rfl, r5, hn5, b⟩
    have B3 := below_then B2 b
    replace r4 := r4.same b
    replace r := r.same b
    replace s := s.same b
    clear b
    go_wp2_with fail
    refine (sameI8_any A4 A5 n4 n5 c4 c5 _ _ r4 r5 hn4).mono ?_
    rintro e w4 ⟨rfl, b⟩
    have B4 := below_then B3 b
    replace r4 := r4.same b
    replace r5 := r5.same b
    replace r := r.same b
    replace s := s.same b
    clear b
    clear r5 hI hS
    have o6 := Own.lit w4 (Nat.le_refl _) [0, 0, 0, 0] (by simp)
    have b6 := below_alloc (Below.refl w4.heap.size w4) (.cells (ints [0, 0, 0, 0]).toArray 3)
    obtain ⟨bs, os_, rfl, hbs, hcs⟩ := s.2 (by omega)
    have HC := Lib.hid hcs
    have R := Lib.hid (And.intro r r4)
    have HB := Lib.hid B4
    clear hcs s r r4 B4
    go_wp2_with fail
    go_loopw [10] (fun i wr => ∃ k : Nat, k ≤ 4 ∧ i = .int .i64 k ∧ Own wr w4.heap.size (some ⟨w4.heap.size, 0, none⟩) 4 4 (bkL ys k) ∧ Below w4.heap.size w4 wr) (fun i _ => 4 - (intOf i).toNat)
    case atStart => exact ⟨0, by omega, rfl, o6, b6⟩
    case round =>
      clear o6 b6
      obtain ⟨k, hk, rfl, ho, hb⟩ := hrel
      by_cases hlt : k < 4
      · have y1 := (hb.cell (p := ⟨bs, os_ + k, none⟩) hbs).trans (HC.out k hlt)
        have hm := HM.out k hlt
        have HST := Lib.hid (bkL_succ ys k)
        obtain ⟨q, hq⟩ : ∃ q : Nat, ys.getD k 0 = (q : Int) := ⟨(ys.getD k 0).toNat, by omega⟩
        rw [hq] at y1 hm HST
        have hq4 : q < 4 := by omega
        have st := ho.stored q (k : Int)
        have hcy := ho.cell q hq4
        have hfy := ho.free q
        have HO := Lib.hid st.1
        have HG := Lib.hid (hb.grown st.2 hb.size (fun j e => by cases e; exact Nat.le_refl _))
        have g1 : (k : Int) < 4 := by omega
        have g2 : (q : Int) < 4 := by omega
        have g3 : (0 : Int) ≤ (q : Int) := by omega
        have d0 : decide ((k : Int) < 4) = true := by rw [decide_eq_true_iff]; omega
        generalize (bkL ys k).getD q 0 = yq at hcy
        have hqt : ((q : Int)).toNat = q := by omega
        clear st hm hq ho hb
        go_wp2_with fail
        try (go_simp; go_wp2_with fail)
        go_roundw
        case rel =>
          have h1 := HST.out
          rw [hqt] at h1
          first
            | exact ⟨k + 1, by omega, by go_num, by rw [h1]; exact HO.out, HG.out⟩
            | ((repeat apply Exists.intro); exact ⟨⟨k + 1, by omega, by go_num, by rw [h1]; exact HO.out, HG.out⟩, rfl⟩)
        case measure => simp [intOf]; omega
      · obtain rfl : k = 4 := by omega
        have r4 := R.out.2.same hb
        have r := R.out.1.same hb
        have hX := HX.out A4 n4 c4 _ _ r4 hn4 ho.rd
        have HO := Lib.hid ho
        have HB6 := Lib.hid (HB.out.trans (hb.mono HB.out.size))
        clear hb ho
        go_wp2_with fail
        refine hX.mono ?_
        rintro e w7 ⟨A7, n7, c7, rfl, o7, hn7, b7⟩
        have r7 := o7.rd
        replace r := r.same b7
        replace r4 := r4.same b7
        have B7 := Lib.hid (HB6.out.trans (b7.mono HB6.out.size))
        clear o7 b7 hX
        go_wp2_with fail
        refine (sameI8_any A7 A n7 n c7 c _ _ r7 r hn7).mono ?_
        rintro e w8 ⟨rfl, b8⟩
        replace r := r.same b8
        replace r4 := r4.same b8
        have B8 := Lib.hid (B7.out.trans (b8.mono B7.out.size))
        have hY := HY.out A4 n4 c4 _ r r4 hn4
        clear b8 r7
        go_wp2_with fail
        refine hY.mono ?_
        rintro e w9 ⟨rfl, b9⟩
        go_wp2_with fail
        go_ret
        exact ⟨rfl, B8.out.trans (b9.mono B8.out.size)⟩

end Go.Proofs.Ytdnegamminhbfaa
