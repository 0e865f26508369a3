/- The walk of the law FnSolidLeast. -/
import Derived.Test.YtdnegamminhbfaaDraw8
import Derived.Test.YtdnegamminhbfaaSolK
import Derived.Test.YtdnegamminhbfaaSolS5
namespace Go.Proofs.Ytdnegamminhbfaa
open Go.RowKit Go.Sort Go.Lib

set_option maxRecDepth 100000 in
set_option maxHeartbeats 4000000 in
theorem fnSolidLeast_walk (A0 : Option Addr) (n0 c0 : Nat) (z0 : List Int) (w : World) (h0 : RdB w A0 n0 z0) (k0 : WfL .u8 z0) (q0 : n0 ≤ c0) :
    Calls Try.prog 14 #[.slice A0 n0 c0] w fun e w' => e = .returned (.bool true) ∧ Below w.heap.size w w' := by
  by_cases big : n0 ≤ 1048576
  rotate_left
  · go_enter Try.func14, Try.ntmps14
    go_wp2_with fail
    go_ret
    exact ⟨rfl, Below.refl _ _⟩
  go_enter Try.func14, Try.ntmps14
  go_wp2_with fail
  refine (drawSolidLeast_any A0 n0 c0 z0 _ h0 (bytes_of k0) big q0).mono ?_
  rintro e w1 ⟨A, n, c, xs, z, rfl, r, hn, B1⟩
  have hI := fun W (h : Rd W A n xs) => implSolidLeast_any A n c xs z W h hn
  have hS := fun W (h : Rd W A n xs) => specSolidLeast_any A n c xs z W h hn
  cases hb : lstB xs z with
  | false =>
    rw [hb] at hI hS
    generalize lowM xs z = lo at *
    generalize higM xs z = hg at *
    clear hb hn
    go_wp2_with fail
    refine (hI _ r).mono ?_
    rintro e w2 ⟨rfl, b⟩
    have B2 := below_then B1 b
    replace r := r.same b
    clear b
    go_wp2_with fail
    refine (hS _ r).mono ?_
    rintro e w3 ⟨rfl, b⟩
    have B3 := below_then B2 b
    replace r := r.same b
    clear b
    go_wp2_with fail
    go_ret
    exact ⟨rfl, B3⟩
  | true =>
    have hsb : solB xs = true := by cases h : solB xs with
      | true => rfl
      | false => rw [(lst_no1' z h).1] at hb; cases hb
    have hib : inB z 0 5 = true := by cases h : inB z 0 5 with
      | true => rfl
      | false => rw [(lst_no2' xs h).1] at hb; cases hb
    have hsol := sol_of hsb
    obtain rfl : n = 6 := by rw [← r.1, hsol.len]
    obtain ⟨hi0, hi5⟩ := inB_true hib
    obtain ⟨i, rfl⟩ : ∃ i : Nat, z = i := ⟨z.toNat, by omega⟩
    obtain ⟨m1, m2, m3⟩ := lst_yes' hsb hib
    have hi6 : i < 6 := by omega
    have hlo : 0 < lowF xs i 12 := by rw [m1] at hb; exact of_decide_eq_true hb
    rw [hb, m2, m3] at hI hS
    have hbt := fun x (h1 : 1 ≤ x) (h2 : x ≤ 12) => between_std hsol hi6 (by omega) (x := x) h1 h2
    have hlh := low_hig xs i 12 (by omega)
    have hlb := low_bd xs i 12
    have hhb := hig_bd xs i 12
    have HT := Lib.hid (fun A c x W (hx : 1 ≤ x ∧ x ≤ 12) (h : Rd W A 6 (xs.set i x)) => implSolidStands_any A 6 c (xs.set i x) W h (by omega))
    have HSS := Lib.hid (fun (x : Int) (hx : 1 ≤ x ∧ x ≤ 12) => (stdM_yes (hsol.setK hi6 hx).solB))
    generalize lowF xs i 12 = lo at *
    generalize higF xs i 12 = hg at *
    have HBT := Lib.hid hbt
    clear hsb hib hsol m1 m2 m3 hb hbt
    go_wp2_with fail
    refine (hI _ r).mono ?_
    rintro e w2 ⟨rfl, b⟩
    have B2 := below_then B1 b
    replace r := r.same b
    clear b
    go_wp2_with fail
    refine (hS _ r).mono ?_
    rintro e w3 ⟨rfl, b⟩
    have B3 := below_then B2 b
    replace r := r.same b
    clear b
    have HB := Lib.hid B3
    have R := Lib.hid r
    clear hI hS r B3
    go_wp2_with fail
    go_loopw [11, 12] (fun x _ wr => ∃ k : Nat, k ≤ 12 ∧ x = .int .i64 ((k : Int) + 1) ∧ Below w3.heap.size w3 wr) (fun x _ _ => 14 - (intOf x).toNat)
    case atStart => exact ⟨0, by omega, rfl, Below.refl _ _⟩
    case round =>
      obtain ⟨k, hk, rfl, hb⟩ := hrel
      by_cases hlt : k < 12
      · have hl0 := Own.lit wr hb.size [] (by simp)
        have hr0 := (R.out.same hb).al (.cells #[] 3)
        have d0 : decide ((k : Int) + 1 ≤ 12) = true := by rw [decide_eq_true_iff]; omega
        have v1 : IntKind.i64.wrap ((k : Int) + 1 + 1) = (k : Int) + 1 + 1 := wrap_is rfl (by omega) (by omega)
        have HBB := Lib.hid hb
        clear hb
        go_wp2_with (at_builtin; refine wpList_app rfl (.tmp 69) (.tmp 70) rfl rfl hl0 rfl hr0 (by simp) (by have := HBB.out.size; simp; omega) ?_; intro A2 c2 W2 ho2 hg2)
        have hb2 := app_mark (below_alloc HBB.out _) hl0 (Nat.le_refl _) hg2
        simp only [Nat.zero_add, List.nil_append] at ho2
        obtain ⟨g, rfl, hgB, hgl⟩ := ho2.form (by omega)
        have st := ho2.stored i ((k : Int) + 1)
        have o3 := st.1
        have b3 := hb2.grown st.2 hb2.size (fun j e => by cases e; exact hgB)
        have hcg := ho2.cell i hi6
        have hfg := ho2.free i
        have gi : (i : Int) < 6 := by omega
        have gi0 : (0 : Int) ≤ (i : Int) := by omega
        have hL := HT.out (some ⟨g, 0, none⟩) c2 ((k : Int) + 1) _ (by omega) o3.rd
        rw [HSS.out _ (by omega)] at hL
        have hq := HBT.out (k + 1) (by omega) (by omega)
        rw [show ((k + 1 : Nat) : Int) = (k : Int) + 1 by omega] at hq
        rw [hq] at hL
        have HO3 := Lib.hid b3
        generalize xs.getD i 0 = y at hcg
        clear st o3 b3 hl0 hr0 hg2 hb2 ho2 hq
        by_cases c1 : lo ≤ (k : Int) + 1
        · have d1 : decide ((k : Int) + 1 ≥ lo) = true := by rw [decide_eq_true_iff]; omega
          rw [decide_eq_true c1] at hL
          by_cases c2' : (k : Int) + 1 ≤ hg
          · have d2 : decide ((k : Int) + 1 ≤ hg) = true := by rw [decide_eq_true_iff]; omega
            rw [decide_eq_true c2'] at hL
            go_wp2_with fail
            try (go_simp; go_wp2_with fail)
            refine hL.mono ?_
            rintro e w4 ⟨rfl, b4⟩
            have HB4 := Lib.hid (HO3.out.trans (b4.mono HO3.out.size))
            clear b4 hL
            go_wp2_with fail
            go_roundw
            case rel =>
              first
                | exact ⟨k + 1, by omega, by go_num, HB4.out⟩
                | ((repeat apply Exists.intro); exact ⟨⟨k + 1, by omega, by go_num, HB4.out⟩, rfl⟩)
            case measure => simp [intOf]; omega
          · have d2 : decide ((k : Int) + 1 ≤ hg) = false := by rw [decide_eq_false_iff_not]; omega
            rw [decide_eq_false c2'] at hL
            go_wp2_with fail
            try (go_simp; go_wp2_with fail)
            refine hL.mono ?_
            rintro e w4 ⟨rfl, b4⟩
            have HB4 := Lib.hid (HO3.out.trans (b4.mono HO3.out.size))
            clear b4 hL
            go_wp2_with fail
            go_roundw
            case rel =>
              first
                | exact ⟨k + 1, by omega, by go_num, HB4.out⟩
                | ((repeat apply Exists.intro); exact ⟨⟨k + 1, by omega, by go_num, HB4.out⟩, rfl⟩)
            case measure => simp [intOf]; omega
        · have d1 : decide ((k : Int) + 1 ≥ lo) = false := by rw [decide_eq_false_iff_not]; omega
          rw [decide_eq_false c1, Bool.false_and] at hL
          go_wp2_with fail
          try (go_simp; go_wp2_with fail)
          refine hL.mono ?_
          rintro e w4 ⟨rfl, b4⟩
          have HB4 := Lib.hid (HO3.out.trans (b4.mono HO3.out.size))
          clear b4 hL
          go_wp2_with fail
          go_roundw
          case rel =>
            first
              | exact ⟨k + 1, by omega, by go_num, HB4.out⟩
              | ((repeat apply Exists.intro); exact ⟨⟨k + 1, by omega, by go_num, HB4.out⟩, rfl⟩)
          case measure => simp [intOf]; omega
      · obtain rfl : k = 12 := by omega
        have d3 : decide (lo ≤ hg) = true := by rw [decide_eq_true_iff]; omega
        go_wp2_with fail
        go_ret
        exact ⟨rfl, HB.out.trans (hb.mono HB.out.size)⟩

end Go.Proofs.Ytdnegamminhbfaa
