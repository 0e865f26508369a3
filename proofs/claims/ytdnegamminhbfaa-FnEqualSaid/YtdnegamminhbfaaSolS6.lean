/- Contracts of the model's functions of chapter 8: SolidCount. -/
import Derived.Test.YtdnegamminhbfaaSolS5
namespace Go.Proofs.Ytdnegamminhbfaa
open Go.RowKit

theorem dig_snoc (n : Nat) : ∀ (k y : Nat), digL n y (k + 1) = digL n y k ++ [((1 + y / n ^ k % n : Nat) : Int)]
  | 0, y => by simp [digL]
  | k + 1, y => by
    rw [digL, dig_snoc n k (y / n), digL, Nat.div_div_eq_div_mul, ← Nat.pow_succ', List.cons_append]
theorem dig_len (n : Nat) : ∀ (k y : Nat), (digL n y k).length = k
  | 0, _ => rfl
  | k + 1, y => by rw [digL, List.length_cons, dig_len n k]
theorem dig_sol {n : Nat} (x : Nat) (h1 : 1 ≤ n) (h3 : n ≤ 3) : Sol (digL n x 6) := by
  have key : ∀ y : Nat, 1 ≤ ((1 + y % n : Nat) : Int) ∧ ((1 + y % n : Nat) : Int) ≤ 12 := fun y => by
    have := Nat.mod_lt y (show n > 0 by omega)
    omega
  exact ⟨_, _, _, _, _, _, rfl, key _, key _, key _, key _, key _, key _⟩
theorem cnS_bd (n : Nat) : ∀ x : Nat, 0 ≤ cnS n x ∧ cnS n x ≤ x
  | 0 => by simp [cnS]
  | x + 1 => by
    have h1 := cnS_bd n x
    have h2 := one_bd (digL n x 6)
    rw [cnS]; omega
theorem cnS_step (n x : Nat) : cnS n (x + 1) = cnS n x + oneL (digL n x 6) := rfl
theorem cnS_all {n : Nat} (h1 : 1 ≤ n) (h3 : n ≤ 3) : cnS n (n ^ 6) = cntSol n := by
  have : n = 1 ∨ n = 2 ∨ n = 3 := by omega
  rcases this with rfl | rfl | rfl
  · exact cs1
  · exact cs2
  · exact cs3
theorem pow_bd {n k : Nat} (h1 : 1 ≤ n) (h3 : n ≤ 3) (hk : k ≤ 6) : 1 ≤ n ^ k ∧ n ^ k ≤ 729 :=
  ⟨Nat.pow_pos (by omega), Nat.le_trans (Nat.pow_le_pow_left h3 k) (Nat.le_trans (Nat.pow_le_pow_right (by omega) hk) (by decide))⟩
theorem one_no {d : List Int} (h : stdB d = false) : oneL d = 0 := by unfold oneL; rw [h, Bool.and_false]; rfl
theorem one_less {d : List Int} (hs : Sol d) (h : stdB d = true) : oneL d = if lessB (fstL d) d then 0 else 1 := by
  unfold oneL; rw [h, Bool.and_true, ← fst_self hs]
  cases lessB (fstL d) d <;> rfl
theorem cnt_no {n : Int} (h : inB n 1 3 = false) : cntSol n = 0 := by
  unfold cntSol
  unfold inB at h
  by_cases h1 : n = 1
  · subst h1; simp at h
  · by_cases h2 : n = 2
    · subst h2; simp at h
    · by_cases h3 : n = 3
      · subst h3; simp at h
      · rw [if_neg h1, if_neg h2, if_neg h3]

set_option maxRecDepth 100000 in
set_option maxHeartbeats 8000000 in
theorem specSolidCount_any (n : Int) (w : World) :
    Calls Try.prog 44 #[.int .i64 n] w fun e w' => e = .returned (.tuple #[.int .i64 (cntSol n), .bool (inB n 1 3)]) ∧ Below w.heap.size w w' := by
  cases hi : inB n 1 3 with
  | false =>
    rw [cnt_no hi]
    have HI := Lib.hid hi
    clear hi
    go_enter Try.func44, Try.ntmps44
    go_wp2_with (go_at_call 101; refine (l6In_is HI.out _).mono ?_; rintro e w' ⟨rfl, rfl⟩)
    refine bodyPost_ret (results_tmp2 rfl _ _ _) rfl ?_
    exact ⟨rfl, Below.refl _ _⟩
  | true =>
    obtain ⟨hi0, hi5⟩ := inB_true hi
    obtain ⟨N, rfl⟩ : ∃ i : Nat, n = i := ⟨n.toNat, by omega⟩
    have h1 : 1 ≤ N := by omega
    have h3 : N ≤ 3 := by omega
    have HI := Lib.hid hi
    have HC := Lib.hid (cnS_all h1 h3)
    obtain ⟨CC, hCC⟩ : ∃ CC, CC = cntSol N := ⟨_, rfl⟩
    rw [← hCC]
    have HCC := Lib.hid hCC
    have HN := Lib.hid (And.intro h1 h3)
    clear hi hi0 hi5 hCC
    go_enter Try.func44, Try.ntmps44
    go_wp2_with (go_at_call 101; refine (l6In_is HI.out _).mono ?_; rintro e w' ⟨rfl, rfl⟩)
    go_loopw [4, 5] (fun a i wr => ∃ k : Nat, k ≤ 6 ∧ i = .int .i64 k ∧ a = .int .i64 ((N ^ k : Nat) : Int) ∧ Below w.heap.size w wr) (fun _ i _ => 6 - (intOf i).toNat)
    case atStart => exact ⟨0, by omega, rfl, rfl, Below.refl _ _⟩
    case round =>
      obtain ⟨k, hk, rfl, rfl, hb⟩ := hrel
      by_cases hlt : k < 6
      · have HP := Lib.hid (Nat.pow_succ N k)
        have hp := pow_bd HN.out.1 HN.out.2 (show k + 1 ≤ 6 by omega)
        rw [HP.out] at hp
        generalize N ^ k = P at *
        have v1 : IntKind.i64.wrap ((P : Int) * (N : Int)) = ((P * N : Nat) : Int) := wrap_is (by rw [Int.natCast_mul]) (by rw [← Int.natCast_mul]; omega) (by rw [← Int.natCast_mul]; omega)
        have d0 : decide ((k : Int) < 6) = true := by rw [decide_eq_true_iff]; omega
        go_wp2_with fail
        go_roundw
        case rel =>
          first
            | exact ⟨k + 1, by omega, by go_num, by rw [HP.out, Int.natCast_mul], hb⟩
            | ((repeat apply Exists.intro); exact ⟨⟨k + 1, by omega, by go_num, by rw [HP.out, Int.natCast_mul], hb⟩, rfl⟩)
        case measure => simp [intOf]; omega
      · obtain rfl : k = 6 := by omega
        have hp := pow_bd HN.out.1 HN.out.2 (show 6 ≤ 6 by omega)
        rw [← HCC.out] at HC
        generalize N ^ 6 = P at *
        have HB := Lib.hid hb
        clear hb
        go_wp2_with fail
        go_loopw [6, 7, 8, 9, 10] (fun m x _ _ _ wr => ∃ k : Nat, k ≤ P ∧ x = .int .i64 k ∧ m = .int .i64 (cnS N k) ∧ Below w.heap.size w wr) (fun _ x _ _ _ _ => P - (intOf x).toNat)
        case atStart => exact ⟨0, by omega, rfl, rfl, HB.out⟩
        case round =>
          clear HB
          obtain ⟨x, hx, rfl, rfl, hb⟩ := hrel
          have hcb := cnS_bd N x
          by_cases hlt : x < P
          · have HCS := Lib.hid (cnS_step N x)
            generalize hm : cnS N x = M at *
            have d0 : decide ((x : Int) < (P : Int)) = true := by rw [decide_eq_true_iff]; omega
            have hl0 := Own.lit wr hb.size [] (by simp)
            have HB := Lib.hid hb
            have HL0 := Lib.hid hl0
            clear hm hb hl0
            go_wp2_with fail
            go_loopw [8, 9, 10] (fun s y i wq => ∃ (j c : Nat) (A : Option Addr), j ≤ 6 ∧ i = .int .i64 j ∧ s = .slice A j c ∧ y = .int .i64 ((x / N ^ j : Nat) : Int) ∧ Own wq w.heap.size A j c (digL N x j) ∧ Below w.heap.size w wq) (fun _ _ i _ => 6 - (intOf i).toNat)
            case atStart => exact ⟨0, 0, _, by omega, rfl, rfl, by simp, HL0.out, below_alloc HB.out _⟩
            case round =>
              clear HB HL0
              obtain ⟨j, c, A, hj, rfl, rfl, rfl, ho, hb⟩ := hrel
              by_cases hlt2 : j < 6
              · have HD := Lib.hid (dig_snoc N j x)
                have HQ := Lib.hid (show x / N ^ (j + 1) = x / N ^ j / N by rw [Nat.div_div_eq_div_mul, Nat.pow_succ])
                have hyx : x / N ^ j ≤ x := Nat.div_le_self _ _
                generalize x / N ^ j = y at *
                obtain ⟨r, hr⟩ : ∃ r, r = y % N := ⟨_, rfl⟩
                obtain ⟨q, hq⟩ : ∃ q, q = y / N := ⟨_, rfl⟩
                rw [← hr] at HD
                rw [← hq] at HQ
                have hr3 : r < N := by rw [hr]; exact Nat.mod_lt _ (by omega)
                have hqy : q ≤ y := by rw [hq]; exact Nat.div_le_self _ _
                have t1 : (y : Int).tmod (N : Int) = (r : Int) := by rw [hr, Int.tmod_eq_emod_of_nonneg (by omega)]; simp
                have t2 : (y : Int) % (N : Int) = (r : Int) := by rw [hr]; simp
                have t3 : (y : Int).tdiv (N : Int) = (q : Int) := by rw [hq, Int.tdiv_eq_ediv_of_nonneg (by omega)]; simp
                have t4 : (y : Int) / (N : Int) = (q : Int) := by rw [hq]; simp
                have u1 : IntKind.i64.wrap (r : Int) = (r : Int) := wrap_is rfl (by omega) (by omega)
                have u2 : IntKind.i64.wrap (q : Int) = (q : Int) := wrap_is rfl (by omega) (by omega)
                have u3 : IntKind.i64.wrap (1 + (r : Int)) = ((1 + r : Nat) : Int) := wrap_is (by omega) (by omega) (by omega)
                have u4 : ((N : Int) == 0) = false := by simp; omega
                have u5 : ¬ ((N : Int) = 0) := by omega
                have u6 : ¬ (N = 0) := by omega
                have d0 : decide ((j : Int) < 6) = true := by rw [decide_eq_true_iff]; omega
                have hlen := ho.len
                have oa := ho.al (.cells #[.int .i64 ((1 + r : Nat) : Int)] 3)
                have HB := Lib.hid hb
                clear hr hq hlen hb ho
                go_wp2_with (at_builtin; refine wpList_app rfl (.tmp 32) (.tmp 37) rfl rfl oa rfl (rd_one _ _) (by omega) (by have := HB.out.size; simp; omega) ?_; intro A' c' W' ho' hg')
                have HG := Lib.hid (app_mark (below_alloc HB.out _) oa (Nat.le_refl _) hg')
                have HO := Lib.hid ho'
                clear ho' hg' oa
                go_roundw
                case rel =>
                  first
                    | exact ⟨j + 1, c', A', by omega, by go_num, rfl, by rw [HQ.out], by rw [HD.out]; exact HO.out, HG.out⟩
                    | ((repeat apply Exists.intro); exact ⟨⟨j + 1, c', A', by omega, by go_num, rfl, by rw [HQ.out], by rw [HD.out]; exact HO.out, HG.out⟩, rfl⟩)
                case measure => simp [intOf]; omega
              · obtain rfl : j = 6 := by omega
                have HS := Lib.hid (dig_sol x HN.out.1 HN.out.2)
                generalize digL N x 6 = D at *
                have HB := Lib.hid hb
                have HO := Lib.hid ho
                have hSt := l8Stands_any A c D wr ho.rd HS.out
                generalize x / N ^ 6 = y at *
                cases hst : stdB D with
                | false =>
                  have HC2 := Lib.hid (show cnS N (x + 1) = M by rw [HCS.out, one_no hst]; omega)
                  rw [hst] at hSt
                  clear hb ho hst
                  go_wp2_with fail
                  refine hSt.mono ?_
                  rintro e w4 ⟨rfl, b4⟩
                  have HB4 := Lib.hid (HB.out.trans (b4.mono HB.out.size))
                  clear b4 hSt
                  go_wp2_with fail
                  go_roundw
                  case rel =>
                    first
                      | exact ⟨x + 1, by omega, by go_num, by rw [HC2.out], HB4.out⟩
                      | ((repeat apply Exists.intro); exact ⟨⟨x + 1, by omega, by go_num, by rw [HC2.out], HB4.out⟩, rfl⟩)
                  case measure => simp [intOf]; omega
                | true =>
                  have HC2 := Lib.hid (show cnS N (x + 1) = M + (if lessB (fstL D) D then 0 else 1) by rw [HCS.out, one_less HS.out hst])
                  rw [hst] at hSt
                  have hF := fun W (hW : Below wr.heap.size wr W) => l8First_any A c D W (ho.same hW).rd HS.out
                  generalize fstL D = F at *
                  clear hb ho hst
                  go_wp2_with fail
                  refine hSt.mono ?_
                  rintro e w4 ⟨rfl, b4⟩
                  have hF2 := hF _ b4
                  have HB4 := Lib.hid (HB.out.trans (b4.mono HB.out.size))
                  have HO4 := Lib.hid (HO.out.same b4)
                  clear b4 hSt hF
                  go_wp2_with fail
                  refine hF2.mono ?_
                  rintro e w5 ⟨A5, c5, rfl, o5, b5⟩
                  have HB5 := Lib.hid (HB4.out.trans (b5.mono HB4.out.size))
                  have hL := l8Less_any A5 A 6 c5 c F D w5 o5.rd (HO4.out.same b5).rd (by omega)
                  clear b5 hF2 o5
                  generalize lessB F D = lb at *
                  have v1 : IntKind.i64.wrap (M + 1) = M + 1 := wrap_is rfl (by omega) (by omega)
                  cases lb with
                  | true =>
                    have HC3 := Lib.hid (show cnS N (x + 1) = M by rw [HC2.out]; simp)
                    go_wp2_with fail
                    refine hL.mono ?_
                    rintro e w6 ⟨rfl, b6⟩
                    have HB6 := Lib.hid (HB5.out.trans (b6.mono HB5.out.size))
                    clear b6 hL
                    go_wp2_with fail
                    go_roundw
                    case rel =>
                      first
                        | exact ⟨x + 1, by omega, by go_num, by rw [HC3.out], HB6.out⟩
                        | ((repeat apply Exists.intro); exact ⟨⟨x + 1, by omega, by go_num, by rw [HC3.out], HB6.out⟩, rfl⟩)
                    case measure => simp [intOf]; omega
                  | false =>
                    have HC3 := Lib.hid (show cnS N (x + 1) = M + 1 by rw [HC2.out]; simp)
                    go_wp2_with fail
                    refine hL.mono ?_
                    rintro e w6 ⟨rfl, b6⟩
                    have HB6 := Lib.hid (HB5.out.trans (b6.mono HB5.out.size))
                    clear b6 hL
                    go_wp2_with fail
                    go_roundw
                    case rel =>
                      first
                        | exact ⟨x + 1, by omega, by go_num, by rw [HC3.out], HB6.out⟩
                        | ((repeat apply Exists.intro); exact ⟨⟨x + 1, by omega, by go_num, by rw [HC3.out], HB6.out⟩, rfl⟩)
                    case measure => simp [intOf]; omega
          · obtain rfl : x = P := by omega
            rw [HC.out]
            go_wp2_with fail
            refine bodyPost_ret (results_tmp2 rfl _ _ _) rfl ?_
            exact ⟨rfl, hb⟩
end Go.Proofs.Ytdnegamminhbfaa
