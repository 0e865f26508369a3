/- Joined: Srch, ParW. -/
import Derived.Test.YtiadnbdefcimiaaBit9
import Derived.Test.YtiadnbdefcimiaaWid
import Derived.Test.YtiadnbdefcimiaaPathS
import Derived.Test.YtiadnbdefcimiaaQuiTail
import Derived.Test.YtiadnbdefcimiaaPrtR
import Derived.BigQuiet
/- The model's count of ways: l9Search. -/
namespace Go.Proofs.Ytiadnbdefcimiaa
open Go.RowKit Go.Sort Go.Lib

/-- Which threes count: those that are sides, of a sum if one is given. -/
def srQ (zs : List Int) (s : Int) (t : Tri) : Bool := cloQ zs t && ((s == 0) || (sumT (fun p => zs.getD p 0) t == s))
theorem low_ex {n U : Nat} (h0 : U ≠ 0) (hU : U < 2 ^ n) : ∃ i, i < n ∧ U.testBit i = true ∧ ∀ p, p < i → U.testBit p = false := by
  have key : ∀ k, k ≤ n → (∀ p, p < k → U.testBit p = false) ∨ ∃ i, i < n ∧ U.testBit i = true ∧ ∀ p, p < i → U.testBit p = false := by
    intro k
    induction k with
    | zero => exact fun _ => .inl fun p hp => absurd hp (by omega)
    | succ k ih =>
      intro hk
      rcases ih (by omega) with h | h
      · cases hb : U.testBit k with
        | true => exact .inr ⟨k, by omega, hb, h⟩
        | false =>
          refine .inl fun p hp => ?_
          by_cases e : p = k
          · rw [e]; exact hb
          · exact h p (by omega)
      · exact .inr h
  rcases key n (Nat.le_refl _) with h | h
  · exact absurd (low_none hU h) h0
  · exact h
theorem srJ_few {n U i c : Nat} {Q : Tri → Bool} (hn : n ≤ 9) (hU : U < 2 ^ n) (hi : i < n) (hlow : ∀ p, p < i → U.testBit p = false) (hc : c ≤ n - (i + 1)) : srJ n Q U i c ≤ 81 * 81 ^ 8 := by
  have hone : ∀ j k, i < j → j < k → k < n → srT n Q U i j k ≤ 81 ^ 8 := fun j k h1 h2 h3 => srT_le fun hf => by
    refine Nat.le_trans (cov_few hn Q (n - (i + 1)) (by omega) _ (xor_lt hU (by simp only; omega) (by simp only; omega) h3) fun p hp => ?_) (Nat.pow_le_pow_right (by omega) (by omega))
    by_cases e : i = p
    · exact xor_on hf (.inl e)
    · rw [xor_off e (by simp only; omega) (by simp only; omega)]
      exact hlow p (by omega)
  have hK : ∀ e, e < c → srK n Q U i (i + 1 + e) (n - (i + 1 + e + 1)) ≤ 9 * 81 ^ 8 := fun e he => by
    refine Nat.le_trans (S_bnd _ fun x hx => hone _ _ (by omega) (by omega) (by omega)) (Nat.mul_le_mul_right _ (by omega))
  refine Nat.le_trans (S_bnd _ hK) ?_
  rw [show 81 * 81 ^ 8 = 9 * (9 * 81 ^ 8) by rw [← Nat.mul_assoc]]
  exact Nat.mul_le_mul_right _ (by omega)
theorem lt_of_cell9 {W : World} {x o : Nat} {v : Value} (h : W.cell? ⟨x, o, none⟩ = some v) : x < W.heap.size := World.block_lt_of_cell? _ _ h

set_option maxRecDepth 100000 in
set_option maxHeartbeats 60000000 in
theorem l9Search_any (A : Option Addr) (n c : Nat) (zs : List Int) (s0 : Int) (hn : n ≤ 9) (hz : ∀ j, j < n → 1 ≤ zs.getD j 0 ∧ zs.getD j 0 ≤ 60) : ∀ (d U : Nat) (w : World), d ≤ n → U < 2 ^ n → (∀ p, p < n - d → U.testBit p = false) → Rd w A n zs →
    Calls Try.prog 48 #[.slice A n c, .int .i64 U, .int .i64 s0] w fun e w' => e = .returned (.int .i64 (covN ((allQ n).filter (srQ zs s0)) U : Nat)) ∧ Below w.heap.size w w' := by
  intro d
  induction d with
  | zero =>
    intro U w _ hU h0 h
    obtain rfl := low_none hU h0
    rw [cov_zero]
    go_enter Try.func48, Try.ntmps48
    go_wp2
    go_ret
    exact ⟨rfl, Below.refl _ _⟩
  | succ d ih =>
    intro U w hd hU h0 h
    by_cases hU0 : U = 0
    · subst hU0
      rw [cov_zero]
      go_enter Try.func48, Try.ntmps48
      go_wp2
      go_ret
      exact ⟨rfl, Below.refl _ _⟩
    · obtain ⟨i, hi, hbi, hlow⟩ := low_ex hU0 hU
      have hid : n - (d + 1) ≤ i := by
        rcases Nat.lt_or_ge i (n - (d + 1)) with g | g
        · rw [h0 i g] at hbi; cases hbi
        · exact g
      have HC := Lib.hid (cov_low (Q := srQ zs s0) hi hbi hlow)
      have hU5 : U < 512 := Nat.lt_of_lt_of_le hU (Nat.le_trans (Nat.pow_le_pow_right (by omega) hn) (by decide))
      have IH := Lib.hid (fun (j k : Nat) (W : World) (hj : i < j) (hk : j < k) (hkn : k < n) (hf : fitU U (i, j, k) = true) (hW : Rd W A n zs) =>
        ih (U ^^^ thrU (i, j, k)) W (by omega) (xor_lt hU hi (by simp only; omega) hkn) (fun p hp => by
          by_cases e : i = p
          · exact xor_on hf (.inl e)
          · rw [xor_off e (by simp only; omega) (by simp only; omega)]
            by_cases g : p < i
            · exact hlow p g
            · omega) hW)
      have HLOW := Lib.hid hlow
      have HBI := Lib.hid hbi
      have HR := Lib.hid h
      have HZ := Lib.hid hz
      have HU := Lib.hid hU
      have hUne : decide ((U : Int) = 0) = false := by rw [decide_eq_false_iff_not]; omega
      have hUne2 : ((U : Int) == 0) = false := by simp; omega
      clear hz h ih hlow hbi h0 hid
      go_enter Try.func48, Try.ntmps48
      go_wp2_with fail
      go_loopw [7] (fun v wr => ∃ k : Nat, k ≤ i ∧ v = .int .i64 k ∧ wr = w) (fun v _ => i - (intOf v).toNat)
      case atStart => exact ⟨0, Nat.zero_le _, rfl, rfl⟩
      case round =>
        obtain ⟨k, hk, rfl, rfl⟩ := hrel
        have hb := bit_at U k
        by_cases hlt : k < i
        · rw [HLOW.out k hlt, if_neg Bool.false_ne_true] at hb
          go_wp2_with fail
          go_roundw
          case rel => first | exact ⟨k + 1, by omega, by go_num, by first | rfl | trivial⟩ | ((repeat apply Exists.intro); exact ⟨⟨k + 1, by omega, by go_num, by first | rfl | trivial⟩, rfl⟩)
          case measure => simp [intOf]; omega
        · obtain rfl : i = k := by omega
          rw [HBI.out, if_pos rfl] at hb
          go_wp2_with fail
          obtain ⟨w, rfl⟩ : ∃ w : World, w = wr := ⟨_, rfl⟩
          clear hb
          go_loopw [8, 9, 10, 11] (fun s v _ _ wr => ∃ j : Nat, i + 1 ≤ j ∧ j ≤ n ∧ v = .int .i64 j ∧ s = .int .i64 (srJ n (srQ zs s0) U i (j - (i + 1)) : Nat) ∧ Below w.heap.size w wr) (fun _ v _ _ _ => n - (intOf v).toNat)
          case atStart => exact ⟨i + 1, Nat.le_refl _, by omega, by go_num, by rw [Nat.sub_self]; rfl, Below.refl _ _⟩
          case round =>
            obtain ⟨j, hj1, hj2, rfl, rfl, hb⟩ := hrel
            have hfew := srJ_few (Q := srQ zs s0) (i := i) (c := j - (i + 1)) hn HU.out hi HLOW.out (by omega)
            obtain ⟨S1, eS1⟩ : ∃ S1, S1 = srJ n (srQ zs s0) U i (j - (i + 1)) := ⟨_, rfl⟩
            rw [← eS1] at hfew ⊢
            have HS1 := Lib.hid eS1
            clear eS1
            by_cases hltj : j < n
            · obtain ⟨wo, rfl⟩ : ∃ wo : World, wo = wr := ⟨_, rfl⟩
              have HB0 := Lib.hid hb
              clear hb
              have HSJ := Lib.hid (show srJ n (srQ zs s0) U i (j + 1 - (i + 1)) = S1 + srK n (srQ zs s0) U i j (n - (j + 1)) by
                rw [HS1.out, show j + 1 - (i + 1) = (j - (i + 1)) + 1 by omega, srJ, S, show i + 1 + (j - (i + 1)) = j by omega]; rfl)
              have hfew2 := srJ_few (Q := srQ zs s0) (i := i) (c := j + 1 - (i + 1)) hn HU.out hi HLOW.out (by omega)
              rw [HSJ.out] at hfew2
              have HF2 := Lib.hid hfew2
              clear hfew2
              go_wp2_with fail
              go_loopw [8, 10, 11] (fun s v _ wr => ∃ k : Nat, j + 1 ≤ k ∧ k ≤ n ∧ v = .int .i64 k ∧ s = .int .i64 (S1 + srK n (srQ zs s0) U i j (k - (j + 1)) : Nat) ∧ Below w.heap.size w wr) (fun _ v _ _ => n - (intOf v).toNat)
              case atStart => exact ⟨j + 1, Nat.le_refl _, by omega, by go_num, by rw [Nat.sub_self]; rfl, HB0.out⟩
              case round =>
                obtain ⟨k, hk1, hk2, rfl, rfl, hb⟩ := hrel
                by_cases hltk : k < n
                · obtain ⟨wp, rfl⟩ : ∃ wp : World, wp = wr := ⟨_, rfl⟩
                  obtain ⟨p1, e1⟩ : ∃ p1, p1 = 2 ^ i := ⟨_, rfl⟩
                  obtain ⟨p2, e2⟩ : ∃ p2, p2 = 2 ^ j := ⟨_, rfl⟩
                  obtain ⟨p3, e3⟩ : ∃ p3, p3 = 2 ^ k := ⟨_, rfl⟩
                  obtain ⟨T, eT⟩ : ∃ T, T = thrU (i, j, k) := ⟨_, rfl⟩
                  obtain ⟨Q2, eQ2⟩ : ∃ Q2, Q2 = p1 ||| p2 := ⟨_, rfl⟩
                  have f1 := pow_few hi hn
                  have f2 := pow_few hltj hn
                  have f3 := pow_few hltk hn
                  rw [← e1] at f1
                  rw [← e2] at f2
                  rw [← e3] at f3
                  have w1 := f1.2
                  have w2 := f2.2
                  have w3 := f3.2
                  have hQ5 : Q2 < 512 := by rw [eQ2]; exact Nat.or_lt_two_pow (n := 9) f1.1 f2.1
                  have hT5 : T < 512 := by rw [eT]; exact thr_few hn hi hltj hltk
                  have o1 := or_i64 f1.1 f2.1
                  rw [← eQ2] at o1
                  have o2 := or_i64 hQ5 f3.1
                  rw [show Q2 ||| p3 = T by rw [eQ2, e1, e2, e3, eT]; rfl] at o2
                  have a1 := and_i64 hU5 hT5
                  have HFA := Lib.hid (show U &&& T = T ↔ fitU U (i, j, k) = true by rw [eT]; exact fit_and)
                  have HAN := Lib.hid (fun (hf : fitU U (i, j, k) = true) => (by rw [eT]; exact andNot_i64 hU5 (by rw [← eT]; exact hT5) (fit_bits hf) : bits .andNot .i64 (U : Int) (T : Int) = ((U ^^^ thrU (i, j, k) : Nat) : Int)))
                  have HK := Lib.hid (show srK n (srQ zs s0) U i j (k + 1 - (j + 1)) = srK n (srQ zs s0) U i j (k - (j + 1)) + srT n (srQ zs s0) U i j k by
                    rw [show k + 1 - (j + 1) = (k - (j + 1)) + 1 by omega, srK, S, show j + 1 + (k - (j + 1)) = k by omega]; rfl)
                  have hle : S1 + srK n (srQ zs s0) U i j (k + 1 - (j + 1)) ≤ 81 * 81 ^ 8 := by
                    refine Nat.le_trans (Nat.add_le_add_left ?_ _) HF2.out
                    exact S_mono _ _ (by omega)
                  rw [HK.out, show 81 * 81 ^ 8 = 150094635296999121 by decide] at hle
                  have HST := Lib.hid (show srT n (srQ zs s0) U i j k = if fitU U (i, j, k) = true ∧ srQ zs s0 (i, j, k) = true then covN ((allQ n).filter (srQ zs s0)) (U ^^^ thrU (i, j, k)) else 0 from rfl)
                  have HQQ := Lib.hid (show srQ zs s0 (i, j, k) = (triB (zs.getD i 0) (zs.getD j 0) (zs.getD k 0) && ((s0 == 0) || (zs.getD i 0 + zs.getD j 0 + zs.getD k 0 == s0))) from rfl)
                  obtain ⟨S2, eS2⟩ : ∃ S2, S2 = srK n (srQ zs s0) U i j (k - (j + 1)) := ⟨_, rfl⟩
                  rw [← eS2] at hle ⊢
                  have HS2 := Lib.hid eS2
                  obtain ⟨V, eV⟩ : ∃ V, V = U &&& T := ⟨_, rfl⟩
                  rw [← eV] at a1 HFA
                  have HI2 := Lib.hid (fun (hf : fitU U (i, j, k) = true) (W : World) (hW : Rd W A n zs) => IH.out j k W (by omega) (by omega) hltk hf hW)
                  have hz1 := HZ.out i hi
                  have hz2 := HZ.out j hltj
                  have hz3 := HZ.out k hltk
                  obtain ⟨b, off, rfl, _, hc⟩ := (HR.out.same hb).2 (by omega)
                  have x1 := hc i hi
                  have x2 := hc j hltj
                  have x3 := hc k hltk
                  have HBp := Lib.hid hb
                  clear eT eQ2 f1 f2 f3 hQ5 hT5 eS2 eV hc hb e1 e2 e3
                  generalize zs.getD i 0 = x at *
                  generalize zs.getD j 0 = y at *
                  generalize zs.getD k 0 = z at *
                  go_wp2_with fail
                  refine wp_region_quiet_below (by kernel_rfl) (by kernel_rfl) ?_
                  repeat (go_big_quiet_step (fail))
                  refine wpQuiet_nil ?_
                  intro _ hw'
                  obtain ⟨⟨dq, osq⟩, hw''⟩ := hw'
                  subst hw''
                  have bq := below_regrown wp dq osq
                  generalize Go.Sort.grow (redrawn wp dq) osq = wq at bq ⊢
                  have HBq := Lib.hid (below_then HBp.out bq)
                  have hsq := lt_of_cell9 x1
                  have x1' := (bq.cell (p := ⟨b, off + i, none⟩) hsq).trans x1
                  have x2' := (bq.cell (p := ⟨b, off + j, none⟩) hsq).trans x2
                  have x3' := (bq.cell (p := ⟨b, off + k, none⟩) hsq).trans x3
                  have y1 := cell_regrown x1'
                  have y2 := cell_regrown x2'
                  have y3 := cell_regrown x3'
                  have g1 : (i : Int) < (n : Int) := by omega
                  have g2 : (j : Int) < (n : Int) := by omega
                  have g3 : (k : Int) < (n : Int) := by omega
                  clear x1 x2 x3 x1' x2' x3' bq o1 o2 w1 w2 w3
                  cases hf : fitU U (i, j, k) with
                  | false =>
                    have hVT : ¬ V = T := fun e => by rw [HFA.out.1 e] at hf; cases hf
                    have d1 : decide ((V : Int) = (T : Int)) = false := by rw [decide_eq_false_iff_not]; omega
                    have d2 : ((V : Int) == (T : Int)) = false := by simp; omega
                    have d3 : decide (V = T) = false := decide_eq_false hVT
                    have hs0 : srT n (srQ zs s0) U i j k = 0 := by rw [HST.out, hf, if_neg (by rintro ⟨h, _⟩; cases h)]
                    have HK2 := Lib.hid (show srK n (srQ zs s0) U i j (k + 1 - (j + 1)) = S2 by rw [HK.out, hs0, HS2.out]; rfl)
                    clear hf hs0 hle hVT
                    go_wp2_with fail
                    refine wp_region_quiet_below (by kernel_rfl) (by kernel_rfl) ?_
                    repeat (go_big_quiet_step (fail))
                    refine wpQuiet_nil ?_
                    intro _ hw'
                    obtain ⟨⟨dq, osq⟩, hw''⟩ := hw'
                    subst hw''
                    have bq := below_regrown wq dq osq
                    generalize Go.Sort.grow (redrawn wq dq) osq = wq at bq ⊢
                    go_wp2_with fail
                    go_roundw
                    case rel => first | exact ⟨k + 1, by omega, by omega, by go_num, by rw [HK2.out]; first | done | rfl | (congr 1; omega) | congr 1, below_then HBq.out bq⟩ | ((repeat apply Exists.intro); exact ⟨⟨k + 1, by omega, by omega, by go_num, by rw [HK2.out]; first | done | rfl | (congr 1; omega) | congr 1, below_then HBq.out bq⟩, rfl⟩)
                    case measure => simp [intOf]; omega
                  | true =>
                    have hVT := HFA.out.2 hf
                    subst hVT
                    have HHF := Lib.hid hf
                    have d1 : decide ((V : Int) = (V : Int)) = true := decide_eq_true rfl
                    obtain ⟨v, ev⟩ : ∃ v, triB x y z = v := ⟨_, rfl⟩
                    have HEV := Lib.hid ev
                    have cE : ∀ d os, Calls Try.prog 73 #[.int .i64 x, .int .i64 y, .int .i64 z] (grow (redrawn wq d) os) fun e w'' => e = .returned (.bool v) ∧ ∃ p : Regrown, w'' = grow (redrawn wq p.d) p.os := fun d os => (l1Three_is ev hz1.1 hz1.2 hz2.1 hz2.2 hz3.1 hz3.2 _).mono (fun e w' h => ⟨h.1, ⟨⟨d, os⟩, h.2.symm⟩⟩)
                    have hfn : Fence.wide.fn 73 := trivial
                    have cF : ∀ r d os, CallsIn Fence.wide r Try.prog 73 #[.int .i64 x, .int .i64 y, .int .i64 z] (grow (redrawn wq d) os) fun e w'' => e = .returned (.bool v) ∧ ∃ p : Regrown, w'' = grow (redrawn wq p.d) p.os := fun r d os => callsIn_wide.2 (cE d os)
                    clear hf ev cE
                    cases v with
                    | false =>
                      have HQv : srQ zs s0 (i, j, k) = false := by rw [HQQ.out, HEV.out]; rfl
                      have hs0 : srT n (srQ zs s0) U i j k = 0 := by rw [HST.out, HQv, if_neg (by rintro ⟨_, h⟩; cases h)]
                      have HK2 := Lib.hid (show srK n (srQ zs s0) U i j (k + 1 - (j + 1)) = S2 by rw [HK.out, hs0, HS2.out]; rfl)
                      clear hs0 hle HQv
                      go_wp2_with fail
                      refine (wpIn_wide (n := 5)).1 ?_
                      refine region_qtail 41 (by kernel_rfl) (by kernel_rfl) ?_
                      simp only [List.take_succ_cons, List.take_zero, List.drop_succ_cons, List.drop_zero]
                      repeat (quiet_step_in (with_reducible exact cF _ _ _))
                      refine wpQuietIn_nil ?_
                      intro _ hw'
                      obtain ⟨⟨dq, osq⟩, hw''⟩ := hw'
                      subst hw''
                      have bq := below_regrown wq dq osq
                      generalize Go.Sort.grow (redrawn wq dq) osq = wq at bq ⊢
                      gi_wp2_with fail
                      go_wp2_with fail
                      go_roundw
                      case rel => first | exact ⟨k + 1, by omega, by omega, by go_num, by rw [HK2.out]; first | done | rfl | (congr 1; omega) | congr 1, below_then HBq.out bq⟩ | ((repeat apply Exists.intro); exact ⟨⟨k + 1, by omega, by omega, by go_num, by rw [HK2.out]; first | done | rfl | (congr 1; omega) | congr 1, below_then HBq.out bq⟩, rfl⟩)
                      case measure => simp [intOf]; omega
                    | true =>
                      by_cases hs : s0 = 0
                      · have HQv : srQ zs s0 (i, j, k) = true := by rw [HQQ.out, HEV.out, hs]; rfl
                        have hse : (s0 == 0) = true := by simpa using hs
                        have hse2 : decide (s0 = 0) = true := decide_eq_true hs
                        clear hs
                        obtain ⟨C, eC⟩ : ∃ C, C = covN ((allQ n).filter (srQ zs s0)) (U ^^^ thrU (i, j, k)) := ⟨_, rfl⟩
                        have hs0 : srT n (srQ zs s0) U i j k = C := by rw [HST.out, HQv, if_pos ⟨HHF.out, rfl⟩, eC]
                        have HK2 := Lib.hid (show srK n (srQ zs s0) U i j (k + 1 - (j + 1)) = S2 + C by rw [HK.out, hs0, HS2.out])
                        rw [hs0] at hle
                        have v1 : IntKind.i64.wrap ((S1 : Int) + (S2 : Int) + (C : Int)) = ((S1 + (S2 + C) : Nat) : Int) := wrap_is (by omega) (by omega) (by omega)
                        have HIC := Lib.hid (HI2.out HHF.out)
                        rw [← eC] at HIC
                        have an := HAN.out HHF.out
                        obtain ⟨X, eX⟩ : ∃ X, X = U ^^^ thrU (i, j, k) := ⟨_, rfl⟩
                        rw [← eX] at an HIC
                        clear hs0 hle HQv eC eX
                        go_wp2_with fail
                        refine (wpIn_wide (n := 5)).1 ?_
                        refine region_qtail 41 (by kernel_rfl) (by kernel_rfl) ?_
                        simp only [List.take_succ_cons, List.take_zero, List.drop_succ_cons, List.drop_zero]
                        repeat (quiet_step_in (with_reducible exact cF _ _ _))
                        refine wpQuietIn_nil ?_
                        intro _ hw'
                        obtain ⟨⟨dq, osq⟩, hw''⟩ := hw'
                        subst hw''
                        have bq := below_regrown wq dq osq
                        generalize Go.Sort.grow (redrawn wq dq) osq = wq at bq ⊢
                        gi_wp2_with fail
                        clear y1 y2 y3 cF
                        go_wp2_with fail
                        refine (HIC.out _ (HR.out.same (below_then HBq.out bq))).mono ?_
                        rintro e w8 ⟨rfl, b8⟩
                        have HB8 := Lib.hid (below_then (below_then HBq.out bq) b8)
                        clear b8
                        go_wp2_with fail
                        go_roundw
                        case rel => first | exact ⟨k + 1, by omega, by omega, by go_num, by rw [HK2.out]; first | done | rfl | (congr 1; omega) | congr 1, HB8.out⟩ | ((repeat apply Exists.intro); exact ⟨⟨k + 1, by omega, by omega, by go_num, by rw [HK2.out]; first | done | rfl | (congr 1; omega) | congr 1, HB8.out⟩, rfl⟩)
                        case measure => simp [intOf]; omega
                      · have hse : (s0 == 0) = false := by simpa using hs
                        have hse2 : decide (s0 = 0) = false := decide_eq_false hs
                        have va : IntKind.i64.wrap (x + y) = x + y := wrap_is rfl (by omega) (by omega)
                        have vb : IntKind.i64.wrap (x + y + z) = x + y + z := wrap_is rfl (by omega) (by omega)
                        by_cases hsum : x + y + z = s0
                        · have HQv : srQ zs s0 (i, j, k) = true := by rw [HQQ.out, HEV.out, hsum]; simp
                          have hsm : decide (x + y + z = s0) = true := decide_eq_true hsum
                          have hsm2 : (x + y + z == s0) = true := by simpa using hsum
                          obtain ⟨C, eC⟩ : ∃ C, C = covN ((allQ n).filter (srQ zs s0)) (U ^^^ thrU (i, j, k)) := ⟨_, rfl⟩
                          have hs0 : srT n (srQ zs s0) U i j k = C := by rw [HST.out, HQv, if_pos ⟨HHF.out, rfl⟩, eC]
                          have HK2 := Lib.hid (show srK n (srQ zs s0) U i j (k + 1 - (j + 1)) = S2 + C by rw [HK.out, hs0, HS2.out])
                          rw [hs0] at hle
                          have v1 : IntKind.i64.wrap ((S1 : Int) + (S2 : Int) + (C : Int)) = ((S1 + (S2 + C) : Nat) : Int) := wrap_is (by omega) (by omega) (by omega)
                          have HIC := Lib.hid (HI2.out HHF.out)
                          rw [← eC] at HIC
                          have an := HAN.out HHF.out
                          obtain ⟨X, eX⟩ : ∃ X, X = U ^^^ thrU (i, j, k) := ⟨_, rfl⟩
                          rw [← eX] at an HIC
                          clear hs0 hle HQv eC eX
                          go_wp2_with fail
                          refine (wpIn_wide (n := 5)).1 ?_
                          refine region_qtail 41 (by kernel_rfl) (by kernel_rfl) ?_
                          simp only [List.take_succ_cons, List.take_zero, List.drop_succ_cons, List.drop_zero]
                          repeat (quiet_step_in (with_reducible exact cF _ _ _))
                          refine wpQuietIn_nil ?_
                          intro _ hw'
                          obtain ⟨⟨dq, osq⟩, hw''⟩ := hw'
                          subst hw''
                          have bq := below_regrown wq dq osq
                          generalize Go.Sort.grow (redrawn wq dq) osq = wq at bq ⊢
                          gi_wp2_with fail
                          clear y1 y2 y3 cF
                          go_wp2_with fail
                          refine (HIC.out _ (HR.out.same (below_then HBq.out bq))).mono ?_
                          rintro e w8 ⟨rfl, b8⟩
                          have HB8 := Lib.hid (below_then (below_then HBq.out bq) b8)
                          clear b8
                          go_wp2_with fail
                          go_roundw
                          case rel => first | exact ⟨k + 1, by omega, by omega, by go_num, by rw [HK2.out]; first | done | rfl | (congr 1; omega) | congr 1, HB8.out⟩ | ((repeat apply Exists.intro); exact ⟨⟨k + 1, by omega, by omega, by go_num, by rw [HK2.out]; first | done | rfl | (congr 1; omega) | congr 1, HB8.out⟩, rfl⟩)
                          case measure => simp [intOf]; omega
                        · have HQv : srQ zs s0 (i, j, k) = false := by rw [HQQ.out, HEV.out, hse]; simpa using hsum
                          have hsm : decide (x + y + z = s0) = false := decide_eq_false hsum
                          have hsm2 : (x + y + z == s0) = false := by simpa using hsum
                          have hs0 : srT n (srQ zs s0) U i j k = 0 := by rw [HST.out, HQv, if_neg (by rintro ⟨_, h⟩; cases h)]
                          have HK2 := Lib.hid (show srK n (srQ zs s0) U i j (k + 1 - (j + 1)) = S2 by rw [HK.out, hs0, HS2.out]; rfl)
                          clear hs0 hle HQv
                          go_wp2_with fail
                          refine (wpIn_wide (n := 5)).1 ?_
                          refine region_qtail 41 (by kernel_rfl) (by kernel_rfl) ?_
                          simp only [List.take_succ_cons, List.take_zero, List.drop_succ_cons, List.drop_zero]
                          repeat (quiet_step_in (with_reducible exact cF _ _ _))
                          refine wpQuietIn_nil ?_
                          intro _ hw'
                          obtain ⟨⟨dq, osq⟩, hw''⟩ := hw'
                          subst hw''
                          have bq := below_regrown wq dq osq
                          generalize Go.Sort.grow (redrawn wq dq) osq = wq at bq ⊢
                          gi_wp2_with fail
                          go_wp2_with fail
                          go_roundw
                          case rel => first | exact ⟨k + 1, by omega, by omega, by go_num, by rw [HK2.out]; first | done | rfl | (congr 1; omega) | congr 1, below_then HBq.out bq⟩ | ((repeat apply Exists.intro); exact ⟨⟨k + 1, by omega, by omega, by go_num, by rw [HK2.out]; first | done | rfl | (congr 1; omega) | congr 1, below_then HBq.out bq⟩, rfl⟩)
                          case measure => simp [intOf]; omega
                · obtain rfl : k = n := by omega
                  have HE := Lib.hid HSJ.out
                  go_wp2_with fail
                  go_roundw
                  case rel => first | exact ⟨j + 1, by omega, by omega, by go_num, by rw [HE.out], hb⟩ | ((repeat apply Exists.intro); exact ⟨⟨j + 1, by omega, by omega, by go_num, by rw [HE.out], hb⟩, rfl⟩)
                  case measure => simp [intOf]; omega
            · obtain rfl : j = n := by omega
              have HE := Lib.hid (show S1 = covN ((allQ j).filter (srQ zs s0)) U by rw [HC.out, HS1.out])
              clear hfew
              go_wp2_with fail
              go_ret
              exact ⟨by rw [← HE.out]; rfl, hb⟩
end Go.Proofs.Ytiadnbdefcimiaa

/- The model's counts of ways: PartWays, PartMay, PartEqual. -/
namespace Go.Proofs.Ytiadnbdefcimiaa
open Go.RowKit Go.Sort Go.Lib

theorem srQ_zero (zs : List Int) : srQ zs 0 = cloQ zs := by
  funext t
  unfold srQ
  simp
theorem srQ_sum {zs : List Int} {s : Int} (hs : s ≠ 0) : srQ zs s = fun t => cloQ zs t && (sumT (fun p => zs.getD p 0) t == s) := by
  funext t
  unfold srQ
  rw [show (s == 0) = false by simpa using hs, Bool.false_or]
theorem full_any (A : Option Addr) (n c : Nat) (zs : List Int) (s : Int) (hn : n ≤ 9) (hz : ∀ j, j < n → 1 ≤ zs.getD j 0 ∧ zs.getD j 0 ≤ 60) (w : World) (h : Rd w A n zs) (F : Nat) (hF : F = 2 ^ n - 1) :
    Calls Try.prog 48 #[.slice A n c, .int .i64 (F : Int), .int .i64 s] w fun e w' => e = .returned (.int .i64 (wayP (srQ zs s) n : Nat)) ∧ Below w.heap.size w w' := by
  subst hF
  exact l9Search_any A n c zs s hn hz n (2 ^ n - 1) w (Nat.le_refl _) (by have := Nat.one_le_two_pow (n := n); omega) (fun p hp => absurd hp (by omega)) h
set_option maxRecDepth 100000 in
set_option maxHeartbeats 4000000 in
theorem specPartWays_any (A : Option Addr) (n c : Nat) (xs : List Int) (w : World) (h : Rd w A n xs) (hn : n ≤ 1048576) :
    Calls Try.prog 24 #[.slice A n c] w fun e w' => e = .returned (.tuple #[.int .i64 (waysM xs), .bool (bundleB xs)]) ∧ Below w.heap.size w w' := by
  by_cases hb : bundleB xs = true
  · have HB := Lib.hid hb
    have hbd := bundleB_true hb
    have hn9 : n ≤ 9 := by rw [← h.1]; exact hbd.2.1
    have hz := hbd.2.2.1
    have hM := waysM_yes hb
    rw [h.1] at hz hM
    have HM := Lib.hid hM
    have HR := Lib.hid h
    have hN : 2 ^ n ≤ 512 := Nat.le_trans (Nat.pow_le_pow_right (by omega) hn9) (by decide)
    have hN1 := Nat.one_le_two_pow (n := n)
    obtain ⟨N, eN⟩ : ∃ N, N = 2 ^ n := ⟨_, rfl⟩
    have hpw : IntKind.i64.wrap ((2 : Int) ^ n) = (N : Int) := by
      have e : (2 : Int) ^ n = ((2 ^ n : Nat) : Int) := by simp
      rw [e, ← eN]
      rw [← eN] at hN
      exact wrap_is rfl (by omega) (by omega)
    have hpw2 : (2 : Int) ^ n = (N : Int) := by rw [eN]; simp
    rw [hpw2] at hpw
    rw [← eN] at hN hN1
    have hsub : IntKind.i64.wrap ((N : Int) - 1) = ((N - 1 : Nat) : Int) := wrap_is (by omega) (by omega) (by omega)
    have HS := Lib.hid (fun W hW => full_any A n c xs 0 hn9 hz W hW (N - 1) (by rw [eN]))
    rw [srQ_zero, ← HM.out] at HS
    obtain ⟨F, eF⟩ : ∃ F, F = N - 1 := ⟨_, rfl⟩
    rw [← eF] at hsub HS
    clear hb hbd hz h eN eF hM hN hN1
    go_enter Try.func24, Try.ntmps24
    go_wp2_with fail
    refine (l1Bundle_any _ _ _ xs _ HR.out hn).mono ?_
    rintro e w1 ⟨rfl, b1⟩
    rw [HB.out]
    have HS1 := Lib.hid (HS.out w1 (HR.out.same b1))
    have HB1 := Lib.hid b1
    clear b1
    go_wp2_with fail
    refine HS1.out.mono ?_
    rintro e w2 ⟨rfl, b2⟩
    have HB2 := Lib.hid (below_then HB1.out b2)
    clear b2
    go_wp2_with fail
    go_ret2
    exact ⟨ret_ib2 HB.out, HB2.out⟩
  · rw [Bool.not_eq_true] at hb
    have HM := Lib.hid (waysM_no hb)
    have HB := Lib.hid hb
    clear hb
    go_enter Try.func24, Try.ntmps24
    go_wp2_with fail
    refine (l1Bundle_any _ _ _ xs _ h hn).mono ?_
    rintro e w1 ⟨rfl, b1⟩
    rw [HB.out]
    go_wp2_with fail
    go_ret2
    exact ⟨by rw [HB.out, HM.out]; rfl, b1⟩
set_option maxRecDepth 100000 in
set_option maxHeartbeats 4000000 in
theorem specPartMay_any (A : Option Addr) (n c : Nat) (xs : List Int) (w : World) (h : Rd w A n xs) (hn : n ≤ 1048576) :
    Calls Try.prog 18 #[.slice A n c] w fun e w' => e = .returned (.bool (mayM xs)) ∧ Below w.heap.size w w' := by
  by_cases hb : bundleB xs = true
  · have HB := Lib.hid hb
    have hbd := bundleB_true hb
    have hn9 : n ≤ 9 := by rw [← h.1]; exact hbd.2.1
    have hz := hbd.2.2.1
    have hM := waysM_yes hb
    rw [h.1] at hz hM
    have HM := Lib.hid (show mayM xs = decide (0 < waysM xs) by unfold mayM; rw [hb]; rfl)
    have HR := Lib.hid h
    have hN : 2 ^ n ≤ 512 := Nat.le_trans (Nat.pow_le_pow_right (by omega) hn9) (by decide)
    have hN1 := Nat.one_le_two_pow (n := n)
    obtain ⟨N, eN⟩ : ∃ N, N = 2 ^ n := ⟨_, rfl⟩
    have hpw : IntKind.i64.wrap ((2 : Int) ^ n) = (N : Int) := by
      have e : (2 : Int) ^ n = ((2 ^ n : Nat) : Int) := by simp
      rw [e, ← eN]
      rw [← eN] at hN
      exact wrap_is rfl (by omega) (by omega)
    have hpw2 : (2 : Int) ^ n = (N : Int) := by rw [eN]; simp
    rw [hpw2] at hpw
    rw [← eN] at hN hN1
    have hsub : IntKind.i64.wrap ((N : Int) - 1) = ((N - 1 : Nat) : Int) := wrap_is (by omega) (by omega) (by omega)
    have HS := Lib.hid (fun W hW => full_any A n c xs 0 hn9 hz W hW (N - 1) (by rw [eN]))
    rw [srQ_zero, ← hM] at HS
    obtain ⟨F, eF⟩ : ∃ F, F = N - 1 := ⟨_, rfl⟩
    rw [← eF] at hsub HS
    generalize waysM xs = z at *
    clear hb hbd hz h eN eF hM hN hN1
    go_enter Try.func18, Try.ntmps18
    go_wp2_with fail
    refine (l1Bundle_any _ _ _ xs _ HR.out hn).mono ?_
    rintro e w1 ⟨rfl, b1⟩
    rw [HB.out]
    have HS1 := Lib.hid (HS.out w1 (HR.out.same b1))
    have HB1 := Lib.hid b1
    clear b1
    go_wp2_with fail
    refine HS1.out.mono ?_
    rintro e w2 ⟨rfl, b2⟩
    have HB2 := Lib.hid (below_then HB1.out b2)
    clear b2
    go_wp2_with fail
    go_ret
    exact ⟨by rw [HM.out]; first | done | rfl | simp, HB2.out⟩
  · rw [Bool.not_eq_true] at hb
    have HM := Lib.hid (show mayM xs = false by unfold mayM; rw [hb]; rfl)
    have HB := Lib.hid hb
    clear hb
    go_enter Try.func18, Try.ntmps18
    go_wp2_with fail
    refine (l1Bundle_any _ _ _ xs _ h hn).mono ?_
    rintro e w1 ⟨rfl, b1⟩
    rw [HB.out]
    go_wp2_with fail
    go_ret
    exact ⟨by rw [HM.out]; rfl, b1⟩

theorem sum_pos_of {xs : List Int} {n : Nat} (hl : xs.length = n) (hz : ∀ j, j < n → 1 ≤ xs.getD j 0 ∧ xs.getD j 0 ≤ 60) : ∀ k, k ≤ n → (k : Int) ≤ sI k (fun p => xs.getD p 0) ∧ sI k (fun p => xs.getD p 0) ≤ 60 * (k : Int)
  | 0, _ => by simp [sI]
  | k + 1, hk => by
    have ih := sum_pos_of hl hz k (by omega)
    have := hz k (by omega)
    rw [sI]
    push_cast
    omega
set_option maxRecDepth 100000 in
set_option maxHeartbeats 8000000 in
theorem specPartEqual_any (A : Option Addr) (n c : Nat) (xs : List Int) (w : World) (h : Rd w A n xs) (hn : n ≤ 1048576) :
    Calls Try.prog 41 #[.slice A n c] w fun e w' => e = .returned (.tuple #[.int .i64 (eqlB xs), .bool (bundleB xs)]) ∧ Below w.heap.size w w' := by
  by_cases hb : bundleB xs = true
  · have HB := Lib.hid hb
    have hbd := bundleB_true hb
    have hn9 : n ≤ 9 := by rw [← h.1]; exact hbd.2.1
    have hn1 : 1 ≤ n := by rw [← h.1]; exact hbd.1
    have hz := hbd.2.2.1
    have hM := eqlB_yes hb
    rw [h.1] at hz hM
    have HR := Lib.hid h
    have HSU := Lib.hid (fun W (hW : Below w.heap.size w W) => specSum_any A n c xs W (h.same hW) hn (bundle_small hbd))
    have hsI : sumL xs = sI n (fun p => xs.getD p 0) := by rw [sumL_eq, ← sI_sum, h.1]
    have hsb := sum_pos_of h.1 hz n (Nat.le_refl _)
    rw [← hsI] at hsb
    unfold evnP at hM
    rw [← hsI] at hM
    obtain ⟨d, hd⟩ : ∃ d, d = n / 3 := ⟨_, rfl⟩
    rw [← hd] at hM
    have hq1 : Int.tdiv (n : Int) 3 = (d : Int) := by rw [hd]; rfl
    have hq2 : (n : Int) / 3 = (d : Int) := by omega
    by_cases h3 : n % 3 = 0
    · have hr1 : Int.tmod (n : Int) 3 = 0 := by rw [Int.tmod_eq_emod_of_nonneg (by omega)]; omega
      have hr2 : (n : Int) % 3 = 0 := by omega
      have hd1 : 1 ≤ d := by omega
      have hmx : (if (1 : Int) < (d : Int) then (d : Int) else 1) = (d : Int) := by split <;> omega
      have hmx2 : max (1 : Int) (d : Int) = (d : Int) := by omega
      have hdz : ((d : Int) == 0) = false := by simp; omega
      have hdz2 : decide ((d : Int) = 0) = false := by rw [decide_eq_false_iff_not]; omega
      have hdz3 : ¬ (d : Int) = 0 := by omega
      have hN : 2 ^ n ≤ 512 := Nat.le_trans (Nat.pow_le_pow_right (by omega) hn9) (by decide)
      have hN1 := Nat.one_le_two_pow (n := n)
      obtain ⟨N, eN⟩ : ∃ N, N = 2 ^ n := ⟨_, rfl⟩
      have hpw : IntKind.i64.wrap ((2 : Int) ^ n) = (N : Int) := by
        have e : (2 : Int) ^ n = ((2 ^ n : Nat) : Int) := by simp
        rw [e, ← eN]
        rw [← eN] at hN
        exact wrap_is rfl (by omega) (by omega)
      have hpw2 : (2 : Int) ^ n = (N : Int) := by rw [eN]; simp
      rw [hpw2] at hpw
      rw [← eN] at hN hN1
      have hsub : IntKind.i64.wrap ((N : Int) - 1) = ((N - 1 : Nat) : Int) := wrap_is (by omega) (by omega) (by omega)
      obtain ⟨z, ez⟩ : ∃ z, z = sumL xs := ⟨_, rfl⟩
      rw [← ez] at hsb HSU hM
      obtain ⟨q, eq⟩ : ∃ q, q = z / (d : Int) := ⟨_, rfl⟩
      have hqd : Int.tdiv z (d : Int) = q := by rw [Int.tdiv_eq_ediv_of_nonneg (by omega), eq]
      have hqd2 : z / (d : Int) = q := eq.symm
      obtain ⟨r, er⟩ : ∃ r, r = z % (d : Int) := ⟨_, rfl⟩
      have hrd : Int.tmod z (d : Int) = r := by rw [Int.tmod_eq_emod_of_nonneg (by omega), er]
      have hrd2 : z % (d : Int) = r := er.symm
      by_cases hr0 : r = 0
      · subst hr0
        have hzq : z = (d : Int) * q := by rw [← Int.mul_ediv_add_emod z (d : Int), hrd2, hqd2, Int.add_zero]
        have hqb : 0 ≤ q ∧ q ≤ z := by rw [eq]; exact ⟨Int.ediv_nonneg (by omega) (by omega), Int.ediv_le_self _ (by omega)⟩
        have hqw : IntKind.i64.wrap q = q := wrap_is rfl (by omega) (by omega)
        have hq0 : q ≠ 0 := fun e => by rw [e, Int.mul_zero] at hzq; omega
        have HS := Lib.hid (fun W hW => full_any A n c xs q hn9 hz W hW (N - 1) (by rw [eN]))
        rw [srQ_sum hq0] at HS
        rw [if_pos ⟨h3, hrd2⟩, hqd2] at hM
        have HM := Lib.hid hM
        rw [← HM.out] at HS
        obtain ⟨F, eF⟩ : ∃ F, F = N - 1 := ⟨_, rfl⟩
        rw [← eF] at hsub HS
        generalize eqlB xs = v at *
        clear hb hbd hz h eN eF hM hN hN1 hsI hsb hd h3 ez eq er hzq hq0 hqb
        go_enter Try.func41, Try.ntmps41
        go_wp2_with fail
        refine (l1Bundle_any _ _ _ xs _ HR.out hn).mono ?_
        rintro e w1 ⟨rfl, b1⟩
        rw [HB.out]
        have HB1 := Lib.hid b1
        clear b1
        go_wp2_with fail
        refine (HSU.out w1 HB1.out).mono ?_
        rintro e w2 ⟨rfl, b2⟩
        have hb2 := below_then HB1.out b2
        have HB2 := Lib.hid hb2
        have cS : ∀ dr os, Calls Try.prog 80 #[.slice A n c] (grow (redrawn w2 dr) os) fun e w'' => e = .returned (.int .i64 z) ∧ ∃ p : Regrown, w'' = grow (redrawn w2 p.d) p.os := fun dr os => Calls.regrown_of (HSU.out _ (below_then hb2 (below_regrown w2 dr os)))
        have cL : ∀ dr os, Calls Try.prog 48 #[.slice A n c, .int .i64 (F : Int), .int .i64 q] (grow (redrawn w2 dr) os) fun e w'' => e = .returned (.int .i64 v) ∧ ∃ p : Regrown, w'' = grow (redrawn w2 p.d) p.os := fun dr os => Calls.regrown_of (HS.out _ (HR.out.same (below_then hb2 (below_regrown w2 dr os))))
        clear b2 hb2
        go_wp2_with fail
        refine wp_region_quiet_below (by kernel_rfl) (by kernel_rfl) ?_
        repeat (go_big_quiet_step (first | with_reducible exact cS _ _ | with_reducible exact cL _ _))
        refine wpQuiet_nil ?_
        intro _ hw'
        obtain ⟨⟨dq, osq⟩, hw''⟩ := hw'
        subst hw''
        have bq := below_regrown w2 dq osq
        generalize Go.Sort.grow (redrawn w2 dq) osq = wq at bq ⊢
        go_wp2_with fail
        go_ret2
        exact ⟨ret_ib2 HB.out, below_then HB2.out bq⟩
      · have HM := Lib.hid (show eqlB xs = 0 by rw [hM, if_neg (fun h => hr0 (hrd2.symm.trans h.2))]; rfl)
        have hne : (r != 0) = true := by simpa using hr0
        have hne2 : decide (r = 0) = false := decide_eq_false hr0
        clear hb hbd hz h eN hM hN hN1 hsI hsb hd h3 ez eq er
        go_enter Try.func41, Try.ntmps41
        go_wp2_with fail
        refine (l1Bundle_any _ _ _ xs _ HR.out hn).mono ?_
        rintro e w1 ⟨rfl, b1⟩
        rw [HB.out]
        have HB1 := Lib.hid b1
        clear b1
        go_wp2_with fail
        refine (HSU.out w1 HB1.out).mono ?_
        rintro e w2 ⟨rfl, b2⟩
        have HB2 := Lib.hid (below_then HB1.out b2)
        clear b2
        go_wp2_with fail
        go_ret2
        exact ⟨by rw [HB.out, HM.out]; rfl, HB2.out⟩
    · have HM := Lib.hid (show eqlB xs = 0 by rw [hM, if_neg (fun h => h3 h.1)]; rfl)
      obtain ⟨r, er⟩ : ∃ r, r = n % 3 := ⟨_, rfl⟩
      rw [← er] at h3
      have hr1 : Int.tmod (n : Int) 3 = (r : Int) := by rw [Int.tmod_eq_emod_of_nonneg (by omega)]; omega
      have hr2 : (n : Int) % 3 = (r : Int) := by omega
      have hne : ((r : Int) != 0) = true := by simp; omega
      have hne2 : decide ((r : Int) = 0) = false := by rw [decide_eq_false_iff_not]; omega
      have hne3 : decide (r = 0) = false := decide_eq_false h3
      clear hb hbd hz h hM hsI hsb hd er HSU
      go_enter Try.func41, Try.ntmps41
      go_wp2_with fail
      refine (l1Bundle_any _ _ _ xs _ HR.out hn).mono ?_
      rintro e w1 ⟨rfl, b1⟩
      rw [HB.out]
      go_wp2_with fail
      go_ret2
      exact ⟨by rw [HB.out, HM.out]; rfl, b1⟩
  · rw [Bool.not_eq_true] at hb
    have HM := Lib.hid (eqlB_no hb)
    have HB := Lib.hid hb
    clear hb
    go_enter Try.func41, Try.ntmps41
    go_wp2_with fail
    refine (l1Bundle_any _ _ _ xs _ h hn).mono ?_
    rintro e w1 ⟨rfl, b1⟩
    rw [HB.out]
    go_wp2_with fail
    go_ret2
    exact ⟨by rw [HB.out, HM.out]; rfl, b1⟩
end Go.Proofs.Ytiadnbdefcimiaa
