/- TriCount, TriAll, TriInside of the specification. -/
import Derived.Test.YtcfmnjkgebopcaaSpecAll
import Derived.Test.YtcfmnjkgebopcaaTri3
namespace Go.Proofs.Ytcfmnjkgebopcaa
open Go.RowKit

theorem OwnT.empty (w : World) : OwnT (w.alloc (.cells #[] 23)) w.heap.size (some ⟨w.heap.size, 0, none⟩) 0 0 [] [] :=
  ⟨World.ownsRow_lit (e := 23) (size := 1) w #[] 0 (Nat.le_refl _) (by unfold maxLen; omega) (by simp), rfl, List.nodup_nil, fun i hi => absurd hi (by simp)⟩
/-- The triangles of a round, none if it is out of its range. -/
def triAllM (p : Int) : List T3 := if inB p 1 60 then allP p else []
theorem triAllM_yes {p : Int} (h : inB p 1 60 = true) : triAllM p = allP p := by unfold triAllM; rw [if_pos h]
theorem triAllM_no {p : Int} (h : inB p 1 60 = false) : triAllM p = [] := by unfold triAllM; rw [h]; rfl

set_option maxHeartbeats 1000000 in
theorem specTriCount_any (p : Int) (w : World) : Calls Try.prog 70 #[.int .i64 p] w fun e w' => e = .returned (.tuple #[.int .i64 (rndM p), .bool (inB p 1 60)]) ∧ Below w.heap.size w w' := by
  by_cases h : inB p 1 60 = true
  · have hp := h
    unfold inB at hp
    simp at hp
    have hL := l2All_any p w hp.1 hp.2
    have HE := Lib.hid (len_allP hp.1 hp.2)
    have HI := Lib.hid h
    rw [h]
    clear h
    go_enter Try.func70, Try.ntmps70
    go_wp2_with (go_at_call 121; refine (l6In_is HI.out _).mono ?_; rintro e w' ⟨rfl, rfl⟩)
    refine hL.mono ?_
    rintro e w2 ⟨A, c, rfl, ho, b2⟩
    clear ho
    go_wp2_with fail
    rw [HE.out]
    go_ret2
    exact ⟨rfl, b2⟩
  · rw [Bool.not_eq_true] at h
    have HI := Lib.hid h
    rw [rndM_no h, h]
    clear h
    go_enter Try.func70, Try.ntmps70
    go_wp2_with (go_at_call 121; refine (l6In_is HI.out _).mono ?_; rintro e w' ⟨rfl, rfl⟩)
    go_ret2
    exact ⟨rfl, Below.refl _ _⟩

set_option maxHeartbeats 1000000 in
theorem specTriAll_any (p : Int) (w : World) : Calls Try.prog 66 #[.int .i64 p] w fun e w' => ∃ A c, e = .returned (.tuple #[.slice A (triAllM p).length c, .bool (inB p 1 60)]) ∧ (∃ gs, OwnT w' w.heap.size A (triAllM p).length c gs (triAllM p)) ∧ Below w.heap.size w w' := by
  by_cases h : inB p 1 60 = true
  · have hp := h
    unfold inB at hp
    simp at hp
    have hL := l2All_any p w hp.1 hp.2
    have HI := Lib.hid h
    rw [triAllM_yes h, h]
    clear h
    go_enter Try.func66, Try.ntmps66
    go_wp2_with (go_at_call 121; refine (l6In_is HI.out _).mono ?_; rintro e w' ⟨rfl, rfl⟩)
    refine hL.mono ?_
    rintro e w2 ⟨A, c, rfl, ho, b2⟩
    have HO := Lib.hid ho
    clear ho
    go_wp2_with fail
    go_ret2
    exact ⟨A, c, rfl, HO.out, b2⟩
  · rw [Bool.not_eq_true] at h
    have HI := Lib.hid h
    rw [triAllM_no h, h]
    clear h
    go_enter Try.func66, Try.ntmps66
    go_wp2_with (go_at_call 121; refine (l6In_is HI.out _).mono ?_; rintro e w' ⟨rfl, rfl⟩)
    go_ret2
    exact ⟨_, 0, rfl, ⟨[], OwnT.empty w⟩, below_alloc (Below.refl _ _) _⟩

theorem insA_bd (c b : Int) : ∀ a, 0 ≤ insA c b a ∧ insA c b a ≤ a
  | 0 => by simp [insA]
  | a + 1 => by
    have := insA_bd c b a
    rw [insA]
    split <;> omega
theorem insB_bd (c : Int) : ∀ b, b ≤ 20 → 0 ≤ insB c b ∧ insB c b ≤ 20 * b
  | 0, _ => by simp [insB]
  | b + 1, h => by
    have h1 := insB_bd c b (by omega)
    have h2 := insA_bd c ((b : Int) + 1) (b + 1)
    rw [insB]
    omega
theorem insC_bd : ∀ c, c ≤ 20 → 0 ≤ insC c ∧ insC c ≤ 400 * c
  | 0, _ => by simp [insC]
  | c + 1, h => by
    have h1 := insC_bd c (by omega)
    have h2 := insB_bd ((c : Int) + 1) (c + 1) h
    rw [insC]
    omega
theorem insM_no {n : Int} (h : inB n 1 20 = false) : insM n = 0 := by unfold insM; rw [h]; rfl
theorem insM_yes {n : Nat} (h : inB n 1 20 = true) : insM n = insC n := by unfold insM; rw [if_pos h]; rfl

set_option maxRecDepth 100000 in
set_option maxHeartbeats 4000000 in
theorem specTriInside_any (n : Int) (w : World) : Calls Try.prog 88 #[.int .i64 n] w fun e w' => e = .returned (.tuple #[.int .i64 (insM n), .bool (inB n 1 20)]) ∧ Below w.heap.size w w' := by
  by_cases h : inB n 1 20 = true
  · have hp := h
    unfold inB at hp
    simp at hp
    obtain ⟨N, rfl⟩ : ∃ N : Nat, n = N := ⟨n.toNat, by omega⟩
    have HI := Lib.hid h
    rw [insM_yes h, h]
    clear h
    have hN : N ≤ 20 := by omega
    go_enter Try.func88, Try.ntmps88
    go_wp2_with (go_at_call 121; refine (l6In_is HI.out _).mono ?_; rintro e w' ⟨rfl, rfl⟩)
    go_loopw [4, 5, 6, 7] (fun v a _ _ wr => ∃ (i : Nat) (m : Int), i ≤ N ∧ a = .int .i64 ((i : Int) + 1) ∧ v = .int .i64 m ∧ m = insC i ∧ wr = w) (fun _ a _ _ _ => (N + 1 - intOf a).toNat)
    case atStart => exact ⟨0, 0, Nat.zero_le _, by simp, rfl, rfl, rfl⟩
    case round =>
      obtain ⟨i, m, hi, rfl, rfl, hm, rfl⟩ := hrel
      have HM := Lib.hid hm
      clear hm
      by_cases hlt : i < N
      · have hd : decide ((i : Int) + 1 ≤ (N : Int)) = true := by simp; omega
        obtain ⟨wo, rfl⟩ : ∃ wo : World, wo = wr := ⟨_, rfl⟩
        go_wp2_with fail
        go_loopw [4, 6, 7] (fun v a _ wr => ∃ (j : Nat) (m : Int), j ≤ i + 1 ∧ a = .int .i64 ((j : Int) + 1) ∧ v = .int .i64 m ∧ m = insC i + insB ((i : Int) + 1) j ∧ wr = wo) (fun _ a _ _ => ((i : Int) + 2 - intOf a).toNat)
        case atStart => exact ⟨0, m, Nat.zero_le _, by simp, rfl, by rw [HM.out]; simp [insB], rfl⟩
        case round =>
          obtain ⟨j, m, hj, rfl, rfl, hm, rfl⟩ := hrel
          have HM2 := Lib.hid hm
          clear hm HM
          by_cases hlt2 : j < i + 1
          · have hd2 : decide ((j : Int) + 1 ≤ (i : Int) + 1) = true := by simp; omega
            obtain ⟨wo, rfl⟩ : ∃ wo : World, wo = wr := ⟨_, rfl⟩
            go_wp2_with fail
            go_loopw [4, 7] (fun v a wr => ∃ (k : Nat) (m : Int), k ≤ j + 1 ∧ a = .int .i64 ((k : Int) + 1) ∧ v = .int .i64 m ∧ m = insC i + insB ((i : Int) + 1) j + insA ((i : Int) + 1) ((j : Int) + 1) k ∧ wr = wo) (fun _ a _ => ((j : Int) + 2 - intOf a).toNat)
            case atStart => exact ⟨0, m, Nat.zero_le _, by simp, rfl, by rw [HM2.out]; simp [insA], rfl⟩
            case round =>
              obtain ⟨k, m, hk, rfl, rfl, hm, rfl⟩ := hrel
              have bm : 0 ≤ m ∧ m ≤ 10000 := by
                have h1 := insC_bd i (by omega)
                have h2 := insB_bd ((i : Int) + 1) j (by omega)
                have h3 := insA_bd ((i : Int) + 1) ((j : Int) + 1) k
                omega
              have HM3 := Lib.hid hm
              clear hm HM2
              by_cases hlt3 : k < j + 1
              · have hd3 : decide ((k : Int) + 1 ≤ (j : Int) + 1) = true := by simp; omega
                have v1 : IntKind.i64.wrap ((k : Int) + 1 + ((j : Int) + 1)) = (k : Int) + 1 + ((j : Int) + 1) := wrap_is rfl (by omega) (by omega)
                have v2 : IntKind.i64.wrap (m + 1) = m + 1 := wrap_is rfl (by omega) (by omega)
                by_cases hc : (k : Int) + 1 + ((j : Int) + 1) > (i : Int) + 1
                · have hd4 : decide ((k : Int) + 1 + ((j : Int) + 1) > (i : Int) + 1) = true := by simpa using hc
                  have HA := Lib.hid (show insA ((i : Int) + 1) ((j : Int) + 1) (k + 1) = insA ((i : Int) + 1) ((j : Int) + 1) k + 1 by rw [insA, if_pos (by omega)])
                  clear hc
                  go_wp2_with fail
                  go_roundw
                  case rel => exact ⟨k + 1, m + 1, by omega, by go_num, rfl, by rw [HA.out, HM3.out]; omega, trivial⟩
                  case measure => simp [intOf]; omega
                · have hd4 : decide ((k : Int) + 1 + ((j : Int) + 1) > (i : Int) + 1) = false := by simpa using hc
                  have HA := Lib.hid (show insA ((i : Int) + 1) ((j : Int) + 1) (k + 1) = insA ((i : Int) + 1) ((j : Int) + 1) k by rw [insA, if_neg (by omega), Int.add_zero])
                  clear hc
                  go_wp2_with fail
                  go_roundw
                  case rel => exact ⟨k + 1, m, by omega, by go_num, rfl, by rw [HA.out, HM3.out], trivial⟩
                  case measure => simp [intOf]; omega
              · have hd3 : decide ((k : Int) + 1 ≤ (j : Int) + 1) = false := by simp; omega
                have HA := Lib.hid (show m = insC i + insB ((i : Int) + 1) (j + 1) by
                  rw [HM3.out, show k = j + 1 by omega, insB]; omega)
                clear HM3
                go_wp2_with fail
                go_roundw
                case rel => exact ⟨j + 1, m, by omega, by go_num, rfl, HA.out, trivial⟩
                case measure => simp [intOf]; omega
          · have hd2 : decide ((j : Int) + 1 ≤ (i : Int) + 1) = false := by simp; omega
            have HA := Lib.hid (show m = insC (i + 1) by rw [HM2.out, show j = i + 1 by omega, insC])
            clear HM2
            go_wp2_with fail
            go_roundw
            case rel => exact ⟨i + 1, m, by omega, by go_num, rfl, HA.out, trivial⟩
            case measure => simp [intOf]; omega
      · have hd : decide ((i : Int) + 1 ≤ (N : Int)) = false := by simp; omega
        obtain rfl : i = N := by omega
        have hm := HM.out
        clear HM
        subst hm
        go_wp2_with fail
        go_ret2
        exact ⟨rfl, Below.refl _ _⟩
  · rw [Bool.not_eq_true] at h
    have HI := Lib.hid h
    rw [insM_no h, h]
    clear h
    go_enter Try.func88, Try.ntmps88
    go_wp2_with (go_at_call 121; refine (l6In_is HI.out _).mono ?_; rintro e w' ⟨rfl, rfl⟩)
    go_ret2
    exact ⟨rfl, Below.refl _ _⟩
end Go.Proofs.Ytcfmnjkgebopcaa
