/- Contracts of the model's counts of threes: l1Many, StickMany, StickFree. -/
import Derived.Test.YtaffdppmpfgghaaCnt
import Derived.Test.YtaffdppmpfgghaaWid
import Derived.Test.YtaffdppmpfgghaaMany
namespace Go.Proofs.Ytaffdppmpfgghaa
open Go.RowKit

theorem S_le {f : Nat → Nat} {b : Nat} : ∀ n, (∀ i, i < n → f i ≤ b) → S n f ≤ n * b
  | 0, _ => by simp [S]
  | n + 1, h => by rw [S, Nat.succ_mul]; have := S_le n (fun i hi => h i (by omega)); have := h n (by omega); omega
theorem one_le (zs : List Int) (i j k : Nat) : one zs i j k ≤ 1 := by unfold one; split <;> omega
theorem m3_le (zs : List Int) (i j c : Nat) : m3 zs i j c ≤ c := by have := S_le (f := fun k => one zs k j i) c (fun k _ => one_le zs k j i); unfold m3; omega
theorem m2_le (zs : List Int) (i c : Nat) (h : c ≤ 9) : m2 zs i c ≤ 81 := by
  have := S_le (f := fun j => m3 zs i j j) (b := 9) c (fun j hj => Nat.le_trans (m3_le zs i j j) (by omega)); unfold m2; omega
theorem m1_le (zs : List Int) (c : Nat) (h : c ≤ 9) : m1 zs c ≤ 729 := by
  have := S_le (f := fun i => m2 zs i i) (b := 81) c (fun i hi => m2_le zs i i (by omega)); unfold m1; omega
theorem m3_yes {zs : List Int} {i j c : Nat} (h : triB (zs.getD c 0) (zs.getD j 0) (zs.getD i 0) = true) : m3 zs i j (c + 1) = m3 zs i j c + 1 := by unfold m3; rw [S]; unfold one; rw [if_pos h]
theorem m3_no {zs : List Int} {i j c : Nat} (h : triB (zs.getD c 0) (zs.getD j 0) (zs.getD i 0) = false) : m3 zs i j (c + 1) = m3 zs i j c := by unfold m3; rw [S]; unfold one; rw [if_neg (by rw [h]; exact Bool.false_ne_true)]; rfl

set_option maxHeartbeats 2000000 in
theorem l1Many_any (A : Option Addr) (n c : Nat) (xs : List Int) (w : World) (h : Rd w A n xs) (hn9 : n ≤ 9) (hz : ∀ j, j < xs.length → 1 ≤ xs.getD j 0 ∧ xs.getD j 0 ≤ 60) :
    Calls Try.prog 90 #[.slice A n c] w fun e w' => e = .returned (.int .i64 (cntT xs : Int)) ∧ Below w.heap.size w w' := by
  have HL := Lib.hid h.1
  rw [h.1] at hz
  go_enter Try.func90, Try.ntmps90
  go_wp2
  go_loopw [3, 4, 5, 6] (fun s i _ _ wr => ∃ k : Nat, k ≤ n ∧ i = .int .i64 k ∧ s = .int .i64 (m1 xs k : Nat) ∧ Below w.heap.size w wr) (fun _ i _ _ _ => n - (intOf i).toNat)
  case atStart => exact ⟨0, Nat.zero_le _, rfl, rfl, Below.refl _ _⟩
  case round =>
    obtain ⟨i, hi, rfl, rfl, hb⟩ := hrel
    have b1 := m1_le xs i (by omega)
    by_cases hlt : i < n
    · obtain ⟨b, off, rfl, hbl, hc⟩ := h.2 (by omega)
      obtain ⟨wo, rfl⟩ : ∃ wo : World, wo = wr := ⟨_, rfl⟩
      obtain ⟨S1, hS1⟩ : ∃ S1 : Nat, S1 = m1 xs i := ⟨_, rfl⟩
      rw [← hS1] at b1 ⊢
      have H1 := Lib.hid hS1
      have HC := Lib.hid hc
      clear h hc hS1
      have d1 : decide ((i : Int) < (n : Int)) = true := by simp; omega
      go_wp2
      go_loopw [3, 5, 6] (fun s j _ wr => ∃ k : Nat, k ≤ i ∧ j = .int .i64 k ∧ s = .int .i64 ((S1 + m2 xs i k : Nat) : Int) ∧ Below w.heap.size w wr) (fun _ j _ _ => i - (intOf j).toNat)
      case atStart => exact ⟨0, Nat.zero_le _, rfl, rfl, hb⟩
      case round =>
        clear hb
        obtain ⟨j, hj, rfl, rfl, hb⟩ := hrel
        have b2 := m2_le xs i j (by omega)
        by_cases hltj : j < i
        · obtain ⟨wp, rfl⟩ : ∃ wp : World, wp = wr := ⟨_, rfl⟩
          obtain ⟨S2, hS2⟩ : ∃ S2 : Nat, S2 = S1 + m2 xs i j := ⟨_, rfl⟩
          rw [← hS2] at ⊢
          have b3 : S2 ≤ 1000 := by omega
          have H2 := Lib.hid hS2
          clear hS2
          have d2 : decide ((j : Int) < (i : Int)) = true := by simp; omega
          go_wp2
          go_loopw [3, 6] (fun s k wr => ∃ q : Nat, q ≤ j ∧ k = .int .i64 q ∧ s = .int .i64 ((S2 + m3 xs i j q : Nat) : Int) ∧ Below w.heap.size w wr) (fun _ k _ => j - (intOf k).toNat)
          case atStart => exact ⟨0, Nat.zero_le _, rfl, rfl, hb⟩
          case round =>
            clear hb
            obtain ⟨k, hk, rfl, rfl, hb⟩ := hrel
            have b4 := m3_le xs i j k
            by_cases hltk : k < j
            · have hcx : wr.cell? ⟨b, off + i, none⟩ = some (.int .i64 (xs.getD i 0)) := (hb.cell (p := ⟨b, off + i, none⟩) hbl).trans (HC.out i hlt)
              have hcy : wr.cell? ⟨b, off + j, none⟩ = some (.int .i64 (xs.getD j 0)) := (hb.cell (p := ⟨b, off + j, none⟩) hbl).trans (HC.out j (by omega))
              have hcz : wr.cell? ⟨b, off + k, none⟩ = some (.int .i64 (xs.getD k 0)) := (hb.cell (p := ⟨b, off + k, none⟩) hbl).trans (HC.out k (by omega))
              have hx := hz i hlt
              have hy := hz j (by omega)
              have hzz := hz k (by omega)
              have e1 : (j : Int) < (n : Int) := by omega
              have e2 : (k : Int) < (n : Int) := by omega
              obtain ⟨S3, hS3⟩ : ∃ S3 : Nat, S3 = S2 + m3 xs i j k := ⟨_, rfl⟩
              rw [← hS3]
              have b5 : S3 ≤ 2000 := by omega
              have H3 := Lib.hid hS3
              clear hS3
              obtain ⟨x, ex⟩ : ∃ x, x = xs.getD i 0 := ⟨_, rfl⟩
              obtain ⟨y, ey⟩ : ∃ y, y = xs.getD j 0 := ⟨_, rfl⟩
              obtain ⟨z, ez⟩ : ∃ z, z = xs.getD k 0 := ⟨_, rfl⟩
              rw [← ex] at hcx hx
              rw [← ey] at hcy hy
              rw [← ez] at hcz hzz
              have EX := Lib.hid ex
              have EY := Lib.hid ey
              have EZ := Lib.hid ez
              clear ex ey ez
              have d3 : decide ((k : Int) < (j : Int)) = true := by simp; omega
              by_cases ht : triB x y z = true
              · have HT := Lib.hid ht
                clear ht
                go_wp2
                go_quiet ((go_at_call 95; first | exact quiet_left (l1Three_is HT.out hx.1 hx.2 hy.1 hy.2 hzz.1 hzz.2 _) | exact quiet_add_left (l1Three_is HT.out hx.1 hx.2 hy.1 hy.2 hzz.1 hzz.2 _)))
                go_wp2
                go_roundw
                case rel => first | exact ⟨k + 1, by omega, by go_num, by rw [m3_yes (by rw [← EX.out, ← EY.out, ← EZ.out]; exact (triB_rev x y z).trans HT.out), H3.out]; go_num, below_drewN hb _⟩ | ((repeat apply Exists.intro); exact ⟨⟨k + 1, by omega, by go_num, by rw [m3_yes (by rw [← EX.out, ← EY.out, ← EZ.out]; exact (triB_rev x y z).trans HT.out), H3.out]; go_num, below_drewN hb _⟩, rfl⟩)
                case measure => simp [intOf]; omega
              · rw [Bool.not_eq_true] at ht
                have HT := Lib.hid ht
                clear ht
                go_wp2
                go_quiet ((go_at_call 95; first | exact quiet_left (l1Three_is HT.out hx.1 hx.2 hy.1 hy.2 hzz.1 hzz.2 _) | exact quiet_add_left (l1Three_is HT.out hx.1 hx.2 hy.1 hy.2 hzz.1 hzz.2 _)))
                go_wp2
                go_roundw
                case rel => first | exact ⟨k + 1, by omega, by go_num, by rw [m3_no (by rw [← EX.out, ← EY.out, ← EZ.out]; exact (triB_rev x y z).trans HT.out), H3.out], below_drewN hb _⟩ | ((repeat apply Exists.intro); exact ⟨⟨k + 1, by omega, by go_num, by rw [m3_no (by rw [← EX.out, ← EY.out, ← EZ.out]; exact (triB_rev x y z).trans HT.out), H3.out], below_drewN hb _⟩, rfl⟩)
                case measure => simp [intOf]; omega
            · obtain rfl : k = j := by omega
              have e : S2 + m3 xs i k k = S1 + m2 xs i (k + 1) := by rw [H2.out]; show _ = S1 + (m2 xs i k + m3 xs i k k); omega
              rw [e]
              go_wp2
              go_roundw
              case rel => first | exact ⟨k + 1, by omega, by go_num, rfl, hb⟩ | ((repeat apply Exists.intro); exact ⟨⟨k + 1, by omega, by go_num, rfl, hb⟩, rfl⟩)
              case measure => simp [intOf]; omega
        · obtain rfl : j = i := by omega
          have e : S1 + m2 xs j j = m1 xs (j + 1) := by rw [H1.out]; rfl
          rw [e]
          go_wp2
          go_roundw
          case rel => first | exact ⟨j + 1, by omega, by go_num, rfl, hb⟩ | ((repeat apply Exists.intro); exact ⟨⟨j + 1, by omega, by go_num, rfl, hb⟩, rfl⟩)
          case measure => simp [intOf]; omega
    · obtain rfl : i = n := by omega
      go_wp2
      go_ret
      exact ⟨ret_i (by rw [← cnt_m1, HL.out]), hb⟩

theorem specStickMany_any (A : Option Addr) (n c : Nat) (xs : List Int) (w : World) (h : Rd w A n xs) (hn : n ≤ 1048576) :
    Calls Try.prog 32 #[.slice A n c] w fun e w' => e = .returned (.tuple #[.int .i64 (manyM xs), .bool (bundleB xs)]) ∧ Below w.heap.size w w' := by
  by_cases hb : bundleB xs = true
  · have hbd := bundleB_true hb
    have hn9 : n ≤ 9 := by rw [← h.1]; exact hbd.2.1
    have HB := Lib.hid hb
    have HM := Lib.hid (manyM_yes hb)
    have HD := Lib.hid hbd
    clear hb hbd
    go_enter Try.func32, Try.ntmps32
    go_wp2_with fail
    refine (l1Bundle_any _ _ _ xs _ h hn).mono ?_
    rintro e w1 ⟨rfl, b1⟩
    rw [HB.out]
    go_wp2_with fail
    refine (l1Many_any _ _ _ xs _ (h.same b1) hn9 HD.out.2.2.1).mono ?_
    rintro e w2 ⟨rfl, b2⟩
    go_wp2_with fail
    go_ret2
    exact ⟨by rw [HB.out, HM.out]; rfl, below_then b1 b2⟩
  · rw [Bool.not_eq_true] at hb
    have HM := Lib.hid (manyM_no hb)
    have HB := Lib.hid hb
    clear hb
    go_enter Try.func32, Try.ntmps32
    go_wp2_with fail
    refine (l1Bundle_any _ _ _ xs _ h hn).mono ?_
    rintro e w1 ⟨rfl, b1⟩
    rw [HB.out]
    go_wp2_with fail
    go_ret2
    exact ⟨by rw [HB.out, HM.out]; rfl, b1⟩

theorem specStickFree_any (A : Option Addr) (n c : Nat) (xs : List Int) (w : World) (h : Rd w A n xs) (hn : n ≤ 1048576) :
    Calls Try.prog 40 #[.slice A n c] w fun e w' => e = .returned (.bool (bundleB xs && decide (cntT xs = 0))) ∧ Below w.heap.size w w' := by
  by_cases hb : bundleB xs = true
  · have hbd := bundleB_true hb
    have hn9 : n ≤ 9 := by rw [← h.1]; exact hbd.2.1
    have HB := Lib.hid hb
    have HD := Lib.hid hbd
    clear hb hbd
    go_enter Try.func40, Try.ntmps40
    go_wp2_with fail
    refine (l1Bundle_any _ _ _ xs _ h hn).mono ?_
    rintro e w1 ⟨rfl, b1⟩
    rw [HB.out]
    go_wp2_with fail
    refine (l1Many_any _ _ _ xs _ (h.same b1) hn9 HD.out.2.2.1).mono ?_
    rintro e w2 ⟨rfl, b2⟩
    obtain ⟨z, hz⟩ : ∃ z, z = cntT xs := ⟨_, rfl⟩
    rw [← hz]
    have HZ := Lib.hid hz
    clear hz
    by_cases h0 : z = 0
    · subst h0
      go_wp2_with fail
      go_ret
      exact ⟨by rw [HB.out, ← HZ.out]; rfl, below_then b1 b2⟩
    · have hd : ((z : Int) == 0) = false := by simp; omega
      go_wp2_with fail
      go_ret
      exact ⟨by rw [HB.out, ← HZ.out, decide_eq_false h0]; rfl, below_then b1 b2⟩
  · rw [Bool.not_eq_true] at hb
    have HB := Lib.hid hb
    clear hb
    go_enter Try.func40, Try.ntmps40
    go_wp2_with fail
    refine (l1Bundle_any _ _ _ xs _ h hn).mono ?_
    rintro e w1 ⟨rfl, b1⟩
    rw [HB.out]
    go_wp2_with fail
    go_ret
    exact ⟨by rw [HB.out]; rfl, b1⟩
end Go.Proofs.Ytaffdppmpfgghaa
