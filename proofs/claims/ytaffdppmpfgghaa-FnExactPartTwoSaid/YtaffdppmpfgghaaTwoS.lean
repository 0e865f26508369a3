/- The model's sets with half of the sum: PartTwo. -/
import Derived.Test.YtaffdppmpfgghaaBit9
import Derived.Test.YtaffdppmpfgghaaTwoI
import Derived.Test.YtaffdppmpfgghaaS1a
namespace Go.Proofs.Ytaffdppmpfgghaa
open Go.RowKit Go.Sort Go.Lib

def bitTo (r : List Int) (t k : Nat) : Int := sI k fun i => if t.testBit i = true then r.getD i 0 else 0
theorem bitTo_bd {r : List Int} {t : Nat} (hx : ∀ j, j < r.length → 1 ≤ r.getD j 0 ∧ r.getD j 0 ≤ 60) : ∀ k, k ≤ r.length → 0 ≤ bitTo r t k ∧ bitTo r t k ≤ 60 * (k : Int)
  | 0, _ => by simp [bitTo, sI]
  | k + 1, hk => by
    have h1 := bitTo_bd (t := t) hx k (by omega)
    have h2 := hx k (by omega)
    have e : bitTo r t (k + 1) = bitTo r t k + if t.testBit k = true then r.getD k 0 else 0 := rfl
    rw [e]
    split <;> omega
theorem twoM_step (zs : List Int) (k : Nat) : twoM zs (k + 1) = twoM zs k + oneIf (2 * bitS zs (2 * k + 1) == zs.sum) := rfl
theorem twoM_le (zs : List Int) : ∀ k, twoM zs k ≤ k
  | 0 => Nat.le_refl _
  | k + 1 => by
    rw [twoM_step]
    have := twoM_le zs k
    unfold oneIf
    split <;> omega
theorem odd_half {n t : Nat} (hn : 1 ≤ n) : 2 * t + 1 < 2 ^ n ↔ t < 2 ^ (n - 1) := by
  have e : 2 ^ n = 2 * 2 ^ (n - 1) := by
    rw [show n = (n - 1) + 1 by omega, Nat.pow_succ]
    simp
    omega
  omega
set_option maxRecDepth 100000 in
set_option maxHeartbeats 4000000 in
theorem specPartTwo_any (A : Option Addr) (n c : Nat) (xs : List Int) (w : World) (h : Rd w A n xs) (hn : n ≤ 1048576) :
    Calls Try.prog 84 #[.slice A n c] w fun e w' => e = .returned (.tuple #[.int .i64 (twoB xs), .bool (bundleB xs)]) ∧ Below w.heap.size w w' := by
  by_cases hb : bundleB xs = true
  · have HM := Lib.hid (twoB_yes hb)
    have HB := Lib.hid hb
    have hbd := bundleB_true hb
    have hn9 : n ≤ 9 := by rw [← h.1]; exact hbd.2.1
    have hn1 : 1 ≤ n := by rw [← h.1]; exact hbd.1
    have hx := hbd.2.2.1
    have HX := Lib.hid hx
    have HL := Lib.hid h.1
    have HR := Lib.hid h
    have HS := Lib.hid (fun W (hW : Below w.heap.size w W) => specSum_any A n c xs W (h.same hW) hn (bundle_small hbd))
    have HT := Lib.hid (two_is (zs := xs) hbd.1)
    have hN : 2 ^ n ≤ 512 := Nat.le_trans (Nat.pow_le_pow_right (by omega) hn9) (by decide)
    obtain ⟨N, eN⟩ : ∃ N, N = 2 ^ n := ⟨_, rfl⟩
    have hpw : IntKind.i64.wrap ((2 : Int) ^ n) = (N : Int) := by
      have e : (2 : Int) ^ n = ((2 ^ n : Nat) : Int) := by simp
      rw [e, ← eN]
      rw [← eN] at hN
      exact wrap_is rfl (by omega) (by omega)
    have hpw2 : (2 : Int) ^ n = (N : Int) := by rw [eN]; simp
    rw [← eN] at hN
    have HN := Lib.hid eN
    clear hb hbd hx h eN
    go_enter Try.func84, Try.ntmps84
    go_wp2_with fail
    refine (l1Bundle_any _ _ _ xs _ HR.out hn).mono ?_
    rintro e w1 ⟨rfl, b1⟩
    rw [HB.out]
    go_wp2_with fail
    go_loopw [4, 5, 6, 7] (fun m v _ _ wr => ∃ t : Nat, t ≤ 2 ^ (n - 1) ∧ v = .int .i64 (2 * t + 1 : Nat) ∧ m = .int .i64 (twoM xs t : Nat) ∧ Below w.heap.size w wr) (fun _ v _ _ _ => N - (intOf v).toNat)
    case atStart => exact ⟨0, Nat.zero_le _, rfl, rfl, b1⟩
    case round =>
      clear b1
      obtain ⟨t, ht, rfl, rfl, hb⟩ := hrel
      have hle := twoM_le xs t
      have hodd := odd_half (t := t) hn1
      rw [← HN.out] at hodd
      by_cases hlt : t < 2 ^ (n - 1)
      · have hlo := hodd.2 hlt
        obtain ⟨U, eU⟩ : ∃ U, U = 2 * t + 1 := ⟨_, rfl⟩
        rw [← eU] at hlo ⊢
        have hK := Lib.hid (twoM_step xs t)
        rw [← eU] at hK
        obtain ⟨S0, eS⟩ : ∃ S0, S0 = twoM xs t := ⟨_, rfl⟩
        rw [← eS] at hK hle ⊢
        have EU := Lib.hid eU
        have hS9 : S0 ≤ 512 := by omega
        have HB0 := Lib.hid hb
        have HLT := Lib.hid hlt
        have hlo2 : (U : Int) < (N : Int) := by omega
        clear eS eU hodd ht hlt hle
        go_wp2_with fail
        go_loopw [6, 7] (fun s v wr => ∃ k : Nat, k ≤ n ∧ v = .int .i64 k ∧ s = .int .i64 (bitTo xs U k) ∧ Below w.heap.size w wr) (fun _ v _ => n - (intOf v).toNat)
        case atStart => exact ⟨0, Nat.zero_le _, rfl, rfl, HB0.out⟩
        case round =>
          clear hb
          obtain ⟨k, hk, rfl, rfl, hb⟩ := hrel
          have hbd := bitTo_bd (t := U) HX.out k (by rw [HL.out]; exact hk)
          by_cases hltk : k < n
          · obtain ⟨b, off, rfl, hbl, hc⟩ := HR.out.2 (by omega)
            have hcx : wr.cell? ⟨b, off + k, none⟩ = some (.int .i64 (xs.getD k 0)) := (hb.cell (p := ⟨b, off + k, none⟩) hbl).trans (hc k hltk)
            have hx := HX.out k (by rw [HL.out]; exact hltk)
            have HT2 := Lib.hid (show bitTo xs U (k + 1) = bitTo xs U k + if U.testBit k = true then xs.getD k 0 else 0 from rfl)
            have hbit := bit_at U k
            obtain ⟨x, ex⟩ : ∃ x, x = xs.getD k 0 := ⟨_, rfl⟩
            rw [← ex] at hcx hx HT2
            obtain ⟨z, ez⟩ : ∃ z, z = bitTo xs U k := ⟨_, rfl⟩
            rw [← ez] at hbd HT2 ⊢
            have v1 : IntKind.i64.wrap (z + x) = z + x := wrap_is rfl (by omega) (by omega)
            clear hc ex ez
            cases hq : U.testBit k with
            | true =>
              rw [hq, if_pos rfl] at hbit HT2
              clear hq
              go_wp2_with fail
              go_roundw
              case rel => exact ⟨k + 1, by omega, by go_num, by rw [HT2.out], hb⟩
              case measure => simp [intOf]; omega
            | false =>
              rw [hq, if_neg Bool.false_ne_true] at hbit HT2
              clear hq
              go_wp2_with fail
              go_roundw
              case rel => exact ⟨k + 1, by omega, by go_num, by rw [HT2.out, Int.add_zero], hb⟩
              case measure => simp [intOf]; omega
          · obtain rfl : k = n := by omega
            have hfin : bitTo xs U k = bitS xs U := by unfold bitTo bitS; rw [HL.out]
            rw [hfin] at hbd ⊢
            have hsl := sumL_eq xs
            obtain ⟨z, ez⟩ : ∃ z, z = bitS xs U := ⟨_, rfl⟩
            rw [← ez] at hK hbd ⊢
            obtain ⟨q, eq⟩ : ∃ q, q = sumL xs := ⟨_, rfl⟩
            have HS1 := Lib.hid (HS.out wr hb)
            rw [← eq] at HS1 hsl
            rw [← hsl] at hK
            have v1 : IntKind.i64.wrap (2 * z) = 2 * z := wrap_is rfl (by omega) (by omega)
            have v2 : IntKind.i64.wrap ((U : Int) + 2) = (U : Int) + 2 := wrap_is rfl (by omega) (by omega)
            have v3 : IntKind.i64.wrap ((S0 : Int) + 1) = (S0 : Int) + 1 := wrap_is rfl (by omega) (by omega)
            clear ez eq hfin hsl
            go_wp2_with fail
            refine HS1.out.mono ?_
            rintro e w3 ⟨rfl, b3⟩
            have HB3 := Lib.hid (below_then hb b3)
            clear b3 hb
            by_cases hqq : 2 * z = q
            · have hone : oneIf (2 * z == q) = 1 := by unfold oneIf; rw [if_pos (by simpa using hqq)]
              rw [hone] at hK
              have d1 : (2 * z == q) = true := by simpa using hqq
              have d2 : decide (2 * z = q) = true := decide_eq_true hqq
              clear hone
              go_wp2_with fail
              go_roundw
              case rel =>
                have e1 := EU.out
                have e2 := HLT.out
                first
                  | exact ⟨t + 1, by omega, by congr 1; omega, by rw [hK.out]; congr 1, HB3.out⟩
                  | ((repeat apply Exists.intro); exact ⟨⟨t + 1, by omega, by congr 1; omega, by rw [hK.out]; congr 1, HB3.out⟩, rfl⟩)
              case measure => simp [intOf]; omega
            · have hone : oneIf (2 * z == q) = 0 := by unfold oneIf; rw [if_neg (by simpa using hqq)]
              rw [hone] at hK
              have d1 : (2 * z == q) = false := by simpa using hqq
              have d2 : decide (2 * z = q) = false := decide_eq_false hqq
              clear hone
              go_wp2_with fail
              go_roundw
              case rel =>
                have e1 := EU.out
                have e2 := HLT.out
                first
                  | exact ⟨t + 1, by omega, by congr 1; omega, by rw [hK.out]; congr 1, HB3.out⟩
                  | ((repeat apply Exists.intro); exact ⟨⟨t + 1, by omega, by congr 1; omega, by rw [hK.out]; congr 1, HB3.out⟩, rfl⟩)
              case measure => simp [intOf]; omega
      · obtain rfl : t = 2 ^ (n - 1) := by omega
        have hno : ¬ ((2 * 2 ^ (n - 1) + 1 : Nat) : Int) < (N : Int) := by omega
        have HE := Lib.hid (show twoM xs (2 ^ (n - 1)) = twoP xs by rw [← HT.out, HL.out])
        rw [HE.out] at hle ⊢
        obtain ⟨U, eU⟩ : ∃ U, U = 2 * 2 ^ (n - 1) + 1 := ⟨_, rfl⟩
        rw [← eU] at hno ⊢
        have hd : decide ((U : Int) < (N : Int)) = false := decide_eq_false hno
        clear hodd ht hle eU hlt
        go_wp2_with fail
        go_ret2
        exact ⟨by rw [HB.out, HM.out]; rfl, hb⟩
  · rw [Bool.not_eq_true] at hb
    have HM := Lib.hid (twoB_no hb)
    have HB := Lib.hid hb
    clear hb
    go_enter Try.func84, Try.ntmps84
    go_wp2_with fail
    refine (l1Bundle_any _ _ _ xs _ h hn).mono ?_
    rintro e w1 ⟨rfl, b1⟩
    rw [HB.out]
    go_wp2_with fail
    go_ret2
    exact ⟨by rw [HB.out, HM.out]; rfl, b1⟩
end Go.Proofs.Ytaffdppmpfgghaa
