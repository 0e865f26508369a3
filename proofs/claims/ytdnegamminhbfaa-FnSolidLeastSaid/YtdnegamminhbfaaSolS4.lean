/- Contracts of the model's functions of chapter 8: SolidFirst, SolidSame. -/
import Derived.Test.YtdnegamminhbfaaSolS3
import Derived.Test.YtdnegamminhbfaaLess
namespace Go.Proofs.Ytdnegamminhbfaa
open Go.RowKit

set_option maxRecDepth 100000 in
set_option maxHeartbeats 8000000 in
theorem l8First_any (A : Option Addr) (c : Nat) (xs : List Int) (w : World) (h : Rd w A 6 xs) (hs : Sol xs) :
    Calls Try.prog 104 #[.slice A 6 c] w fun e w' => ∃ (A' : Option Addr) (c' : Nat), e = .returned (.slice A' 6 c') ∧ Own w' w.heap.size A' 6 c' (fstL xs) ∧ Below w.heap.size w w' := by
  have HH := Lib.hid h
  have HF := Lib.hid (aF8_fst hs)
  have hl := Own.lit w (Nat.le_refl _) [] (by simp)
  have hr := h.same (below_alloc (Below.refl _ _) (.cells #[] 3))
  clear h hs
  go_enter Try.func104, Try.ntmps104
  go_wp2_with (at_builtin; refine wpList_app rfl (.tmp 9) (.tmp 10) rfl rfl hl rfl hr (by simp) (by simp) ?_; intro A1 c1 W1 ho1 hg1)
  have hb1 := app_mark (below_alloc (Below.refl _ _) _) hl (Nat.le_refl _) hg1
  simp only [Nat.zero_add, List.nil_append] at ho1
  clear hl hr hg1
  go_loopw [3, 4, 5, 6, 7, 8] (fun l a _ _ _ _ wr => ∃ (k c2 : Nat) (A2 : Option Addr), k ≤ 4 ∧ a = .int .i64 k ∧ l = .slice A2 6 c2 ∧ Own wr w.heap.size A2 6 c2 (aF8 xs xs k) ∧ Below w.heap.size w wr) (fun _ a _ _ _ _ _ => 4 - (intOf a).toNat)
  case atStart => exact ⟨0, c1, A1, by omega, rfl, rfl, ho1, hb1⟩
  case round =>
    clear ho1 hb1
    obtain ⟨k, c2, A2, hk, rfl, rfl, ho, hb⟩ := hrel
    by_cases hlt : k < 4
    · have HS := Lib.hid (aF8_succ xs xs k)
      generalize aF8 xs xs k = S at *
      have d0 : decide ((k : Int) < 4) = true := by rw [decide_eq_true_iff]; omega
      have d0' : decide (k < 4) = true := by rw [decide_eq_true_iff]; omega
      have HO := Lib.hid ho
      have HB := Lib.hid hb
      clear ho hb
      go_wp2_with fail
      go_loopw [3, 5, 6, 7, 8] (fun l a _ _ _ wr => ∃ (m c2 : Nat) (A2 : Option Addr), m ≤ 4 ∧ a = .int .i64 m ∧ l = .slice A2 6 c2 ∧ Own wr w.heap.size A2 6 c2 (bF8 xs k S m) ∧ Below w.heap.size w wr) (fun _ a _ _ _ _ => 4 - (intOf a).toNat)
      case atStart => exact ⟨0, c2, A2, by omega, rfl, rfl, HO.out, HB.out⟩
      case round =>
        clear HO HB
        obtain ⟨m, c3, A3, hm, rfl, rfl, ho, hb⟩ := hrel
        by_cases hlt2 : m < 4
        · have HT := Lib.hid (bF8_succ xs k S m)
          generalize bF8 xs k S m = T at *
          have d1 : decide ((m : Int) < 4) = true := by rw [decide_eq_true_iff]; omega
          have d1' : decide (m < 4) = true := by rw [decide_eq_true_iff]; omega
          have HO := Lib.hid ho
          have HB := Lib.hid hb
          clear ho hb
          go_wp2_with fail
          go_loopw [3, 6, 7, 8] (fun l a _ _ wr => ∃ (j c2 : Nat) (A2 : Option Addr), j ≤ 4 ∧ a = .int .i64 j ∧ l = .slice A2 6 c2 ∧ Own wr w.heap.size A2 6 c2 (cF8 xs k m T j) ∧ Below w.heap.size w wr) (fun _ a _ _ _ => 4 - (intOf a).toNat)
          case atStart => exact ⟨0, c3, A3, by omega, rfl, rfl, HO.out, HB.out⟩
          case round =>
            clear HO HB
            obtain ⟨j, c4, A4, hj, rfl, rfl, ho, hb⟩ := hrel
            by_cases hlt3 : j < 4
            · have HU := Lib.hid (cF8_succ xs k m T j)
              generalize cF8 xs k m T j = U at *
              have d2 : decide ((j : Int) < 4) = true := by rw [decide_eq_true_iff]; omega
              have d2' : decide (j < 4) = true := by rw [decide_eq_true_iff]; omega
              have v1 : IntKind.i64.wrap (6 - (k : Int)) = 6 - (k : Int) := wrap_is rfl (by omega) (by omega)
              have v2 : IntKind.i64.wrap (6 - (k : Int) - (m : Int)) = 6 - (k : Int) - (m : Int) := wrap_is rfl (by omega) (by omega)
              have v3 : IntKind.i64.wrap (6 - (k : Int) - (m : Int) - (j : Int)) = 6 - (k : Int) - (m : Int) - (j : Int) := wrap_is rfl (by omega) (by omega)
              have HO := Lib.hid ho
              have HB := Lib.hid hb
              clear ho hb
              by_cases hq : k = m ∨ k = j ∨ m = j
              · have HU2 := Lib.hid (show cF8 xs k m T (j + 1) = U by rw [HU.out]; unfold stp8; rw [if_pos hq])
                by_cases e1 : k = m
                · subst e1
                  clear hq
                  go_wp2_with fail
                  go_roundw
                  case rel =>
                    first
                      | exact ⟨j + 1, c4, A4, by omega, by go_num, rfl, by rw [HU2.out]; exact HO.out, HB.out⟩
                      | ((repeat apply Exists.intro); exact ⟨⟨j + 1, c4, A4, by omega, by go_num, rfl, by rw [HU2.out]; exact HO.out, HB.out⟩, rfl⟩)
                  case measure => simp [intOf]; omega
                · have f1 : ((k : Int) == (m : Int)) = false := by simp; omega
                  by_cases e2 : k = j
                  · subst e2
                    clear hq
                    go_wp2_with fail
                    go_roundw
                    case rel =>
                      first
                        | exact ⟨k + 1, c4, A4, by omega, by go_num, rfl, by rw [HU2.out]; exact HO.out, HB.out⟩
                        | ((repeat apply Exists.intro); exact ⟨⟨k + 1, c4, A4, by omega, by go_num, rfl, by rw [HU2.out]; exact HO.out, HB.out⟩, rfl⟩)
                    case measure => simp [intOf]; omega
                  · have f2 : ((k : Int) == (j : Int)) = false := by simp; omega
                    obtain rfl : m = j := by omega
                    clear hq
                    go_wp2_with fail
                    go_roundw
                    case rel =>
                      first
                        | exact ⟨m + 1, c4, A4, by omega, by go_num, rfl, by rw [HU2.out]; exact HO.out, HB.out⟩
                        | ((repeat apply Exists.intro); exact ⟨⟨m + 1, c4, A4, by omega, by go_num, rfl, by rw [HU2.out]; exact HO.out, HB.out⟩, rfl⟩)
                    case measure => simp [intOf]; omega
              · have HU2 := Lib.hid (show cF8 xs k m T (j + 1) = minL U (nmd (plcC [(k : Int), m, j, 6 - k - m - j]) xs) by rw [HU.out]; unfold stp8; rw [if_neg hq])
                have f1 : ((k : Int) == (m : Int)) = false := by simp; omega
                have f2 : ((k : Int) == (j : Int)) = false := by simp; omega
                have f3 : ((m : Int) == (j : Int)) = false := by simp; omega
                have hmem := in_c24 hlt hlt2 hlt3 hq
                have hN := fun W (hW : Below w.heap.size w W) (A1 : Option Addr) (hR : Rd W A1 4 [(k : Int), m, j, 6 - (k : Int) - (m : Int) - (j : Int)]) => l8Named_any A c xs A1 4 [(k : Int), m, j, 6 - (k : Int) - (m : Int) - (j : Int)] W (HH.out.same hW) hR hmem
                obtain ⟨N, hNn⟩ : ∃ N, N = nmd (plcC [(k : Int), m, j, 6 - (k : Int) - (m : Int) - (j : Int)]) xs := ⟨_, rfl⟩
                rw [← hNn] at hN HU2
                have hlit := Own.lit wr HB.out.size [(k : Int), m, j, 6 - (k : Int) - (m : Int) - (j : Int)] (by simp)
                have bA := below_alloc HB.out (.cells (ints [(k : Int), m, j, 6 - (k : Int) - (m : Int) - (j : Int)]).toArray 3)
                have hN1 := hN _ bA _ hlit.rd
                have HB2 := Lib.hid bA
                have HO2 := Lib.hid (HO.out.al (.cells (ints [(k : Int), m, j, 6 - (k : Int) - (m : Int) - (j : Int)]).toArray 3))
                clear hq hN hNn hlit bA hmem HO HB HH HF
                go_wp2_with fail
                refine hN1.mono ?_
                rintro e w5 ⟨A5, c5, rfl, o5, b5⟩
                have HB3 := Lib.hid (below_then HB2.out b5)
                have HO3 := Lib.hid (HO2.out.same b5)
                have HO5 := Lib.hid (o5.lower HB2.out.size)
                clear o5 b5 hN1
                go_wp2_with fail
                refine (l8Less_any A5 A4 6 c5 c4 N U _ HO5.out.rd HO3.out.rd (by omega)).mono ?_
                rintro e w6 ⟨rfl, b6⟩
                have HB4 := Lib.hid (below_then HB3.out b6)
                cases hlb : lessB N U with
                | true =>
                  have HM := Lib.hid (show cF8 xs k m T (j + 1) = N by rw [HU2.out]; unfold minL; rw [if_pos hlb])
                  have HO6 := Lib.hid (HO5.out.same b6)
                  clear hlb b6
                  go_wp2_with fail
                  go_roundw
                  case rel =>
                    first
                      | exact ⟨j + 1, c5, A5, by omega, by go_num, rfl, by rw [HM.out]; exact HO6.out, HB4.out⟩
                      | ((repeat apply Exists.intro); exact ⟨⟨j + 1, c5, A5, by omega, by go_num, rfl, by rw [HM.out]; exact HO6.out, HB4.out⟩, rfl⟩)
                  case measure => simp [intOf]; omega
                | false =>
                  have HM := Lib.hid (show cF8 xs k m T (j + 1) = U by rw [HU2.out]; unfold minL; rw [hlb]; rfl)
                  have HO6 := Lib.hid (HO3.out.same b6)
                  clear hlb b6
                  go_wp2_with fail
                  go_roundw
                  case rel =>
                    first
                      | exact ⟨j + 1, c4, A4, by omega, by go_num, rfl, by rw [HM.out]; exact HO6.out, HB4.out⟩
                      | ((repeat apply Exists.intro); exact ⟨⟨j + 1, c4, A4, by omega, by go_num, rfl, by rw [HM.out]; exact HO6.out, HB4.out⟩, rfl⟩)
                  case measure => simp [intOf]; omega
            · obtain rfl : j = 4 := by omega
              rw [← HT.out] at ho
              have HO := Lib.hid ho
              have HB := Lib.hid hb
              clear ho hb
              go_wp2_with fail
              go_roundw
              case rel =>
                first
                  | exact ⟨m + 1, c4, A4, by omega, by go_num, rfl, by first | exact HO.out | (rw [HT.out]; exact HO.out), HB.out⟩
                  | ((repeat apply Exists.intro); exact ⟨⟨m + 1, c4, A4, by omega, by go_num, rfl, by first | exact HO.out | (rw [HT.out]; exact HO.out), HB.out⟩, rfl⟩)
              case measure => simp [intOf]; omega
        · obtain rfl : m = 4 := by omega
          rw [← HS.out] at ho
          have HO := Lib.hid ho
          have HB := Lib.hid hb
          clear ho hb
          go_wp2_with fail
          go_roundw
          case rel =>
            first
              | exact ⟨k + 1, c3, A3, by omega, by go_num, rfl, HO.out, HB.out⟩
              | ((repeat apply Exists.intro); exact ⟨⟨k + 1, c3, A3, by omega, by go_num, rfl, HO.out, HB.out⟩, rfl⟩)
          case measure => simp [intOf]; omega
    · obtain rfl : k = 4 := by omega
      rw [HF.out] at ho
      go_wp2_with fail
      go_ret
      exact ⟨A2, c2, rfl, ho, hb⟩

set_option maxHeartbeats 1000000 in
theorem specSolidFirst_any (A : Option Addr) (n c : Nat) (xs : List Int) (w : World) (h : Rd w A n xs) (hn : n ≤ 1048576) :
    Calls Try.prog 58 #[.slice A n c] w fun e w' => ∃ (A' : Option Addr) (n' c' : Nat), e = .returned (.tuple #[.slice A' n' c', .bool (solB xs)]) ∧ Rd w' A' n' (fsM xs) ∧ n' ≤ 1048576 ∧ Below w.heap.size w w' := by
  cases hb : solB xs with
  | true =>
    have hs := sol_of hb
    obtain rfl : n = 6 := by rw [← h.1, hs.len]
    have HB := Lib.hid hb
    have HM := Lib.hid (fsM_yes hb)
    have hN := fun w1 (b1 : Below w.heap.size w w1) => l8First_any A c xs w1 (h.same b1) hs
    clear hs hb
    go_enter Try.func58, Try.ntmps58
    go_wp2_with fail
    refine (l8Solid_any _ _ _ xs _ h hn).mono ?_
    rintro e w1 ⟨rfl, b1⟩
    rw [HB.out]
    go_wp2_with fail
    refine (hN _ b1).mono ?_
    rintro e w2 ⟨A2, c2, rfl, o2, b2⟩
    go_wp2_with fail
    refine bodyPost_ret (results_tmp2 rfl _ _ _) rfl ?_
    exact ⟨A2, 6, c2, rfl, by rw [HM.out]; exact o2.rd, by omega, below_then b1 b2⟩
  | false =>
    have HB := Lib.hid hb
    have HM := Lib.hid (fsM_no hb)
    clear hb
    go_enter Try.func58, Try.ntmps58
    go_wp2_with fail
    refine (l8Solid_any _ _ _ xs _ h hn).mono ?_
    rintro e w1 ⟨rfl, b1⟩
    rw [HB.out]
    go_wp2_with fail
    refine bodyPost_ret (results_tmp2 rfl _ _ _) rfl ?_
    exact ⟨_, 0, 0, rfl, by rw [HM.out]; exact Rd.nil_ _ _, by omega, below_alloc b1 _⟩

theorem samB_no1 {xs ys : List Int} (h : solB xs = false) : samB xs ys = false := by unfold samB; rw [h]; rfl
theorem samB_no2 {xs ys : List Int} (h : solB ys = false) : samB xs ys = false := by unfold samB; rw [h]; simp
theorem samB_less {xs ys : List Int} (h1 : solB xs = true) (h2 : solB ys = true) : (!lessB (fstL xs) (fstL ys) && !lessB (fstL ys) (fstL xs)) = samB xs ys := by
  rw [less_eq (fst_sol (sol_of h1)) (fst_sol (sol_of h2))]; unfold samB; rw [h1, h2, Bool.true_and, Bool.true_and]
set_option maxHeartbeats 1000000 in
theorem specSolidSame_any (A : Option Addr) (n c : Nat) (xs : List Int) (A1 : Option Addr) (n1 c1 : Nat) (ys : List Int) (w : World) (h : Rd w A n xs) (hn : n ≤ 1048576) (h1 : Rd w A1 n1 ys) (hn1 : n1 ≤ 1048576) :
    Calls Try.prog 61 #[.slice A n c, .slice A1 n1 c1] w fun e w' => e = .returned (.bool (samB xs ys)) ∧ Below w.heap.size w w' := by
  have hY := fun w1 (b1 : Below w.heap.size w w1) => l8Solid_any A1 n1 c1 ys w1 (h1.same b1) hn1
  cases hb : solB xs with
  | false =>
    have HB := Lib.hid hb
    have HM := Lib.hid (samB_no1 (ys := ys) hb)
    rw [HM.out]
    clear hb h1 hY
    go_enter Try.func61, Try.ntmps61
    go_wp2_with fail
    refine (l8Solid_any _ _ _ xs _ h hn).mono ?_
    rintro e w1 ⟨rfl, b1⟩
    rw [HB.out]
    go_wp2_with fail
    go_ret
    exact ⟨rfl, b1⟩
  | true =>
    have hs := sol_of hb
    obtain rfl : n = 6 := by rw [← h.1, hs.len]
    have HB := Lib.hid hb
    cases hb1 : solB ys with
    | false =>
      have HB1 := Lib.hid hb1
      have HM := Lib.hid (samB_no2 (xs := xs) hb1)
      rw [HM.out]
      clear hb hb1 h1 hs
      go_enter Try.func61, Try.ntmps61
      go_wp2_with fail
      refine (l8Solid_any _ _ _ xs _ h hn).mono ?_
      rintro e w1 ⟨rfl, b1⟩
      rw [HB.out]
      go_wp2_with fail
      refine (hY _ b1).mono ?_
      rintro e w2 ⟨rfl, b2⟩
      rw [HB1.out]
      go_wp2_with fail
      go_ret
      exact ⟨rfl, below_then b1 b2⟩
    | true =>
      have hs1 := sol_of hb1
      obtain rfl : n1 = 6 := by rw [← h1.1, hs1.len]
      have HB1 := Lib.hid hb1
      have HM := Lib.hid (samB_less hb hb1)
      have hX := fun w1 (b1 : Below w.heap.size w w1) => l8First_any A c xs w1 (h.same b1) hs
      have hX1 := fun w1 (b1 : Below w.heap.size w w1) => l8First_any A1 c1 ys w1 (h1.same b1) hs1
      rw [← HM.out]
      generalize fstL xs = F at *
      generalize fstL ys = G at *
      have hL := fun A3 A4 c3 c4 W (r3 : Rd W A3 6 F) (r4 : Rd W A4 6 G) => l8Less_any A3 A4 6 c3 c4 F G W r3 r4 (by omega)
      have hL2 := fun A3 A4 c3 c4 W (r3 : Rd W A3 6 F) (r4 : Rd W A4 6 G) => l8Less_any A4 A3 6 c4 c3 G F W r4 r3 (by omega)
      generalize lessB F G = p at *
      generalize lessB G F = q at *
      clear hb hb1 h1 hs hs1 HM
      go_enter Try.func61, Try.ntmps61
      go_wp2_with fail
      refine (l8Solid_any _ _ _ xs _ h hn).mono ?_
      rintro e w1 ⟨rfl, b1⟩
      rw [HB.out]
      go_wp2_with fail
      refine (hY _ b1).mono ?_
      rintro e w2 ⟨rfl, b2⟩
      rw [HB1.out]
      have B2 := below_then b1 b2
      clear b1 b2
      go_wp2_with fail
      refine (hX _ B2).mono ?_
      rintro e w3 ⟨A3, c3, rfl, o3, b3⟩
      have B3 := below_then B2 b3
      go_wp2_with fail
      refine (hX1 _ B3).mono ?_
      rintro e w4 ⟨A4, c4, rfl, o4, b4⟩
      have B4 := below_then B3 b4
      have r3 := (o3.same b4).rd
      have r4 := o4.rd
      clear o3 o4 b3 b4 B2 B3 hX hX1 hY h
      cases p with
      | true =>
        go_wp2_with fail
        refine (hL _ _ _ _ _ r3 r4).mono ?_
        rintro e w5 ⟨rfl, b5⟩
        go_wp2_with fail
        go_ret
        exact ⟨rfl, below_then B4 b5⟩
      | false =>
        go_wp2_with fail
        refine (hL _ _ _ _ _ r3 r4).mono ?_
        rintro e w5 ⟨rfl, b5⟩
        go_wp2_with fail
        refine (hL2 _ _ _ _ _ (r3.same b5) (r4.same b5)).mono ?_
        rintro e w6 ⟨rfl, b6⟩
        go_wp2_with fail
        go_ret
        exact ⟨ret_b (by cases q <;> rfl), below_then (below_then B4 b5) b6⟩
end Go.Proofs.Ytdnegamminhbfaa
