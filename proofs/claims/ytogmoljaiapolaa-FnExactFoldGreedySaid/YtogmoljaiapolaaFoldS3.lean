/- Contracts of the model's functions of chapter 5: greedy foldings, backwards. -/
import Derived.Test.YtogmoljaiapolaaFoldS2
namespace Go.Proofs.Ytogmoljaiapolaa
open Go.RowKit

theorem grd_one (m : Int) {xs : List Int} (hx : ∀ j, j < xs.length → 1 ≤ xs.getD j 0 ∧ xs.getD j 0 ≤ 60) (hm : ∀ j, j < xs.length → xs.getD j 0 ≤ m) (_hm60 : m ≤ 60) {k : Nat} (hk : k < xs.length) {a lo hi : Int} (h1 : -m < a) (h2 : a ≤ m) (h3 : -m < lo) (h4 : hi ≤ m) (h5 : lo ≤ 0) (h6 : 0 ≤ hi) :
    ∃ q l g, (a + xs.getD k 0 ≤ m ∧ q = a + xs.getD k 0 ∨ ¬ a + xs.getD k 0 ≤ m ∧ q = a - xs.getD k 0) ∧ (if q < lo then q else lo) = l ∧ (if hi < q then q else hi) = g ∧ grdT m (xs.drop k) (a, lo, hi) = grdT m (xs.drop (k + 1)) (q, l, g) ∧ -m < q ∧ q ≤ m ∧ -m < l ∧ g ≤ m ∧ l ≤ 0 ∧ 0 ≤ g := by
  have hxk := hx k hk
  have hmk := hm k hk
  by_cases h : a + xs.getD k 0 ≤ m
  · refine ⟨_, _, _, .inl ⟨h, rfl⟩, rfl, rfl, ?_, by omega, h, ?_, ?_, ?_, ?_⟩
    · rw [grd_yes hk h]
      congr 2
      exact Prod.ext (by simp only; split <;> omega) (by simp only; split <;> omega)
    all_goals split <;> omega
  · refine ⟨_, _, _, .inr ⟨h, rfl⟩, rfl, rfl, ?_, by omega, by omega, ?_, ?_, ?_, ?_⟩
    · rw [grd_no hk h]
      congr 2
      exact Prod.ext (by simp only; split <;> omega) (by simp only; split <;> omega)
    all_goals split <;> omega

set_option maxHeartbeats 1600000 in
theorem specFoldGreedy_any (A : Option Addr) (n c : Nat) (xs : List Int) (w : World) (h : Rd w A n xs) (hn : n ≤ 1048576) :
    Calls Try.prog 43 #[.slice A n c] w fun e w' => e = .returned (.tuple #[.int .i64 (grdM xs), .bool (rulB xs)]) ∧ Below w.heap.size w w' := by
  by_cases hR : rulB xs = true
  · have HR := Lib.hid hR
    have hr := rulB_true hR
    have HL := Lib.hid h.1
    have hn9 : n ≤ 9 := by have := hr.2.1; have := h.1; omega
    clear hR
    go_enter Try.func43, Try.ntmps43
    go_wp2_with fail
    refine (l5Ruler_any A n c xs _ h hn).mono ?_
    rintro e w1 ⟨rfl, b1⟩
    rw [HR.out]
    go_wp2_with fail
    go_loopw [4, 5] (fun m i wr => ∃ k : Nat, k ≤ n ∧ i = .int .i64 k ∧ m = .int .i64 (mxTo xs k) ∧ Below w.heap.size w wr) (fun _ i _ => n - (intOf i).toNat)
    case atStart => exact ⟨0, Nat.zero_le _, rfl, rfl, b1⟩
    case round =>
      obtain ⟨k, hk, rfl, rfl, hb⟩ := hrel
      by_cases hlt : k < n
      · obtain ⟨b, off, rfl, hbl, hc⟩ := h.2 (by omega)
        have hcx : wr.cell? ⟨b, off + k, none⟩ = some (.int .i64 (xs.getD k 0)) := (hb.cell (p := ⟨b, off + k, none⟩) hbl).trans (hc k hlt)
        obtain ⟨x, ex⟩ : ∃ x, x = xs.getD k 0 := ⟨_, rfl⟩
        rw [← ex] at hcx
        have HM := Lib.hid (show (if mxTo xs k < x then x else mxTo xs k) = mxTo xs (k + 1) by rw [mxTo, ← ex]; split <;> omega)
        generalize mxTo xs k = m at *
        clear hc h hr ex b1
        go_wp2_with fail
        go_roundw
        case rel => exact ⟨k + 1, by omega, by go_num, by rw [← HM.out], hb⟩
        case measure => simp [intOf]; omega
      · obtain rfl : k = n := by omega
        have hlen : xs.length = k := HL.out
        have hmx : mxTo xs k = mxL xs := by unfold mxL; rw [hlen]
        rw [hmx]
        have hbd := mxTo_bd hr.2.2 xs.length (Nat.le_refl _)
        have hge : ∀ j, j < xs.length → xs.getD j 0 ≤ mxL xs := fun j hj => mxTo_ge xs.length j hj
        have hm1 : 1 ≤ mxL xs := hbd.2.2 hr.1
        have hm60 : mxL xs ≤ 60 := hbd.2.1
        have HF := Lib.hid (show grdL (mxL xs) xs = (grdT (mxL xs) xs (0, 0, 0)).2.2 - (grdT (mxL xs) xs (0, 0, 0)).2.1 from rfl)
        have HG := Lib.hid (grdM_yes HR.out)
        have HXX := Lib.hid hr.2.2
        generalize mxL xs = m at *
        have HGE := Lib.hid hge
        clear hmx hbd hge hlen
        go_wp2_with fail
        go_loopw [6, 7, 8, 9] (fun a lo hi i wr => ∃ (j : Nat) (va vl vh : Int), j ≤ k ∧ i = .int .i64 j ∧ a = .int .i64 va ∧ lo = .int .i64 vl ∧ hi = .int .i64 vh ∧ grdT m (xs.drop j) (va, vl, vh) = grdT m xs (0, 0, 0) ∧ (-m < va ∧ va ≤ m ∧ -m < vl ∧ vh ≤ m ∧ vl ≤ 0 ∧ 0 ≤ vh) ∧ Below w.heap.size w wr) (fun _ _ _ i _ => k - (intOf i).toNat)
        case atStart => exact ⟨0, 0, 0, 0, Nat.zero_le _, rfl, rfl, rfl, rfl, rfl, by omega, hb⟩
        case round =>
          clear hb b1
          obtain ⟨j, va, vl, vh, hj, rfl, rfl, rfl, rfl, heq, ⟨g1, g2, g3, g4, g5, g6⟩, hb⟩ := hrel
          have HE := Lib.hid heq
          clear heq
          by_cases hlt2 : j < k
          · obtain ⟨b, off, rfl, hbl, hc⟩ := h.2 (by omega)
            have hcx : wr.cell? ⟨b, off + j, none⟩ = some (.int .i64 (xs.getD j 0)) := (hb.cell (p := ⟨b, off + j, none⟩) hbl).trans (hc j hlt2)
            have hjl : j < xs.length := by rw [HL.out]; exact hlt2
            have hx := HXX.out j hjl
            obtain ⟨q, l, g, hq, hl, hg, hst, t1, t2, t3, t4, t5, t6⟩ := grd_one m HXX.out HGE.out hm60 hjl g1 g2 g3 g4 g5 g6
            obtain ⟨x, ex⟩ : ∃ x, x = xs.getD j 0 := ⟨_, rfl⟩
            rw [← ex] at hcx hx hq
            have HS := Lib.hid hst
            have HLO := Lib.hid hl
            have HHI := Lib.hid hg
            have HT := Lib.hid (show -m < q ∧ q ≤ m ∧ -m < l ∧ g ≤ m ∧ l ≤ 0 ∧ 0 ≤ g from ⟨t1, t2, t3, t4, t5, t6⟩)
            have v1 : IntKind.i64.wrap (va + x) = va + x := wrap_is rfl (by omega) (by omega)
            have v2 : IntKind.i64.wrap (va - x) = va - x := wrap_is rfl (by omega) (by omega)
            clear hc h hr ex hst hl hg t1 t2 t3 t4 t5 t6 hjl
            rcases hq with ⟨hq1, rfl⟩ | ⟨hq1, rfl⟩
            · have d1 : decide (va + x ≤ m) = true := by simpa using hq1
              go_wp2_with fail
              go_roundw
              case rel => exact ⟨j + 1, va + x, l, g, by omega, by go_num, rfl, by rw [← HLO.out], by rw [← HHI.out], by rw [← HS.out, HE.out], HT.out, hb⟩
              case measure => simp [intOf]; omega
            · have d1 : decide (va + x ≤ m) = false := by simpa using hq1
              go_wp2_with fail
              go_roundw
              case rel => exact ⟨j + 1, va - x, l, g, by omega, by go_num, rfl, by rw [← HLO.out], by rw [← HHI.out], by rw [← HS.out, HE.out], HT.out, hb⟩
              case measure => simp [intOf]; omega
          · obtain rfl : j = k := by omega
            have v1 : IntKind.i64.wrap (vh - vl) = vh - vl := wrap_is rfl (by omega) (by omega)
            have HZ := Lib.hid (show vh - vl = grdM xs by
              rw [HG.out, HF.out, ← HE.out, List.drop_of_length_le (by rw [HL.out]; exact Nat.le_refl _)]
              rfl)
            clear h hr
            go_wp2_with fail
            go_ret2
            exact ⟨ret_ibq HZ.out HR.out.symm, hb⟩
  · rw [Bool.not_eq_true] at hR
    have HR := Lib.hid hR
    clear hR
    go_enter Try.func43, Try.ntmps43
    go_wp2_with fail
    refine (l5Ruler_any A n c xs _ h hn).mono ?_
    rintro e w1 ⟨rfl, b1⟩
    rw [HR.out]
    go_wp2_with fail
    go_ret2
    exact ⟨ret_ibq (grdM_no HR.out).symm HR.out.symm, b1⟩

set_option maxHeartbeats 1600000 in
theorem specFoldBack_any (A : Option Addr) (n c : Nat) (xs : List Int) (w : World) (h : Rd w A n xs) (hn : n ≤ 1048576) :
    Calls Try.prog 45 #[.slice A n c] w fun e w' => ∃ (A' : Option Addr) (n' c' : Nat), e = .returned (.tuple #[.slice A' n' c', .bool (rulB xs)]) ∧ Own w' w.heap.size A' n' c' (bakM xs) ∧ n' ≤ 9 ∧ Below w.heap.size w w' := by
  have hlit := Own.lit w (Nat.le_refl _) [] (by simp)
  have hal := h.same (below_alloc (Below.refl w.heap.size w) (.cells #[] 3))
  by_cases hR : rulB xs = true
  · have HR := Lib.hid hR
    have hr := rulB_true hR
    have HL := Lib.hid h.1
    have hn9 : n ≤ 9 := by have := hr.2.1; have := h.1; omega
    clear hR hr
    go_enter Try.func45, Try.ntmps45
    go_wp2_with fail
    refine (l5Ruler_any A n c xs _ hal hn).mono ?_
    rintro e w1 ⟨rfl, b1⟩
    rw [HR.out]
    have b0 : Below w.heap.size w w1 := (below_alloc (Below.refl w.heap.size w) (.cells #[] 3)).trans (b1.mono (by simp))
    have o0 := hlit.same b1
    have v0 : IntKind.i64.wrap ((n : Int) - 1) = (n : Int) - 1 := wrap_is rfl (by omega) (by omega)
    clear hlit hal
    go_wp2_with fail
    go_loopw [4, 5] (fun l i wr => ∃ (k c' : Nat) (A' : Option Addr), k ≤ n ∧ i = .int .i64 ((k : Int) - 1) ∧ l = .slice A' (n - k) c' ∧ Own wr w.heap.size A' (n - k) c' (xs.drop k).reverse ∧ Below w.heap.size w wr) (fun _ i _ => (intOf i + 1).toNat)
    case atStart => exact ⟨n, _, _, Nat.le_refl _, rfl, by rw [Nat.sub_self], by rw [Nat.sub_self, List.drop_of_length_le (by rw [HL.out]; exact Nat.le_refl _)]; exact o0, b0⟩
    case round =>
      obtain ⟨k, c', A', hk, rfl, rfl, ho, hb⟩ := hrel
      by_cases h1 : 1 ≤ k
      · obtain ⟨j, rfl⟩ : ∃ j, k = j + 1 := ⟨k - 1, by omega⟩
        obtain ⟨b, off, rfl, hbl, hc⟩ := h.2 (by omega)
        have hcx : wr.cell? ⟨b, off + j, none⟩ = some (.int .i64 (xs.getD j 0)) := (hb.cell (p := ⟨b, off + j, none⟩) hbl).trans (hc j (by omega))
        obtain ⟨x, ex⟩ : ∃ x, x = xs.getD j 0 := ⟨_, rfl⟩
        rw [← ex] at hcx
        have HS := Lib.hid (show (xs.drop (j + 1)).reverse ++ [x] = (xs.drop j).reverse by rw [ex]; exact back_step (by rw [HL.out]; omega))
        have e1 : ((j + 1 : Nat) : Int) - 1 = (j : Int) := by omega
        rw [e1]
        have d1 : decide ((j : Int) ≥ 0) = true := by simp
        have v1 : IntKind.i64.wrap ((j : Int) - 1) = (j : Int) - 1 := wrap_is rfl (by omega) (by omega)
        have v4 : (j : Int) < (n : Int) := by omega
        clear ex hc h o0
        have oa := ho.al (.cells #[.int .i64 x] 3)
        have hsz := hb.size
        go_wp2_with (at_builtin; refine wpList_app rfl (.tmp 18) (.tmp 23) rfl rfl oa rfl (rd_one _ _) (by omega) (by simp; omega) ?_; intro A2 c2 W2 ho2 hg2)
        have b2 : Below w.heap.size w W2 := app_mark (below_alloc hb _) oa (Nat.le_refl _) hg2
        rw [HS.out] at ho2
        clear oa ho
        go_roundw
        case rel => exact ⟨j, c2, A2, (show j ≤ n by omega), rfl, by first | rfl | (congr 1; omega) | congr 1, by rw [show n - j = n - (j + 1) + 1 by omega]; exact ho2, b2⟩
        case measure => simp [intOf]
      · obtain rfl : k = 0 := by omega
        have d1 : decide (((0 : Nat) : Int) - 1 ≥ 0) = false := by simp
        clear h o0
        rw [List.drop_zero] at ho
        go_wp2_with fail
        go_ret2
        exact ⟨A', n - 0, c', by rw [HR.out]; rfl, by rw [bakM_yes HR.out]; exact ho, by omega, hb⟩
  · rw [Bool.not_eq_true] at hR
    have HR := Lib.hid hR
    clear hR
    go_enter Try.func45, Try.ntmps45
    go_wp2_with fail
    refine (l5Ruler_any A n c xs _ hal hn).mono ?_
    rintro e w1 ⟨rfl, b1⟩
    rw [HR.out]
    go_wp2_with fail
    go_ret2
    exact ⟨_, 0, _, by rw [HR.out]; rfl, by rw [bakM_no HR.out]; exact hlit.same b1, by omega, (below_alloc (Below.refl w.heap.size w) (.cells #[] 3)).trans (b1.mono (by simp))⟩
end Go.Proofs.Ytogmoljaiapolaa
