/- Contracts of the program's functions of chapter 5: places, fitting, the greatest length. -/
import Derived.Test.YtogmoljaiapolaaFoldT
import Derived.Test.YtogmoljaiapolaaFoldS7
namespace Go.Proofs.Ytogmoljaiapolaa
open Go.RowKit Go.Sort

theorem OwnL.low_ {w : World} {B B' g n : Nat} {bs : List Bool} (h : OwnL w B g n bs) (hB : B' ≤ B) : OwnL w B' g n bs := by
  refine ⟨h.1, ?_⟩
  rcases h.2 with ⟨h0, hv⟩ | ⟨k, cap, cur, hv, hb, rest⟩
  · exact .inl ⟨h0, hv⟩
  · exact .inr ⟨k, cap, cur, hv, Nat.le_trans hB hb, rest⟩

set_option maxRecDepth 100000 in
set_option maxHeartbeats 2000000 in
theorem after_any (B g N t : Nat) (bs : List Bool) (S : Int → Bool) (a : Int) (w : World) (h : OwnL w B g N bs) (hh : HasL N S bs) (hN : N = t + 1) (ht : t ≤ 1000) (hS : ∀ p, S p = true → 0 ≤ p ∧ p ≤ (t : Int)) (ha1 : 1 ≤ a) (ha2 : a ≤ 60) :
    Calls Try.prog 120 #[.slice (some ⟨g, 0, none⟩) N N, .int .i64 a] w fun e w' => ∃ (g' : Nat) (bs' : List Bool), e = .returned (.slice (some ⟨g', 0, none⟩) N N) ∧ OwnL w' w.heap.size g' N bs' ∧ HasL N (nextB (t : Int) a S) bs' ∧ Below w.heap.size w w' := by
  obtain ⟨i0, hi, hz0, hz1, hz2⟩ := info_parts boolInfo
  have HN := Lib.hid hN
  have hN1 : N ≤ 1001 := by omega
  have HH := Lib.hid hh
  have HIN := Lib.hid hS
  have hgl := h.lt.2
  clear hh hS hN
  go_enter Try.func120, Try.ntmps120
  go_wp2_with (first
    | (at_make; refine wpList_make_full _ rfl _ _ 117 rfl w.heap.size 4 i0 (.bool false) 1 Try.underlying117 hi hz0 hz1 _ _ _ _ N rfl rfl rfl rfl (by rw [hz2]; omega) (by unfold maxLen; omega) (Nat.le_refl _) ?_; intro w2 hown hg1))
  have o2 := OwnL.made hown
  have b2 : Below w.heap.size w w2 := below_row hg1 (Nat.le_refl _) (fun k e => by cases e)
  have h2 := h.far hg1 (fun k e => by cases e)
  obtain ⟨g2, hg⟩ : ∃ g2, g2 = w.heap.size := ⟨_, rfl⟩
  rw [← hg] at o2 ⊢
  have HG := Lib.hid hg
  have HNE := Lib.hid (show g ≠ g2 by omega)
  clear hown hg1 hg h
  go_loopw [6, 7, 13] (fun _ _ i wr => ∃ (x : Nat) (bs2 : List Bool), x ≤ N ∧ i = .int .i64 x ∧ OwnL wr w.heap.size g2 N bs2 ∧ HasL N (midB S a x) bs2 ∧ OwnL wr B g N bs ∧ Below w.heap.size w wr) (fun _ _ i _ => N - (intOf i).toNat)
  case atStart => exact ⟨0, _, Nat.zero_le _, rfl, by rw [HG.out] at o2 ⊢; exact o2, mid_zero HIN.out a, h2, b2⟩
  case round =>
    clear o2 b2 h2
    obtain ⟨x, bs2, hxk, rfl, ho2, hh2, ho1, hb⟩ := hrel
    have HM := Lib.hid hh2
    clear hh2
    by_cases hlt3 : x < N
    · have d2 : x ≤ t := by have := HN.out; omega
      have hcn := HH.out.cell ho1 hlt3
      have hNt := HN.out
      cases hsx : S (x : Int) with
      | false =>
        rw [hsx] at hcn
        have HS := Lib.hid (mid_skip HM.out hsx)
        clear hsx hNt
        go_wp2_with fail
        go_roundw
        case rel => first | exact ⟨x + 1, bs2, by omega, by go_num, ho2, HS.out, ho1, hb⟩ | ((repeat apply Exists.intro); exact ⟨⟨x + 1, bs2, by omega, by go_num, ho2, HS.out, ho1, hb⟩, rfl⟩)
        case measure => simp [intOf]; omega
      | true =>
        rw [hsx] at hcn
        have HSX := Lib.hid hsx
        clear hsx
        by_cases hup : (x : Int) + a ≤ (t : Int)
        · obtain ⟨i, hi2⟩ : ∃ i : Nat, (x : Int) + a = (i : Int) := ⟨((x : Int) + a).toNat, by omega⟩
          have v2 : IntKind.i64.wrap ((x : Int) + a) = (i : Int) := wrap_is hi2 (by omega) (by omega)
          have hik : i < N := by omega
          have hci := ho2.cell i hik
          have hfi := ho2.free i
          have o4 := ho2.stored i true
          have o5 := ho1.set_other (j := i) (u := .bool true) (Ne.symm HNE.out)
          have b5 : Below w.heap.size w (wr.setCell ⟨g2, i, none⟩ (.bool true)) := hb.setCell (p := ⟨g2, i, none⟩) ho2.lt.1 _
          by_cases hdn : a ≤ (x : Int)
          · obtain ⟨q, hq2⟩ : ∃ q : Nat, (x : Int) - a = (q : Int) := ⟨((x : Int) - a).toNat, by omega⟩
            have v3 : IntKind.i64.wrap ((x : Int) - a) = (q : Int) := wrap_is hq2 (by omega) (by omega)
            have hqk : q < N := by omega
            have hcq := o4.cell q hqk
            have hfq := o4.free q
            have o6 := o4.stored q true
            have o7 := o5.set_other (j := q) (u := .bool true) (Ne.symm HNE.out)
            have b6 : Below w.heap.size w ((wr.setCell ⟨g2, i, none⟩ (.bool true)).setCell ⟨g2, q, none⟩ (.bool true)) := b5.setCell (p := ⟨g2, q, none⟩) ho2.lt.1 _
            have HS := Lib.hid (mid_both HM.out HSX.out hi2.symm hq2.symm hik hqk)
            have d4 : decide ((q : Int) ≥ 0) = true := by simp
            clear hi2 hq2 ho2 o4 o5 ho1 hb b5 hNt hup hdn
            go_wp2_with fail
            go_roundw
            case rel => first | exact ⟨x + 1, _, by omega, by go_num, o6, HS.out, o7, b6⟩ | ((repeat apply Exists.intro); exact ⟨⟨x + 1, _, by omega, by go_num, o6, HS.out, o7, b6⟩, rfl⟩)
            case measure => simp [intOf]; omega
          · have HS := Lib.hid (mid_up HM.out HSX.out hi2.symm hik (by omega))
            have v3 : IntKind.i64.wrap ((x : Int) - a) = (x : Int) - a := wrap_is rfl (by omega) (by omega)
            have d4 : decide ((x : Int) - a ≥ 0) = false := by simp; omega
            have d5 : decide (a ≤ (x : Int)) = false := by simpa using hdn
            clear hi2 ho2 ho1 hb hNt hup hdn
            go_wp2_with fail
            go_roundw
            case rel => first | exact ⟨x + 1, _, by omega, by go_num, o4, HS.out, o5, b5⟩ | ((repeat apply Exists.intro); exact ⟨⟨x + 1, _, by omega, by go_num, o4, HS.out, o5, b5⟩, rfl⟩)
            case measure => simp [intOf]; omega
        · have v2 : IntKind.i64.wrap ((x : Int) + a) = (x : Int) + a := wrap_is rfl (by omega) (by omega)
          have d3 : decide ((x : Int) + a < (N : Int)) = false := by simp; omega
          by_cases hdn : a ≤ (x : Int)
          · obtain ⟨q, hq2⟩ : ∃ q : Nat, (x : Int) - a = (q : Int) := ⟨((x : Int) - a).toNat, by omega⟩
            have v3 : IntKind.i64.wrap ((x : Int) - a) = (q : Int) := wrap_is hq2 (by omega) (by omega)
            have hqk : q < N := by omega
            have hcq := ho2.cell q hqk
            have hfq := ho2.free q
            have o6 := ho2.stored q true
            have o7 := ho1.set_other (j := q) (u := .bool true) (Ne.symm HNE.out)
            have b6 : Below w.heap.size w (wr.setCell ⟨g2, q, none⟩ (.bool true)) := hb.setCell (p := ⟨g2, q, none⟩) ho2.lt.1 _
            have HS := Lib.hid (mid_down HM.out HSX.out (by omega) hq2.symm hqk)
            have d4 : decide ((q : Int) ≥ 0) = true := by simp
            clear hq2 ho2 ho1 hb hNt hup hdn
            go_wp2_with fail
            go_roundw
            case rel => first | exact ⟨x + 1, _, by omega, by go_num, o6, HS.out, o7, b6⟩ | ((repeat apply Exists.intro); exact ⟨⟨x + 1, _, by omega, by go_num, o6, HS.out, o7, b6⟩, rfl⟩)
            case measure => simp [intOf]; omega
          · have HS := Lib.hid (mid_none HM.out HSX.out (by omega) (by omega))
            have v3 : IntKind.i64.wrap ((x : Int) - a) = (x : Int) - a := wrap_is rfl (by omega) (by omega)
            have d4 : decide ((x : Int) - a ≥ 0) = false := by simp; omega
            have d5 : decide (a ≤ (x : Int)) = false := by simpa using hdn
            clear hNt hup hdn
            go_wp2_with fail
            go_roundw
            case rel => first | exact ⟨x + 1, _, by omega, by go_num, ho2, HS.out, ho1, hb⟩ | ((repeat apply Exists.intro); exact ⟨⟨x + 1, _, by omega, by go_num, ho2, HS.out, ho1, hb⟩, rfl⟩)
            case measure => simp [intOf]; omega
    · obtain rfl : x = N := by omega
      have HS := Lib.hid (mid_all HN.out HIN.out HM.out)
      go_wp2_with fail
      go_ret
      exact ⟨g2, bs2, rfl, ho2, HS.out, hb⟩

/-- What slices.Index of true answers. -/
def IdxP (N : Nat) (bs : List Bool) (w : World) (e : Ending) (w' : World) : Prop :=
  ∃ v : Int, e = .returned (.int .i64 v) ∧ (-1 ≤ v ∧ v ≤ 1001 ∧ (0 ≤ v ↔ ∃ j, j < N ∧ bs.getD j false = true)) ∧ Below w.heap.size w w'
set_option maxHeartbeats 1000000 in
theorem indexB_any (B g N : Nat) (bs : List Bool) (w : World) (h : OwnL w B g N bs) (hN : N ≤ 1001) :
    Calls Try.prog 134 #[.slice (some ⟨g, 0, none⟩) N N, .bool true] w (IdxP N bs w) := by
  go_enter Try.func134, Try.ntmps134
  go_wp2_with fail
  go_loopw [5, 8] (fun _ i wr => ∃ k : Nat, k ≤ N ∧ i = .int .i64 k ∧ (∀ j, j < k → bs.getD j false = false) ∧ Below w.heap.size w wr) (fun _ i _ => N - (intOf i).toNat)
  case atStart => exact ⟨0, Nat.zero_le _, rfl, fun j hj => absurd hj (by omega), Below.refl _ _⟩
  case round =>
    obtain ⟨k, hk, rfl, hno, hb⟩ := hrel
    have HNO := Lib.hid hno
    clear hno
    by_cases hlt : k < N
    · have hcx := (h.same hb).cell k hlt
      cases hx : bs.getD k false with
      | true =>
        rw [hx] at hcx
        have HX := Lib.hid hx
        clear hx h
        go_wp2_with fail
        go_ret
        exact ⟨k, rfl, ⟨by omega, by omega, ⟨fun _ => ⟨k, hlt, HX.out⟩, fun _ => by omega⟩⟩, hb⟩
      | false =>
        rw [hx] at hcx
        have HX := Lib.hid hx
        clear hx h
        go_wp2_with fail
        go_roundw
        case rel => first | exact ⟨k + 1, by omega, by go_num, fun j hj => by
          by_cases e : j = k
          · subst e; exact HX.out
          · exact HNO.out j (by omega), hb⟩ | ((repeat apply Exists.intro); exact ⟨⟨k + 1, by omega, by go_num, fun j hj => by
          by_cases e : j = k
          · subst e; exact HX.out
          · exact HNO.out j (by omega), hb⟩, rfl⟩)
        case measure => simp [intOf]; omega
    · obtain rfl : k = N := by omega
      clear h
      go_wp2_with fail
      go_ret
      exact ⟨-1, rfl, ⟨by omega, by omega, ⟨fun h => by omega, fun ⟨j, hj, hx⟩ => by rw [HNO.out j hj] at hx; cases hx⟩⟩, hb⟩

theorem containsB_any (B g N : Nat) (bs : List Bool) (r : Bool) (w : World) (h : OwnL w B g N bs) (hN : N ≤ 1001) (hr : r = true ↔ ∃ j, j < N ∧ bs.getD j false = true) :
    Calls Try.prog 121 #[.slice (some ⟨g, 0, none⟩) N N, .bool true] w fun e w' => e = .returned (.bool r) ∧ Below w.heap.size w w' := by
  have HR := Lib.hid hr
  clear hr
  go_enter Try.func121, Try.ntmps121
  go_wp2_with fail
  refine (indexB_any B g N bs _ h hN).mono ?_
  rintro e w1 ⟨v, rfl, ⟨hv1, hv2, hv3⟩, b1⟩
  have HV := Lib.hid hv3
  clear hv3
  go_wp2_with fail
  go_ret
  refine ⟨ret_b ?_, b1⟩
  rw [Bool.eq_iff_iff, HR.out, ← HV.out]
  simp

set_option maxRecDepth 100000 in
set_option maxHeartbeats 2000000 in
theorem fitsFrom_any (A : Option Addr) (n c : Nat) (xs : List Int) (b t : Nat) (w : World) (h : Rd w A n xs) (hr : Ruler xs) (hbt : b ≤ t) (ht : t ≤ 1000) :
    Calls Try.prog 85 #[.slice A n c, .int .i64 b, .int .i64 t] w fun e w' => e = .returned (.bool (froB t b xs)) ∧ Below w.heap.size w w' := by
  obtain ⟨i0, hi, hz0, hz1, hz2⟩ := info_parts boolInfo
  have HRR := Lib.hid hr
  have HL := Lib.hid h.1
  have hn9 : n ≤ 9 := by have := hr.2.1; have := h.1; omega
  obtain ⟨N, hN⟩ : ∃ N : Nat, N = t + 1 := ⟨_, rfl⟩
  have HN := Lib.hid hN
  have v1 : IntKind.i64.wrap ((t : Int) + 1) = (N : Int) := wrap_is (by omega) (by omega) (by omega)
  have hN1 : N ≤ 1001 := by omega
  have hbN : b < N := by omega
  have HB := Lib.hid (show (0 : Int) ≤ (b : Int) ∧ (b : Int) ≤ (t : Int) by omega)
  clear hr hN
  go_enter Try.func85, Try.ntmps85
  go_wp2_with (first
    | (at_make; refine wpList_make_full _ rfl _ _ 117 rfl w.heap.size 4 i0 (.bool false) 1 Try.underlying117 hi hz0 hz1 _ _ _ _ N rfl rfl rfl rfl (by rw [hz2]; omega) (by unfold maxLen; omega) (Nat.le_refl _) ?_; intro w2 hown hg1; have o2 := OwnL.made hown; have b2 : Below w.heap.size w w2 := below_row hg1 (Nat.le_refl _) (fun k e => by cases e); have hcb := o2.cell b hbN; have hfb := o2.free b))
  have o3 := o2.stored b true
  have b3 : Below w.heap.size w (w2.setCell ⟨w.heap.size, b, none⟩ (.bool true)) := b2.setCell (p := ⟨w.heap.size, b, none⟩) (Nat.le_refl _) _
  have hl3 := one_laid hbN
  obtain ⟨g, hg⟩ : ∃ g, g = w.heap.size := ⟨_, rfl⟩
  rw [← hg] at o3 b3 ⊢
  have HG := Lib.hid hg
  clear hown hg1 hcb hfb o2 b2 hg
  go_loopw [7, 9, 18] (fun l _ i wr => ∃ (j g : Nat) (bs : List Bool), j ≤ n ∧ i = .int .i64 j ∧ l = .slice (some ⟨g, 0, none⟩) N N ∧ OwnL wr w.heap.size g N bs ∧ HasL N (nwF t b xs j) bs ∧ Below w.heap.size w wr) (fun _ _ i _ => n - (intOf i).toNat)
  case atStart => exact ⟨0, g, _, Nat.zero_le _, rfl, rfl, by rw [HG.out] at o3 ⊢; exact o3, hl3, by rw [HG.out] at b3 ⊢; exact b3⟩
  case round =>
    clear o3 b3 hl3
    obtain ⟨j, g1, bs1, hj, rfl, rfl, ho, hh, hb⟩ := hrel
    have HH := Lib.hid hh
    clear hh
    by_cases hlt2 : j < n
    · obtain ⟨bl, off, rfl, hbl, hc⟩ := h.2 (by omega)
      have hx := HRR.out.2.2 j (by rw [HL.out]; exact hlt2)
      obtain ⟨a, ea⟩ : ∃ a, a = xs.getD j 0 := ⟨_, rfl⟩
      have hcx : wr.cell? ⟨bl, off + j, none⟩ = some (.int .i64 a) := by
        rw [ea]; exact (hb.cell (p := ⟨bl, off + j, none⟩) hbl).trans (hc j hlt2)
      rw [← ea] at hx
      have HNX := Lib.hid (show nextB (t : Int) a (nwF t b xs j) = nwF t b xs (j + 1) by rw [ea]; rfl)
      have hA := after_any w.heap.size g1 N t bs1 (nwF t b xs j) a wr ho HH.out HN.out ht (fun p hp => nwF_in HB.out j hp) hx.1 hx.2
      rw [HNX.out] at hA
      clear hc h ea ho hx
      go_wp2_with fail
      refine hA.mono ?_
      rintro e w3 ⟨g2, bs2, rfl, o2, h2, b2⟩
      have o2 := OwnL.low_ o2 hb.size
      have b3 := below_then hb b2
      have H2 := Lib.hid h2
      clear h2 b2 hA
      go_wp2_with fail
      go_roundw
      case rel => first | exact ⟨j + 1, g2, bs2, by omega, by go_num, rfl, o2, H2.out, b3⟩ | ((repeat apply Exists.intro); exact ⟨⟨j + 1, g2, bs2, by omega, by go_num, rfl, o2, H2.out, b3⟩, rfl⟩)
      case measure => simp [intOf]; omega
    · obtain rfl : j = n := by omega
      have hq : froB t b xs = true ↔ ∃ y, y < N ∧ bs1.getD y false = true := by
        rw [froB_iff]
        have e : nwF t b xs j = nwF t b xs xs.length := by rw [HL.out]
        have hh := HH.out
        rw [e] at hh
        constructor
        · rintro ⟨q, hq⟩
          have h1 := (nwF_pth HB.out q).2 hq
          have h2 := nwF_in HB.out _ h1
          refine ⟨q.toNat, by have := HN.out; omega, ?_⟩
          rw [hh.2 _ (by have := HN.out; omega), show ((q.toNat : Nat) : Int) = q by omega]
          exact h1
        · rintro ⟨y, hy, h1⟩
          rw [hh.2 y hy] at h1
          exact ⟨y, (nwF_pth HB.out y).1 h1⟩
      have hC := containsB_any w.heap.size g1 N bs1 (froB t b xs) wr ho hN1 hq
      clear h hq ho
      go_wp2_with fail
      refine hC.mono ?_
      rintro e w3 ⟨rfl, b2⟩
      go_wp2_with fail
      go_ret
      exact ⟨rfl, below_then hb b2⟩

set_option maxRecDepth 100000 in
set_option maxHeartbeats 1000000 in
theorem fits_any (A : Option Addr) (n c : Nat) (xs : List Int) (t : Nat) (w : World) (h : Rd w A n xs) (hr : Ruler xs) (ht : t ≤ 1000) :
    Calls Try.prog 66 #[.slice A n c, .int .i64 t] w fun e w' => e = .returned (.bool (decide (spanL xs ≤ (t : Int)))) ∧ Below w.heap.size w w' := by
  have HQ := Lib.hid (fro_span (t := (t : Int)) (xs := xs))
  have hF := fun (b : Nat) W (h : Rd W A n xs) (hbt : b ≤ t) => fitsFrom_any A n c xs b t W h hr hbt ht
  obtain ⟨N, hN⟩ : ∃ N : Nat, N = t + 1 := ⟨_, rfl⟩
  have HN := Lib.hid hN
  have v1 : IntKind.i64.wrap ((t : Int) + 1) = (N : Int) := wrap_is (by omega) (by omega) (by omega)
  have hN1 : N ≤ 1001 := by omega
  clear hr hN
  go_enter Try.func66, Try.ntmps66
  go_wp2_with fail
  go_loopw [5, 8] (fun _ i wr => ∃ k : Nat, k ≤ N ∧ i = .int .i64 k ∧ (∀ b : Nat, b < k → froB t b xs = false) ∧ Below w.heap.size w wr) (fun _ i _ => N - (intOf i).toNat)
  case atStart => exact ⟨0, Nat.zero_le _, rfl, fun j hj => absurd hj (by omega), Below.refl _ _⟩
  case round =>
    obtain ⟨k, hk, rfl, hno, hb⟩ := hrel
    have HNO := Lib.hid hno
    clear hno
    by_cases hlt : k < N
    · have hFk := hF k wr (h.same hb) (by have := HN.out; omega)
      cases hx : froB t k xs with
      | true =>
        rw [hx] at hFk
        have HX := Lib.hid (show spanL xs ≤ (t : Int) from HQ.out.2 ⟨k, by omega, by have := HN.out; omega, hx⟩)
        clear hx h hF
        go_wp2_with fail
        refine hFk.mono ?_
        rintro e w3 ⟨rfl, b2⟩
        go_wp2_with fail
        go_ret
        exact ⟨ret_b (decide_eq_true HX.out).symm, below_then hb b2⟩
      | false =>
        rw [hx] at hFk
        have HX := Lib.hid hx
        clear hx h hF
        go_wp2_with fail
        refine hFk.mono ?_
        rintro e w3 ⟨rfl, b2⟩
        have b3 := below_then hb b2
        go_wp2_with fail
        go_roundw
        case rel => first | exact ⟨k + 1, by omega, by go_num, fun j hj => by
          by_cases e : j = k
          · subst e; exact HX.out
          · exact HNO.out j (by omega), b3⟩ | ((repeat apply Exists.intro); exact ⟨⟨k + 1, by omega, by go_num, fun j hj => by
          by_cases e : j = k
          · subst e; exact HX.out
          · exact HNO.out j (by omega), b3⟩, rfl⟩)
        case measure => simp [intOf]; omega
    · obtain rfl : k = N := by omega
      have HX := Lib.hid (show ¬ spanL xs ≤ (t : Int) from fun hle => by
        obtain ⟨b, h1, h2, h3⟩ := HQ.out.1 hle
        have := HNO.out b.toNat (by have := HN.out; omega)
        rw [show ((b.toNat : Nat) : Int) = b by omega, h3] at this
        cases this)
      clear h hF
      go_wp2_with fail
      go_ret
      exact ⟨ret_b (decide_eq_false (by have := HX.out; omega)).symm, hb⟩

theorem mx_span {xs : List Int} (h : Ruler xs) : 1 ≤ mxL xs ∧ mxL xs ≤ 60 ∧ mxL xs ≤ spanL xs := by
  have hbd := mxTo_bd h.2.2 xs.length (Nat.le_refl _)
  exact ⟨hbd.2.2 h.1, hbd.2.1, span_ge (mxTo_in xs.length h.1 (Nat.le_refl _) (fun j hj => (h.2.2 j hj).1))⟩

set_option maxRecDepth 100000 in
set_option maxHeartbeats 1000000 in
theorem rmax_any (A : Option Addr) (n c : Nat) (xs : List Int) (w : World) (h : Rd w A n xs) (hr : Ruler xs) :
    Calls Try.prog 65 #[.slice A n c] w fun e w' => e = .returned (.int .i64 (mxL xs)) ∧ Below w.heap.size w w' := by
  have HL := Lib.hid h.1
  have hn1 : 1 ≤ n := by have := hr.1; have := h.1; omega
  have hn9 : n ≤ 9 := by have := hr.2.1; have := h.1; omega
  obtain ⟨b, off, rfl, hbl, hc⟩ := h.2 (by omega)
  have h00 := hc 0 (by omega)
  have hx0 := hr.2.2 0 (by rw [HL.out]; omega)
  have H1 := Lib.hid (show xs.getD 0 0 = mxTo xs 1 by rw [mxTo, mxTo]; omega)
  have hC := Lib.hid hc
  rw [Nat.add_zero] at h00
  generalize xs.getD 0 0 = x0 at *
  clear hc h hr hx0
  go_enter Try.func65, Try.ntmps65
  go_wp2_with fail
  go_loopw [3, 4] (fun m i wr => ∃ k : Nat, 1 ≤ k ∧ k ≤ n ∧ i = .int .i64 k ∧ m = .int .i64 (mxTo xs k) ∧ Below w.heap.size w wr) (fun _ i _ => n - (intOf i).toNat)
  case atStart => exact ⟨1, Nat.le_refl _, hn1, rfl, by rw [H1.out], Below.refl _ _⟩
  case round =>
    obtain ⟨k, hk1, hk, rfl, rfl, hb⟩ := hrel
    by_cases hlt : k < n
    · have hcx : wr.cell? ⟨b, off + k, none⟩ = some (.int .i64 (xs.getD k 0)) := (hb.cell (p := ⟨b, off + k, none⟩) hbl).trans (hC.out k hlt)
      obtain ⟨x, ex⟩ : ∃ x, x = xs.getD k 0 := ⟨_, rfl⟩
      rw [← ex] at hcx
      have HM := Lib.hid (show (if mxTo xs k < x then x else mxTo xs k) = mxTo xs (k + 1) by rw [mxTo, ← ex]; split <;> omega)
      generalize mxTo xs k = m at *
      clear ex h00
      go_wp2_with fail
      go_roundw
      case rel => first | exact ⟨k + 1, by omega, by omega, by go_num, by rw [← HM.out], hb⟩ | ((repeat apply Exists.intro); exact ⟨⟨k + 1, by omega, by omega, by go_num, by rw [← HM.out], hb⟩, rfl⟩)
      case measure => simp [intOf]; omega
    · obtain rfl : k = n := by omega
      clear h00
      go_wp2_with fail
      go_ret
      exact ⟨ret_i (by unfold mxL; rw [HL.out]), hb⟩

end Go.Proofs.Ytogmoljaiapolaa
