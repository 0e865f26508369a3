/- Contracts of the model's functions of chapter 5: fitting. -/
import Derived.Test.YtogmoljaiapolaaFoldR
import Derived.Test.YtogmoljaiapolaaFoldS4
import Derived.Lib.QuietBelow
namespace Go.Proofs.Ytogmoljaiapolaa
open Go.RowKit Go.Sort

theorem HasL.cell {w : World} {B g N : Nat} {S : Int → Bool} {bs : List Bool} (h : HasL N S bs) (o : OwnL w B g N bs) {x : Nat} (hx : x < N) : w.cell? ⟨g, x, none⟩ = some (.bool (S (x : Int))) := by
  rw [o.cell x hx, h.2 x hx]

set_option maxRecDepth 100000 in
set_option maxHeartbeats 4000000 in
theorem l5Fits_any (A : Option Addr) (n c : Nat) (xs : List Int) (t : Nat) (w : World) (h : Rd w A n xs) (hr : Ruler xs) (ht : t ≤ 1000) :
    Calls Try.prog 70 #[.slice A n c, .int .i64 t] w fun e w' => e = .returned (.bool (decide (spanL xs ≤ (t : Int)))) ∧ Below w.heap.size w w' := by
  obtain ⟨i0, hi, hz0, hz1, hz2⟩ := info_parts boolInfo
  have HRR := Lib.hid hr
  have HL := Lib.hid h.1
  have hn9 : n ≤ 9 := by have := hr.2.1; have := h.1; omega
  obtain ⟨N, hN⟩ : ∃ N : Nat, N = t + 1 := ⟨_, rfl⟩
  have HN := Lib.hid hN
  have v1 : IntKind.i64.wrap ((t : Int) + 1) = (N : Int) := wrap_is (by omega) (by omega) (by omega)
  have hN1 : N ≤ 1001 := by omega
  have hF := Lib.hid (nw_fits (t := (t : Int)) (xs := xs))
  clear hr hN
  go_enter Try.func70, Try.ntmps70
  go_wp2_with (first
    | (at_make; refine wpList_make_full _ rfl _ _ 47 rfl w.heap.size 4 i0 (.bool false) 1 Try.underlying47 hi hz0 hz1 _ _ _ _ N rfl rfl rfl rfl (by rw [hz2]; omega) (by unfold maxLen; omega) (by omega) ?_; intro w2 hown hg1))
  have o2 := OwnL.made hown
  have b2 : Below w.heap.size w w2 := below_row hg1 (Nat.le_refl _) (fun k e => by cases e)
  obtain ⟨g, hg⟩ : ∃ g, g = w.heap.size := ⟨_, rfl⟩
  rw [← hg] at o2 ⊢
  have HG := Lib.hid hg
  clear hown hg1 hg
  go_loopw [6] (fun i wr => ∃ (k : Nat) (bs : List Bool), k ≤ N ∧ i = .int .i64 k ∧ OwnL wr w.heap.size g N bs ∧ HasL N (firB k) bs ∧ Below w.heap.size w wr) (fun i _ => N - (intOf i).toNat)
  case atStart => exact ⟨0, _, Nat.zero_le _, rfl, by rw [HG.out] at o2 ⊢; exact o2, fir_zero N, b2⟩
  case round =>
    obtain ⟨k, bs, hk, rfl, ho, hh, hb⟩ := hrel
    have HH := Lib.hid hh
    clear hh o2 b2
    by_cases hlt : k < N
    · have d1 : k ≤ t := by have := HN.out; omega
      have hcx := ho.cell k hlt
      have hfx := ho.free k
      have o4 := ho.stored k true
      have b5 : Below w.heap.size w (wr.setCell ⟨g, k, none⟩ (.bool true)) := hb.setCell (p := ⟨g, k, none⟩) ho.lt.1 _
      have HS := Lib.hid (fir_step HH.out hlt)
      clear ho hb h
      go_wp2_with fail
      go_roundw
      case rel => exact ⟨k + 1, _, by omega, by go_num, o4, HS.out, b5⟩
      case measure => simp [intOf]; omega
    · obtain rfl : k = N := by omega
      have d1 : t < k := by have := HN.out; omega
      have d1' : decide (k ≤ t) = false := decide_eq_false (by omega)
      have HS := Lib.hid (show HasL k (nwT (t : Int) xs 0) bs from fir_all HN.out HH.out)
      go_wp2_with fail
      go_loopw [5, 7, 8, 9] (fun l i _ _ wr => ∃ (j g : Nat) (bs : List Bool), j ≤ n ∧ i = .int .i64 j ∧ l = .slice (some ⟨g, 0, none⟩) k k ∧ OwnL wr w.heap.size g k bs ∧ HasL k (nwT (t : Int) xs j) bs ∧ Below w.heap.size w wr) (fun _ i _ _ _ => n - (intOf i).toNat)
      case atStart => exact ⟨0, g, bs, Nat.zero_le _, rfl, rfl, ho, HS.out, hb⟩
      case round =>
        clear ho hb HH HS
        obtain ⟨j, g1, bs1, hj, rfl, rfl, ho, hh, hb⟩ := hrel
        have HH := Lib.hid hh
        clear hh
        by_cases hlt2 : j < n
        · obtain ⟨b, off, rfl, hbl, hc⟩ := h.2 (by omega)
          have hbs := hb.size
          go_wp2_with (first
            | (at_make; refine wpList_make_full _ rfl _ _ 47 rfl w.heap.size 4 i0 (.bool false) 1 Try.underlying47 hi hz0 hz1 _ _ _ _ k rfl rfl rfl rfl (by rw [hz2]; omega) (by unfold maxLen; omega) (by omega) ?_; intro w3 hown hg3))
          have o3 := OwnL.made hown
          have ob3 := ho.far hg3 (fun k e => by cases e)
          have b3 : Below w.heap.size w w3 := hb.grown hg3 hb.size (fun k e => by cases e)
          obtain ⟨g2, hg2⟩ : ∃ g2, g2 = wr.heap.size := ⟨_, rfl⟩
          rw [← hg2] at o3 ⊢
          have HNE := Lib.hid (show g1 ≠ g2 by have := ho.lt.2; omega)
          have hx := HRR.out.2.2 j (by rw [HL.out]; exact hlt2)
          obtain ⟨a, ea⟩ : ∃ a, a = xs.getD j 0 := ⟨_, rfl⟩
          have hca : ∀ W, Below w.heap.size w W → W.cell? ⟨b, off + j, none⟩ = some (.int .i64 a) := fun W hW => by
            rw [ea]; exact (hW.cell (p := ⟨b, off + j, none⟩) hbl).trans (hc j hlt2)
          rw [← ea] at hx
          have EA := Lib.hid ea
          have HIN := Lib.hid (fun p (hp : nwT (t : Int) xs j p = true) => nw_in j hp)
          have HNX := Lib.hid (show nextB (t : Int) a (nwT (t : Int) xs j) = nwT (t : Int) xs (j + 1) by rw [ea]; rfl)
          generalize nwT (t : Int) xs j = S at *
          clear hown hg3 hg2 ho hb hc ea
          go_loopw [9] (fun i wr => ∃ (x : Nat) (bs : List Bool), x ≤ k ∧ i = .int .i64 x ∧ OwnL wr w.heap.size g2 k bs ∧ HasL k (midB S a x) bs ∧ OwnL wr w.heap.size g1 k bs1 ∧ Below w.heap.size w wr) (fun i _ => k - (intOf i).toNat)
          case atStart => exact ⟨0, _, Nat.zero_le _, rfl, o3, mid_zero HIN.out a, ob3, b3⟩
          case round =>
            clear o3 ob3 b3
            obtain ⟨x, bs2, hxk, rfl, ho2, hh2, ho1, hb⟩ := hrel
            have HM := Lib.hid hh2
            clear hh2
            by_cases hlt3 : x < k
            · have d2 : x ≤ t := by have := HN.out; omega
              have hcn := HH.out.cell ho1 hlt3
              have hcx := hca _ hb
              have hNt := HN.out
              cases hsx : S (x : Int) with
              | false =>
                rw [hsx] at hcn
                have HS := Lib.hid (mid_skip HM.out hsx)
                clear hsx hca hNt
                go_wp2_with fail
                go_roundw
                case rel => exact ⟨x + 1, bs2, by omega, by go_num, ho2, HS.out, ho1, hb⟩
                case measure => simp [intOf]; omega
              | true =>
                rw [hsx] at hcn
                have HSX := Lib.hid hsx
                clear hsx
                by_cases hup : (x : Int) + a ≤ (t : Int)
                · obtain ⟨i, hi2⟩ : ∃ i : Nat, (x : Int) + a = (i : Int) := ⟨((x : Int) + a).toNat, by omega⟩
                  have v2 : IntKind.i64.wrap ((x : Int) + a) = (i : Int) := wrap_is hi2 (by omega) (by omega)
                  have hik : i < k := by omega
                  have d3 : i ≤ t := by omega
                  have hci := ho2.cell i hik
                  have hfi := ho2.free i
                  have o4 := ho2.stored i true
                  have o5 := ho1.set_other (j := i) (u := .bool true) (Ne.symm HNE.out)
                  have b5 : Below w.heap.size w (wr.setCell ⟨g2, i, none⟩ (.bool true)) := hb.setCell (p := ⟨g2, i, none⟩) ho2.lt.1 _
                  have hcn1 := HH.out.cell o5 hlt3
                  rw [HSX.out] at hcn1
                  have hcx1 := hca _ b5
                  by_cases hdn : a ≤ (x : Int)
                  · obtain ⟨q, hq2⟩ : ∃ q : Nat, (x : Int) - a = (q : Int) := ⟨((x : Int) - a).toNat, by omega⟩
                    have v3 : IntKind.i64.wrap ((x : Int) - a) = (q : Int) := wrap_is hq2 (by omega) (by omega)
                    have hqk : q < k := by omega
                    have hcq := o4.cell q hqk
                    have hfq := o4.free q
                    have o6 := o4.stored q true
                    have o7 := o5.set_other (j := q) (u := .bool true) (Ne.symm HNE.out)
                    have b6 : Below w.heap.size w ((wr.setCell ⟨g2, i, none⟩ (.bool true)).setCell ⟨g2, q, none⟩ (.bool true)) := b5.setCell (p := ⟨g2, q, none⟩) ho2.lt.1 _
                    have HS := Lib.hid (mid_both HM.out HSX.out hi2.symm hq2.symm hik hqk)
                    have d4 : decide ((x : Int) ≥ a) = true := by simpa using hdn
                    clear hi2 hq2 ho2 o4 o5 ho1 hb b5 hca hNt hup hdn
                    go_wp2_with fail
                    go_roundw
                    case rel => exact ⟨x + 1, _, by omega, by go_num, o6, HS.out, o7, b6⟩
                    case measure => simp [intOf]; omega
                  · have HS := Lib.hid (mid_up HM.out HSX.out hi2.symm hik (by omega))
                    have d4 : decide ((x : Int) ≥ a) = false := by simpa using hdn
                    clear hi2 ho2 ho1 hb hca hNt hup hdn
                    go_wp2_with fail
                    go_roundw
                    case rel => exact ⟨x + 1, _, by omega, by go_num, o4, HS.out, o5, b5⟩
                    case measure => simp [intOf]; omega
                · have v2 : IntKind.i64.wrap ((x : Int) + a) = (x : Int) + a := wrap_is rfl (by omega) (by omega)
                  have d3 : decide ((x : Int) + a ≤ (t : Int)) = false := by simpa using hup
                  by_cases hdn : a ≤ (x : Int)
                  · obtain ⟨q, hq2⟩ : ∃ q : Nat, (x : Int) - a = (q : Int) := ⟨((x : Int) - a).toNat, by omega⟩
                    have v3 : IntKind.i64.wrap ((x : Int) - a) = (q : Int) := wrap_is hq2 (by omega) (by omega)
                    have hqk : q < k := by omega
                    have hcq := ho2.cell q hqk
                    have hfq := ho2.free q
                    have o6 := ho2.stored q true
                    have o7 := ho1.set_other (j := q) (u := .bool true) (Ne.symm HNE.out)
                    have b6 : Below w.heap.size w (wr.setCell ⟨g2, q, none⟩ (.bool true)) := hb.setCell (p := ⟨g2, q, none⟩) ho2.lt.1 _
                    have HS := Lib.hid (mid_down HM.out HSX.out (by omega) hq2.symm hqk)
                    have d4 : decide ((x : Int) ≥ a) = true := by simpa using hdn
                    clear hq2 ho2 ho1 hb hca hNt hup hdn
                    go_wp2_with fail
                    go_roundw
                    case rel => exact ⟨x + 1, _, by omega, by go_num, o6, HS.out, o7, b6⟩
                    case measure => simp [intOf]; omega
                  · have HS := Lib.hid (mid_none HM.out HSX.out (by omega) (by omega))
                    have d4 : decide ((x : Int) ≥ a) = false := by simpa using hdn
                    clear hca hNt hup hdn
                    go_wp2_with fail
                    go_roundw
                    case rel => exact ⟨x + 1, _, by omega, by go_num, ho2, HS.out, ho1, hb⟩
                    case measure => simp [intOf]; omega
            · obtain rfl : x = k := by omega
              have d2 : t < x := by have := HN.out; omega
              have HS := Lib.hid (show HasL x (nwT (t : Int) xs (j + 1)) bs2 by rw [← HNX.out]; exact mid_all HN.out HIN.out HM.out)
              clear hca
              go_wp2_with fail
              go_roundw
              case rel => first | exact ⟨j + 1, g2, bs2, by omega, by go_num, rfl, ho2, HS.out, hb⟩ | ((repeat apply Exists.intro); exact ⟨⟨j + 1, g2, bs2, by omega, by go_num, rfl, ho2, HS.out, hb⟩, rfl⟩)
              case measure => simp [intOf]; omega
        · obtain rfl : j = n := by omega
          have HS := Lib.hid (show HasL k (nwT (t : Int) xs xs.length) bs1 by rw [HL.out]; exact HH.out)
          have HIN := Lib.hid (fun p (hp : nwT (t : Int) xs xs.length p = true) => nw_in xs.length hp)
          clear h HH
          go_wp2_with fail
          go_loopw [10] (fun i wr => ∃ x : Nat, x ≤ k ∧ i = .int .i64 x ∧ (∀ y : Nat, y < x → nwT (t : Int) xs xs.length (y : Int) = false) ∧ OwnL wr w.heap.size g1 k bs1 ∧ Below w.heap.size w wr) (fun i _ => k - (intOf i).toNat)
          case atStart => exact ⟨0, Nat.zero_le _, rfl, fun y hy => absurd hy (by omega), ho, hb⟩
          case round =>
            clear ho hb
            obtain ⟨x, hxk, rfl, hno, ho, hb⟩ := hrel
            have HNO := Lib.hid hno
            clear hno
            by_cases hlt3 : x < k
            · have d2 : x ≤ t := by have := HN.out; omega
              have hcx := HS.out.cell ho hlt3
              cases hsx : nwT (t : Int) xs xs.length (x : Int) with
              | true =>
                rw [hsx] at hcx
                have HQ := Lib.hid (show spanL xs ≤ (t : Int) from hF.out.1 ⟨_, hsx⟩)
                clear hsx
                go_wp2_with fail
                go_ret
                exact ⟨ret_b (by rw [decide_eq_true HQ.out]), hb⟩
              | false =>
                rw [hsx] at hcx
                have HX := Lib.hid hsx
                clear hsx
                go_wp2_with fail
                go_roundw
                case rel => exact ⟨x + 1, by omega, by go_num, fun y hy => by
                  by_cases e : y = x
                  · subst e; exact HX.out
                  · exact HNO.out y (by omega), ho, hb⟩
                case measure => simp [intOf]; omega
            · obtain rfl : x = k := by omega
              have d2 : t < x := by have := HN.out; omega
              have HQ := Lib.hid (show ¬ spanL xs ≤ (t : Int) from fun hle => by
                obtain ⟨y, hy⟩ := hF.out.2 hle
                have hyr := HIN.out y hy
                have := HNO.out y.toNat (by have := HN.out; omega)
                rw [show ((y.toNat : Nat) : Int) = y by omega, hy] at this
                cases this)
              go_wp2_with fail
              go_ret
              exact ⟨ret_b (decide_eq_false (by have := HQ.out; omega)).symm, hb⟩

theorem span_sum {xs : List Int} (h : Len1 xs) : 0 ≤ spanL xs ∧ spanL xs ≤ xs.sum := by
  constructor
  · have h1 := (span_is xs).2
    have h2 := loP_le xs (firstL xs)
    have h3 := hiP_ge xs (firstL xs)
    unfold rngP at h1
    omega
  · rw [span_iff]
    exact ⟨0, Nat.two_pow_pos _, by
      have : ∀ ys : List Int, Len1 ys → hiP ys 0 = ys.sum ∧ loP ys 0 = 0 := fun ys hy => by
        induction ys with
        | nil => exact ⟨rfl, rfl⟩
        | cons x r ih =>
          have h1 := ih hy.tail
          have h2 := hy x (List.mem_cons_self ..)
          have h3 := way_far r _ hy.tail (way_sum r)
          simp only [hiP, loP, stepS_low x (Nat.two_pow_pos r.length), h1.1, h1.2, List.sum_cons]
          omega
      have := this xs h
      omega⟩
theorem span_ruler {xs : List Int} (h : Ruler xs) : 0 ≤ spanL xs ∧ spanL xs ≤ 540 := by
  have h1 := span_sum (ruler_len1 h)
  have h2 := ruler_sum h
  omega
set_option maxHeartbeats 1600000 in
theorem specFoldCase_any (A : Option Addr) (n c : Nat) (xs : List Int) (w : World) (h : Rd w A n xs) (hn : n ≤ 1048576) :
    Calls Try.prog 40 #[.slice A n c] w fun e w' => e = .returned (.tuple #[.int .i64 (spnM xs), .bool (rulB xs)]) ∧ Below w.heap.size w w' := by
  by_cases hR : rulB xs = true
  · have HR := Lib.hid hR
    have hr := rulB_true hR
    have hsp := span_ruler hr
    obtain ⟨s, hs⟩ : ∃ s : Nat, spanL xs = (s : Int) := ⟨(spanL xs).toNat, by omega⟩
    have HS := Lib.hid hs
    have hs1000 : s ≤ 540 := by omega
    have hF := fun (t : Nat) W (h : Rd W A n xs) (ht : t ≤ 1000) => l5Fits_any A n c xs t W h hr ht
    simp only [hs] at hF
    clear hR hr hsp hs
    go_enter Try.func40, Try.ntmps40
    go_wp2_with fail
    refine (l5Ruler_any A n c xs _ h hn).mono ?_
    rintro e w1 ⟨rfl, b1⟩
    rw [HR.out]
    go_wp2_with fail
    go_loopw [4] (fun i wr => ∃ k : Nat, k ≤ s ∧ i = .int .i64 k ∧ Below w.heap.size w wr) (fun i _ => s - (intOf i).toNat)
    case atStart => exact ⟨0, Nat.zero_le _, rfl, b1⟩
    case round =>
      obtain ⟨k, hk, rfl, hb⟩ := hrel
      have hFk := hF k wr (h.same hb) (by omega)
      by_cases hlt : k < s
      · rw [decide_eq_false (by omega)] at hFk
        clear hF h
        go_wp2_with fail
        refine hFk.mono ?_
        rintro e w2 ⟨rfl, b2⟩
        have b3 := below_then hb b2
        go_wp2_with fail
        go_roundw
        case rel => exact ⟨k + 1, by omega, by go_num, b3⟩
        case measure => simp [intOf]; omega
      · obtain rfl : k = s := by omega
        rw [decide_eq_true (Int.le_refl _)] at hFk
        clear hF h
        go_wp2_with fail
        refine hFk.mono ?_
        rintro e w2 ⟨rfl, b2⟩
        have b3 := below_then hb b2
        go_wp2_with fail
        go_ret2
        exact ⟨ret_ibq (by rw [spnM_yes HR.out, HS.out]) HR.out.symm, b3⟩
  · rw [Bool.not_eq_true] at hR
    have HR := Lib.hid hR
    clear hR
    go_enter Try.func40, Try.ntmps40
    go_wp2_with fail
    refine (l5Ruler_any A n c xs _ h hn).mono ?_
    rintro e w1 ⟨rfl, b1⟩
    rw [HR.out]
    go_wp2_with fail
    go_ret2
    exact ⟨ret_ibq (spnM_no HR.out).symm HR.out.symm, b1⟩
end Go.Proofs.Ytogmoljaiapolaa
