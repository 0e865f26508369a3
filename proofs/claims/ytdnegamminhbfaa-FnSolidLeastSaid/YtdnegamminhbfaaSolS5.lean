/- Contracts of the model's functions of chapter 8: SolidLeast, SolidCount. -/
import Derived.Test.YtdnegamminhbfaaSolS4
namespace Go.Proofs.Ytdnegamminhbfaa
open Go.RowKit

theorem Sol.set {xs : List Int} (h : Sol xs) (i : Nat) {x : Int} (hx : 1 ≤ x ∧ x ≤ 12) : Sol (xs.set i x) := by
  obtain ⟨a, b, c, d, e, f, rfl, h⟩ := h
  match i with
  | 0 => exact ⟨_, _, _, _, _, _, rfl, by omega, by omega, by omega, by omega, by omega, by omega⟩
  | 1 => exact ⟨_, _, _, _, _, _, rfl, by omega, by omega, by omega, by omega, by omega, by omega⟩
  | 2 => exact ⟨_, _, _, _, _, _, rfl, by omega, by omega, by omega, by omega, by omega, by omega⟩
  | 3 => exact ⟨_, _, _, _, _, _, rfl, by omega, by omega, by omega, by omega, by omega, by omega⟩
  | 4 => exact ⟨_, _, _, _, _, _, rfl, by omega, by omega, by omega, by omega, by omega, by omega⟩
  | 5 => exact ⟨_, _, _, _, _, _, rfl, by omega, by omega, by omega, by omega, by omega, by omega⟩
  | i + 6 => exact ⟨_, _, _, _, _, _, rfl, by omega, by omega, by omega, by omega, by omega, by omega⟩
theorem lst_no1 {xs : List Int} (at_ : Int) (h : solB xs = false) : lstB xs at_ = false ∧ lowM xs at_ = 0 ∧ higM xs at_ = 0 := by
  unfold lstB lowM higM; rw [h]; exact ⟨rfl, rfl, rfl⟩
theorem lst_no2 (xs : List Int) {at_ : Int} (h : inB at_ 0 5 = false) : lstB xs at_ = false ∧ lowM xs at_ = 0 ∧ higM xs at_ = 0 := by
  unfold lstB lowM higM; rw [h]; exact ⟨by simp, by simp, by simp⟩
theorem lst_yes {xs : List Int} {i : Nat} (h : solB xs = true) (h2 : inB (i : Int) 0 5 = true) : lstB xs (i : Int) = decide (0 < lowF xs i 12) ∧ lowM xs (i : Int) = lowF xs i 12 ∧ higM xs (i : Int) = higF xs i 12 := by
  unfold lstB lowM higM; rw [h, h2]; exact ⟨by simp, by simp, by simp⟩
theorem low_step (xs : List Int) (i k : Nat) : lowF xs i (k + 1) = if stdB (xs.set i ((k : Int) + 1)) then (if lowF xs i k = 0 then (k : Int) + 1 else lowF xs i k) else lowF xs i k := rfl
theorem hig_step (xs : List Int) (i k : Nat) : higF xs i (k + 1) = if stdB (xs.set i ((k : Int) + 1)) then (k : Int) + 1 else higF xs i k := rfl

set_option maxRecDepth 100000 in
set_option maxHeartbeats 4000000 in
theorem specSolidLeast_any (A : Option Addr) (n c : Nat) (xs : List Int) (at_ : Int) (w : World) (h : Rd w A n xs) (hn : n ≤ 1048576) :
    Calls Try.prog 64 #[.slice A n c, .int .i64 at_] w fun e w' => e = .returned (.tuple #[.int .i64 (lowM xs at_), .int .i64 (higM xs at_), .bool (lstB xs at_)]) ∧ Below w.heap.size w w' := by
  cases hb : solB xs with
  | false =>
    obtain ⟨m1, m2, m3⟩ := lst_no1 at_ hb
    rw [m1, m2, m3]
    have HB := Lib.hid hb
    clear hb m1 m2 m3
    go_enter Try.func64, Try.ntmps64
    go_wp2_with fail
    refine (l8Solid_any _ _ _ xs _ h hn).mono ?_
    rintro e w1 ⟨rfl, b1⟩
    rw [HB.out]
    go_wp2_with fail
    refine bodyPost_ret (results_tmp3 rfl _ _ _) rfl ?_
    exact ⟨rfl, b1⟩
  | true =>
    have hs := sol_of hb
    obtain rfl : n = 6 := by rw [← h.1, hs.len]
    have HB := Lib.hid hb
    cases hi : inB at_ 0 5 with
    | false =>
      obtain ⟨m1, m2, m3⟩ := lst_no2 xs hi
      rw [m1, m2, m3]
      have HI := Lib.hid hi
      clear hb hi m1 m2 m3 hs
      go_enter Try.func64, Try.ntmps64
      go_wp2_with fail
      refine (l8Solid_any _ _ _ xs _ h hn).mono ?_
      rintro e w1 ⟨rfl, b1⟩
      rw [HB.out]
      go_wp2_with (go_at_call 101; refine (l6In_is HI.out _).mono ?_; rintro e w' ⟨rfl, rfl⟩)
      refine bodyPost_ret (results_tmp3 rfl _ _ _) rfl ?_
      exact ⟨rfl, b1⟩
    | true =>
      obtain ⟨hi0, hi5⟩ := inB_true hi
      obtain ⟨i, rfl⟩ : ∃ i : Nat, at_ = i := ⟨at_.toNat, by omega⟩
      obtain ⟨m1, m2, m3⟩ := lst_yes hb hi
      rw [m1, m2, m3]
      have HI := Lib.hid hi
      have HS := Lib.hid hs
      have HH := Lib.hid h
      have hi6 : i < 6 := by omega
      obtain ⟨lo12, elo⟩ : ∃ l, l = lowF xs i 12 := ⟨_, rfl⟩
      obtain ⟨hi12, ehi⟩ : ∃ l, l = higF xs i 12 := ⟨_, rfl⟩
      rw [← elo, ← ehi]
      have EL := Lib.hid (And.intro elo ehi)
      clear hb hi m1 m2 m3 hs hi0 hi5 elo ehi h
      go_enter Try.func64, Try.ntmps64
      go_wp2_with fail
      refine (l8Solid_any _ _ _ xs _ HH.out hn).mono ?_
      rintro e w1 ⟨rfl, b1⟩
      rw [HB.out]
      go_wp2_with (go_at_call 101; refine (l6In_is HI.out _).mono ?_; rintro e w' ⟨rfl, rfl⟩)
      go_loopw [7, 8, 9, 10] (fun lo hg x _ wr => ∃ k : Nat, k ≤ 12 ∧ x = .int .i64 ((k : Int) + 1) ∧ lo = .int .i64 (lowF xs i k) ∧ hg = .int .i64 (higF xs i k) ∧ Below w.heap.size w wr) (fun _ _ x _ _ => 14 - (intOf x).toNat)
      case atStart => exact ⟨0, by omega, rfl, rfl, rfl, b1⟩
      case round =>
        clear b1
        obtain ⟨k, hk, rfl, rfl, rfl, hb⟩ := hrel
        by_cases hlt : k < 12
        · have HL := Lib.hid (low_step xs i k)
          have HG := Lib.hid (hig_step xs i k)
          have lb := low_bd xs i k
          have gb := hig_bd xs i k
          generalize hlo : lowF xs i k = lo at *
          generalize hhg : higF xs i k = hg at *
          have hs2 := HS.out.set i (x := (k : Int) + 1) (by omega)
          have hl0 := Own.lit wr hb.size [] (by simp)
          have hr0 := HH.out.same hb |>.al (.cells #[] 3)
          have d0 : decide ((k : Int) + 1 ≤ 12) = true := by rw [decide_eq_true_iff]; omega
          have v1 : IntKind.i64.wrap ((k : Int) + 1 + 1) = (k : Int) + 1 + 1 := wrap_is rfl (by omega) (by omega)
          have HBB := Lib.hid hb
          have hxl := HS.out.len
          have HXL := Lib.hid hxl
          clear hlo hhg hb hxl
          go_wp2_with (at_builtin; refine wpList_app rfl (.tmp 23) (.tmp 24) rfl rfl hl0 rfl hr0 (by simp) (by have := HBB.out.size; simp; omega) ?_; intro A2 c2 W2 ho2 hg2)
          have hb2 := app_mark (below_alloc HBB.out _) hl0 (Nat.le_refl _) hg2
          simp only [Nat.zero_add, List.nil_append] at ho2
          obtain ⟨g, rfl, hgB, hgl⟩ := ho2.form (by omega)
          have st := ho2.stored i ((k : Int) + 1)
          have o3 := st.1
          have b3 := hb2.grown st.2 hb2.size (fun j e => by cases e; exact hgB)
          have hcg := ho2.cell i hi6
          have gi : (i : Int) < 6 := by omega
          have gi0 : (0 : Int) ≤ (i : Int) := by omega
          have hfg := ho2.free i
          have hL := l8Stands_any (some ⟨g, 0, none⟩) c2 (xs.set i ((k : Int) + 1)) _ o3.rd hs2
          have HO3 := Lib.hid b3
          generalize hstd : stdB (xs.set i ((k : Int) + 1)) = sb at *
          generalize xs.getD i 0 = y at hcg
          clear st o3 b3 hl0 hr0 hg2 hb2 ho2 hs2 hstd
          cases sb with
          | false =>
            have HL2 := Lib.hid (HL.out.trans (if_neg (by simp)))
            have HG2 := Lib.hid (HG.out.trans (if_neg (by simp)))
            go_wp2_with fail
            go_simp
            go_wp2_with fail
            refine hL.mono ?_
            rintro e w4 ⟨rfl, b4⟩
            have HB4 := Lib.hid (HO3.out.trans (b4.mono HO3.out.size))
            clear b4 hL
            go_wp2_with fail
            go_roundw
            case rel =>
              first
                | exact ⟨k + 1, by omega, by go_num, by rw [HL2.out], by rw [HG2.out], HB4.out⟩
                | ((repeat apply Exists.intro); exact ⟨⟨k + 1, by omega, by go_num, by rw [HL2.out], by rw [HG2.out], HB4.out⟩, rfl⟩)
            case measure => simp [intOf]; omega
          | true =>
            have HG2 := Lib.hid (HG.out.trans (if_pos rfl))
            have hL1 := HL.out.trans (if_pos rfl)
            by_cases hz : lo = 0
            · have HL2 := Lib.hid (hL1.trans (if_pos hz))
              subst hz
              clear hL1
              go_wp2_with fail
              go_simp
              go_wp2_with fail
              refine hL.mono ?_
              rintro e w4 ⟨rfl, b4⟩
              have HB4 := Lib.hid (HO3.out.trans (b4.mono HO3.out.size))
              clear b4 hL
              go_wp2_with fail
              go_roundw
              case rel =>
                first
                  | exact ⟨k + 1, by omega, by go_num, by rw [HL2.out], by rw [HG2.out], HB4.out⟩
                  | ((repeat apply Exists.intro); exact ⟨⟨k + 1, by omega, by go_num, by rw [HL2.out], by rw [HG2.out], HB4.out⟩, rfl⟩)
              case measure => simp [intOf]; omega
            · have HL2 := Lib.hid (hL1.trans (if_neg hz))
              have dz : (lo == 0) = false := by simpa using hz
              clear hL1 hz
              go_wp2_with fail
              go_simp
              go_wp2_with fail
              refine hL.mono ?_
              rintro e w4 ⟨rfl, b4⟩
              have HB4 := Lib.hid (HO3.out.trans (b4.mono HO3.out.size))
              clear b4 hL
              go_wp2_with fail
              go_roundw
              case rel =>
                first
                  | exact ⟨k + 1, by omega, by go_num, by rw [HL2.out], by rw [HG2.out], HB4.out⟩
                  | ((repeat apply Exists.intro); exact ⟨⟨k + 1, by omega, by go_num, by rw [HL2.out], by rw [HG2.out], HB4.out⟩, rfl⟩)
              case measure => simp [intOf]; omega
        · obtain rfl : k = 12 := by omega
          rw [← EL.out.1, ← EL.out.2]
          go_wp2_with fail
          refine bodyPost_ret (results_tmp3 rfl _ _ _) rfl ?_
          exact ⟨rfl, hb⟩
end Go.Proofs.Ytdnegamminhbfaa
