/- Contracts of the model's functions of chapter 5: the places at the end. -/
import Derived.Test.YtogmoljaiapolaaFoldS2
import Derived.Test.YtogmoljaiapolaaBools
namespace Go.Proofs.Ytogmoljaiapolaa
open Go.RowKit

/-- Which places are reached by the first k foldings. -/
def RchL (xs : List Int) (N k : Nat) (bs : List Bool) : Prop := ∀ p : Nat, p < N → bs.getD p false = decide (0 < cntF (fun s => decide (plc xs s = (p : Int))) k)
theorem rch_zero (xs : List Int) (N : Nat) : RchL xs N 0 (List.replicate N false) := fun p hp => by
  rw [List.getD_eq_getElem?_getD, List.getElem?_replicate, if_pos hp]
  rfl
theorem rch_hit {xs : List Int} {N k q : Nat} {bs : List Bool} (hl : bs.length = N) (h : RchL xs N k bs) (hq : plc xs k = (q : Int)) (hqN : q < N) : RchL xs N (k + 1) (bs.set q true) := fun p hp => by
  rw [getD_setB _ _ _ _ (by omega)]
  by_cases e : p = q
  · subst e
    rw [if_pos rfl, cntF_yes (by rw [hq]; simp)]
    simp
  · rw [if_neg e, cntF_no (by rw [hq]; simp; omega)]
    exact h p hp
theorem rch_miss {xs : List Int} {N k : Nat} {bs : List Bool} (h : RchL xs N k bs) (hq : plc xs k < 0) : RchL xs N (k + 1) bs := fun p hp => by
  rw [cntF_no (by simp; omega)]
  exact h p hp
theorem rch_all {xs : List Int} {N : Nat} {bs : List Bool} (h : RchL xs N (2 ^ xs.length) bs) (p : Nat) (hp : p < N) : bs.getD p false = decide (0 < wayN xs (p : Int)) := by
  rw [h p hp, way_cnt]
theorem plc_le {xs : List Int} (hL : Len1 xs) {k : Nat} (hk : k < 2 ^ xs.length) : plc xs k ≤ xs.sum := by
  have h1 : 0 < cntF (fun s => decide (plc xs s = plc xs k)) (2 ^ xs.length) := (cntF_pos _).2 ⟨k, hk, by simp⟩
  rw [way_cnt] at h1
  exact (way_far xs _ hL h1).1
theorem ruler_small {xs : List Int} (h : Ruler xs) : Small 1000000 xs := fun j hj => by have := h.2.2 j hj; omega
theorem ruler_sum {xs : List Int} (h : Ruler xs) : 0 ≤ xs.sum ∧ xs.sum ≤ 540 := by
  have h1 := way_far xs _ (ruler_len1 h) (way_sum xs)
  have h2 := sumTo_bd (M := 60) (xs := xs) (fun j hj => by have := h.2.2 j hj; omega) xs.length (Nat.le_refl _)
  have h3 : sumTo xs xs.length = xs.sum := sumL_eq xs
  have h4 := h.2.1
  rw [h3] at h2
  omega

set_option maxHeartbeats 1600000 in
theorem l5Reached_any (A : Option Addr) (n c : Nat) (xs : List Int) (w : World) (h : Rd w A n xs) (hr : Ruler xs) :
    Calls Try.prog 58 #[.slice A n c] w fun e w' => ∃ (g N : Nat) (bs : List Bool), e = .returned (.slice (some ⟨g, 0, none⟩) N N) ∧ OwnL w' w.heap.size g N bs ∧ (N : Int) = xs.sum + 1 ∧ (∀ p : Nat, p < N → bs.getD p false = decide (0 < wayN xs (p : Int))) ∧ Below w.heap.size w w' := by
  obtain ⟨i0, hi, hz0, hz1, hz2⟩ := info_parts boolInfo
  have HRR := Lib.hid hr
  have hl := h.1
  have hn9 : n ≤ 9 := by have := hr.2.1; omega
  obtain ⟨P, hP⟩ : ∃ P : Nat, P = 2 ^ n := ⟨_, rfl⟩
  have hp : 1 ≤ P ∧ P ≤ 512 := by rw [hP]; exact pow_le hn9
  have v1 := pow_wrap hn9 hP
  have HP := Lib.hid (show P = 2 ^ xs.length by rw [hl]; exact hP)
  have hsum := ruler_sum hr
  obtain ⟨N, hN⟩ : ∃ N : Nat, (N : Int) = xs.sum + 1 := ⟨(xs.sum + 1).toNat, by omega⟩
  have v2 : IntKind.i64.wrap (sumL xs + 1) = (N : Int) := wrap_is (by rw [sumL_eq]; omega) (by rw [sumL_eq]; omega) (by rw [sumL_eq]; omega)
  have hN541 : N ≤ 541 := by omega
  have HN := Lib.hid hN
  have hS := specSum_any A n c xs w h (by omega) (ruler_small hr)
  generalize sumL xs = t at hS v2
  clear hP hr hl hsum hN
  go_enter Try.func58, Try.ntmps58
  go_wp2_with fail
  refine hS.mono ?_
  rintro e w1 ⟨rfl, b1⟩
  have hbs1 := b1.size
  go_wp2_with (first
    | (at_make; refine wpList_make_full _ rfl _ _ 47 rfl w.heap.size 4 i0 (.bool false) 1 Try.underlying47 hi hz0 hz1 _ _ _ _ N rfl rfl rfl rfl (by rw [hz2]; omega) (by unfold maxLen; omega) (by omega) ?_; intro w2 hown hg1))
  have o2 := OwnL.made hown
  have b2 : Below w.heap.size w w2 := b1.grown hg1 b1.size (fun k e => by cases e)
  obtain ⟨g, hg⟩ : ∃ g, g = w1.heap.size := ⟨_, rfl⟩
  rw [← hg] at o2 ⊢
  clear hown hg1 hi hz0 hz1 hz2 b1 hg
  go_loopw [4, 5, 6, 7] (fun i _ _ _ wr => ∃ (k : Nat) (bs : List Bool), k ≤ P ∧ i = .int .i64 k ∧ OwnL wr w.heap.size g N bs ∧ RchL xs N k bs ∧ Below w.heap.size w wr) (fun i _ _ _ _ => P - (intOf i).toNat)
  case atStart => exact ⟨0, _, Nat.zero_le _, rfl, o2, rch_zero xs N, b2⟩
  case round =>
    obtain ⟨k, bs, hk, rfl, ho, hrc, hb⟩ := hrel
    have HRC := Lib.hid hrc
    clear hrc o2 b2
    by_cases hlt : k < P
    · have hE := l5Ends_any A n c xs k wr (h.same hb) HRR.out (by omega)
      have hle := plc_le (ruler_len1 HRR.out) (k := k) (by rw [← HP.out]; exact hlt)
      have hNN := HN.out
      obtain ⟨p, ep⟩ : ∃ p, p = plc xs k := ⟨_, rfl⟩
      have EP := Lib.hid ep
      rw [← ep] at hE hle
      clear ep
      by_cases hp0 : 0 ≤ p
      · obtain ⟨q, rfl⟩ : ∃ q : Nat, p = (q : Int) := ⟨p.toNat, by omega⟩
        have d1 : decide ((q : Int) ≥ 0) = true := by simp
        have hqN : q < N := by omega
        have HQ := Lib.hid (rch_hit ho.len HRC.out EP.out.symm hqN)
        have v4 : (q : Int) < (N : Int) := by omega
        clear hle hNN hp0 h
        go_wp2_with fail
        refine hE.mono ?_
        rintro e w3 ⟨rfl, b3⟩
        have o3 := ho.same b3
        have b4 := below_then hb b3
        have hcx := o3.cell q hqN
        have hfx := o3.free q
        have o4 := o3.stored q true
        have b5 : Below w.heap.size w (w3.setCell ⟨g, q, none⟩ (.bool true)) := b4.setCell (p := ⟨g, q, none⟩) o3.lt.1 _
        clear hE ho o3 b3 b4 hb
        go_wp2_with fail
        go_roundw
        case rel => exact ⟨k + 1, _, by omega, by go_num, o4, HQ.out, b5⟩
        case measure => simp [intOf]; omega
      · have d1 : decide (p ≥ 0) = false := by simp; omega
        have HQ := Lib.hid (rch_miss (k := k) HRC.out (by rw [← EP.out]; omega))
        clear hle hNN hp0 h
        go_wp2_with fail
        refine hE.mono ?_
        rintro e w3 ⟨rfl, b3⟩
        have o3 := ho.same b3
        have b4 := below_then hb b3
        clear hE ho b3 hb
        go_wp2_with fail
        go_roundw
        case rel => exact ⟨k + 1, _, by omega, by go_num, o3, HQ.out, b4⟩
        case measure => simp [intOf]; omega
    · obtain rfl : k = P := by omega
      have HZ := Lib.hid (rch_all (by rw [← HP.out]; exact HRC.out))
      clear h
      go_wp2_with fail
      go_ret
      exact ⟨g, N, bs, rfl, ho, HN.out, HZ.out, hb⟩
end Go.Proofs.Ytogmoljaiapolaa
