/- Contracts of the model's functions of chapter 8: SolidNamed. -/
import Derived.Test.YtdnegamminhbfaaSolS2
namespace Go.Proofs.Ytdnegamminhbfaa
open Go.RowKit

/-- The corners so far, as bits. -/
def mskI (cs : List Int) : Nat → Int
  | 0 => 0
  | k + 1 => bits .or .i64 (mskI cs k) (IntKind.i64.wrap (2 ^ (cs.getD k 0).toNat))
theorem msk_all : ∀ a ∈ C4, ∀ b ∈ C4, ∀ c ∈ C4, ∀ d ∈ C4, decide (mskI [a, b, c, d] 4 = 15) = cornB [a, b, c, d] := by decide +kernel
theorem in_c4 {x : Int} (h : inB x 0 3 = true) : x ∈ C4 := by
  have := inB_true h
  simp only [C4, List.mem_cons, List.not_mem_nil, or_false]
  omega
theorem msk_corn {cs : List Int} (hl : cs.length = 4) (h : ∀ j, j < 4 → inB (cs.getD j 0) 0 3 = true) : decide (mskI cs 4 = 15) = cornB cs := by
  obtain ⟨a, b, c, d, rfl⟩ := four_of hl
  exact msk_all a (in_c4 (h 0 (by omega))) b (in_c4 (h 1 (by omega))) c (in_c4 (h 2 (by omega))) d (in_c4 (h 3 (by omega)))
theorem corn_out {cs : List Int} {k : Nat} (hk : k < 4) (h : inB (cs.getD k 0) 0 3 = false) : cornB cs = false := by
  cases hc : cornB cs with
  | false => rfl
  | true =>
    have := ((c24_at cs (corn_mem hc)).2 k hk).1
    unfold inB at h
    rw [decide_eq_true this.1, decide_eq_true this.2] at h
    cases h

set_option maxRecDepth 100000 in
set_option maxHeartbeats 4000000 in
theorem specSolidNamed_any (A : Option Addr) (n c : Nat) (xs : List Int) (A1 : Option Addr) (n1 c1 : Nat) (cs : List Int) (w : World) (h : Rd w A n xs) (hn : n ≤ 1048576) (h1 : Rd w A1 n1 cs) (hn1 : n1 ≤ 1048576) :
    Calls Try.prog 54 #[.slice A n c, .slice A1 n1 c1] w fun e w' => ∃ (A' : Option Addr) (n' c' : Nat), e = .returned (.tuple #[.slice A' n' c', .bool (namB xs cs)]) ∧ Rd w' A' n' (namM xs cs) ∧ n' ≤ 1048576 ∧ Below w.heap.size w w' := by
  cases hb : solB xs with
  | false =>
    have HS := Lib.hid hb
    have HB := Lib.hid (namB_no1 (cs := cs) hb)
    have HM := Lib.hid (namM_no HB.out)
    clear hb h1
    go_enter Try.func54, Try.ntmps54
    go_wp2_with fail
    refine (l8Solid_any _ _ _ xs _ h hn).mono ?_
    rintro e w1 ⟨rfl, b1⟩
    rw [HS.out]
    go_wp2_with fail
    refine bodyPost_ret (results_tmp2 rfl _ _ _) rfl ?_
    exact ⟨_, 0, 0, ret_lb HB.out, by rw [HM.out]; exact Rd.nil_ _ _, by omega, below_alloc b1 _⟩
  | true =>
    have HS := Lib.hid hb
    have hs := sol_of hb
    obtain rfl : n = 6 := by rw [← h.1, hs.len]
    by_cases h4 : n1 = 4
    · subst h4
      have HL := Lib.hid h1.1
      obtain ⟨b, off, rfl, hbl, hc⟩ := h1.2 (by omega)
      have HH := Lib.hid h
      have HH1 := Lib.hid h1
      have HC := Lib.hid hc
      clear hb hs h h1 hc
      go_enter Try.func54, Try.ntmps54
      go_wp2_with fail
      refine (l8Solid_any _ _ _ xs _ HH.out hn).mono ?_
      rintro e w1 ⟨rfl, b1⟩
      rw [HS.out]
      go_wp2_with fail
      go_loopw [6, 7] (fun s i wr => ∃ k : Nat, k ≤ 4 ∧ i = .int .i64 k ∧ s = .int .i64 (mskI cs k) ∧ (∀ j, j < k → inB (cs.getD j 0) 0 3 = true) ∧ Below w.heap.size w wr) (fun _ i _ => 4 - (intOf i).toNat)
      case atStart => exact ⟨0, by omega, rfl, rfl, fun j hj => absurd hj (by omega), b1⟩
      case round =>
        obtain ⟨k, hk, rfl, rfl, hup, hb⟩ := hrel
        have HU := Lib.hid hup
        clear hup b1
        by_cases hlt : k < 4
        · have y0 := (hb.cell (p := ⟨b, off + k, none⟩) hbl).trans (HC.out k hlt)
          have HK := Lib.hid (show mskI cs (k + 1) = bits .or .i64 (mskI cs k) (IntKind.i64.wrap (2 ^ (cs.getD k 0).toNat)) from rfl)
          obtain ⟨x, ex⟩ : ∃ x, x = cs.getD k 0 := ⟨_, rfl⟩
          rw [← ex] at y0 HK
          have EX := Lib.hid ex
          obtain ⟨z2, ez2⟩ : ∃ z2, z2 = mskI cs (k + 1) := ⟨_, rfl⟩
          rw [← ez2] at HK
          have EZ := Lib.hid ez2
          clear ez2
          generalize mskI cs k = z at *
          have g1 : (k : Int) < 4 := by omega
          have d0 : decide ((k : Int) < 4) = true := by rw [decide_eq_true_iff]; omega
          have d0' : decide (k < 4) = true := by rw [decide_eq_true_iff]; omega
          by_cases hin : inB x 0 3 = true
          · have HI := Lib.hid hin
            have hxx := inB_true hin
            obtain ⟨p, hp⟩ : ∃ p, IntKind.i64.wrap (2 ^ x.toNat) = p := ⟨_, rfl⟩
            have hz2 : bits .or .i64 z p = z2 := by rw [← hp]; exact HK.out.symm
            have g2 : 0 ≤ x := hxx.1
            have g3 : x ≤ 64 := by omega
            clear hxx hin ex HK
            go_wp2_with (go_at_call 101; refine (l6In_is HI.out _).mono ?_; rintro e w' ⟨rfl, rfl⟩)
            go_roundw
            case rel =>
              have hT : ∀ j, j < k + 1 → inB (cs.getD j 0) 0 3 = true := fun j hj => by
                by_cases e : j = k
                · rw [e, ← EX.out]; exact HI.out
                · exact HU.out j (by omega)
              first
                | exact ⟨k + 1, by omega, by go_num, by rw [EZ.out], hT, hb⟩
                | ((repeat apply Exists.intro); exact ⟨⟨k + 1, by omega, by go_num, by rw [EZ.out], hT, hb⟩, rfl⟩)
            case measure => simp [intOf]; omega
          · rw [Bool.not_eq_true] at hin
            have HI := Lib.hid hin
            have HB := Lib.hid (namB_no2 (xs := xs) (corn_out hlt (by rw [← EX.out]; exact hin)))
            have HM := Lib.hid (namM_no HB.out)
            clear hin ex HK
            go_wp2_with (go_at_call 101; refine (l6In_is HI.out _).mono ?_; rintro e w' ⟨rfl, rfl⟩)
            refine bodyPost_ret (results_tmp2 rfl _ _ _) rfl ?_
            exact ⟨_, 0, 0, ret_lb HB.out, by rw [HM.out]; exact Rd.nil_ _ _, by omega, below_alloc hb _⟩
        · obtain rfl : k = 4 := by omega
          have hmc := msk_corn HL.out HU.out
          by_cases h15 : mskI cs 4 = 15
          · rw [decide_eq_true h15] at hmc
            have HB := Lib.hid (namB_yes HS.out hmc.symm)
            have HM := Lib.hid (namM_yes HB.out)
            have hN := fun W (hW : Below w.heap.size w W) => l8Named_any A c xs (some ⟨b, off, none⟩) c1 cs W (HH.out.same hW) (HH1.out.same hW) (corn_mem hmc.symm)
            rw [h15]
            clear hmc h15
            go_wp2_with fail
            refine (hN _ hb).mono ?_
            rintro e w5 ⟨A5, c5, rfl, o5, b5⟩
            go_wp2_with fail
            refine bodyPost_ret (results_tmp2 rfl _ _ _) rfl ?_
            exact ⟨A5, 6, c5, ret_lb HB.out, by rw [HM.out]; exact o5.rd, by omega, below_then hb b5⟩
          · rw [decide_eq_false h15] at hmc
            have HB := Lib.hid (namB_no2 (xs := xs) hmc.symm)
            have HM := Lib.hid (namM_no HB.out)
            have d15 : (mskI cs 4 != 15) = true := by simpa using h15
            generalize mskI cs 4 = z at *
            clear hmc
            go_wp2_with fail
            refine bodyPost_ret (results_tmp2 rfl _ _ _) rfl ?_
            exact ⟨_, 0, 0, ret_lb HB.out, by rw [HM.out]; exact Rd.nil_ _ _, by omega, below_alloc hb _⟩
    · have HB := Lib.hid (namB_no2 (xs := xs) (show cornB cs = false by cases hc : cornB cs with | false => rfl | true => exact absurd ((c24_at cs (corn_mem hc)).1) (by rw [h1.1]; exact h4)))
      have HM := Lib.hid (namM_no HB.out)
      have d4 : ((n1 : Int) != 4) = true := by simp; omega
      clear hb hs h1
      go_enter Try.func54, Try.ntmps54
      go_wp2_with fail
      refine (l8Solid_any _ _ _ xs _ h hn).mono ?_
      rintro e w1 ⟨rfl, b1⟩
      rw [HS.out]
      go_wp2_with fail
      refine bodyPost_ret (results_tmp2 rfl _ _ _) rfl ?_
      exact ⟨_, 0, 0, ret_lb HB.out, by rw [HM.out]; exact Rd.nil_ _ _, by omega, below_alloc b1 _⟩
end Go.Proofs.Ytdnegamminhbfaa
