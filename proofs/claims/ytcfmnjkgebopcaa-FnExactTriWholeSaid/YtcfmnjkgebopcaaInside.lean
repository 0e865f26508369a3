/- TriInside of the program. -/
import Derived.Test.YtcfmnjkgebopcaaFill
import Derived.Test.YtcfmnjkgebopcaaSpecTri
namespace Go.Proofs.Ytcfmnjkgebopcaa
open Go.RowKit

theorem len_inP {p n : Int} (h1 : 1 ≤ p) (h2 : p ≤ 60) : ((inP p n).length : Int) ≤ 100 := by
  have h3 : (inP p n).length ≤ (allP p).length := List.length_filter_le _ _
  have h4 := len_allP h1 h2
  have h5 : rndM p ≤ 100 := by
    unfold rndM
    rw [if_pos (by unfold inB; simp; omega)]
    have q1 := mul_bd (a := p) (b := p) (A := 60) (B := 60) (by omega) h2 (by omega) h2
    have q2 := mul_bd (a := p + 3) (b := p + 3) (A := 63) (B := 63) (by omega) (by omega) (by omega) (by omega)
    split <;> omega
  omega
theorem insR_bd {n : Int} : ∀ k : Nat, k ≤ 58 → 0 ≤ insR n k ∧ insR n k ≤ 100 * k
  | 0, _ => by simp [insR]
  | k + 1, h => by
    have h1 := insR_bd (n := n) k (by omega)
    have h2 := len_inP (p := (k : Int) + 3) (n := n) (by omega) (by omega)
    rw [insR]
    omega

/-- What TriInside's loop keeps. -/
def InsRel (w : World) (b : Nat) (wr : World) : Prop := (∃ L, SetT wr b L) ∧ w.heap.size ≤ b ∧ Below w.heap.size w wr
theorem InsRel.start (w : World) : InsRel w w.heap.size (w.alloc (.map #[] 0)) := ⟨⟨[], SetT.made w⟩, Nat.le_refl _, below_alloc (Below.refl _ _) _⟩

set_option maxRecDepth 100000 in
set_option maxHeartbeats 4000000 in
theorem implTriInside_any (n : Int) (w : World) : Calls Try.prog 87 #[.int .i64 n] w fun e w' => e = .returned (.tuple #[.int .i64 (insM n), .bool (inB n 1 20)]) ∧ Below w.heap.size w w' := by
  by_cases h : inB n 1 20 = true
  · have hp := h
    unfold inB at hp
    simp at hp
    have d1 : decide (n < 1) = false := by simp; omega
    have d2 : decide (n > 20) = false := by simp; omega
    have HS := Lib.hid (ins_all hp.1 hp.2)
    have hmm := @run_makeMap Try.prog
    have H0 := Lib.hid (InsRel.start w)
    have v1 : IntKind.i64.wrap (3 * n) = 3 * n := wrap_is rfl (by omega) (by omega)
    rw [h]
    clear h
    go_enter Try.func87, Try.ntmps87
    go_wp2_with fail
    go_loopw [4, 6] (fun v a wr => ∃ (k : Nat) (m : Int), (k : Int) ≤ 3 * n - 2 ∧ a = .int .i64 ((k : Int) + 3) ∧ v = .int .i64 m ∧ m = insR n k ∧ InsRel w w.heap.size wr) (fun _ a _ => (3 * n + 1 - intOf a).toNat)
    case atStart => exact ⟨0, 0, by omega, by simp, rfl, rfl, H0.out⟩
    case round =>
      obtain ⟨k, m, hk, rfl, rfl, hm, hr⟩ := hrel
      have HM := Lib.hid hm
      have bm := insR_bd (n := n) k (by omega)
      rw [← hm] at bm
      clear hm H0 hmm
      by_cases hlt : (k : Int) + 3 ≤ 3 * n
      · have hd : decide ((k : Int) + 3 ≤ 3 * n) = true := by simpa using hlt
        obtain ⟨⟨L, hs⟩, hb, bel⟩ := hr
        have hF := fill_any w.heap.size L ((k : Int) + 3) n wr hs (by omega) (by omega) (by omega) (by omega)
        clear hs hb
        go_wp2_with fail
        refine hF.mono ?_
        rintro e w2 ⟨rfl, L2, s2, m2, g2⟩
        have hl := s2.len
        have hlen : (L2.length : Int) = ((inP ((k : Int) + 3) n).length : Nat) := by
          rw [len_of_mem s2.nodup (nodup_inP _ _) (fun t => (m2 t).trans (mem_inP (by omega) (by omega)).symm)]
        have h100 := len_inP (p := (k : Int) + 3) (n := n) (by omega) (by omega)
        rw [← hlen] at h100
        have v2 : IntKind.i64.wrap (m + (L2.length : Int)) = m + (L2.length : Int) := wrap_is rfl (by omega) (by omega)
        have HR := Lib.hid (show m + (L2.length : Int) = insR n (k + 1) by rw [insR, ← hlen, HM.out])
        have HI : Hid (InsRel w w.heap.size w2) := Lib.hid ⟨⟨L2, s2⟩, Nat.le_refl _, bel.grown g2 bel.size (fun j e => by cases e; exact Nat.le_refl _)⟩
        clear s2 m2 g2 hF bel hlen HM
        go_wp2_with fail
        go_roundw
        case rel => exact ⟨k + 1, _, by omega, by go_num, rfl, HR.out, HI.out⟩
        case measure => simp [intOf]; omega
      · have hd : decide ((k : Int) + 3 ≤ 3 * n) = false := by simpa using hlt
        rw [show (3 * n - 2).toNat = k by omega] at HS
        have HB := Lib.hid hr.2.2
        have hm : m = insM n := HM.out.trans HS.out
        clear HS HM hr bm
        subst hm
        go_wp2_with fail
        go_ret2
        exact ⟨rfl, HB.out⟩
  · rw [Bool.not_eq_true] at h
    have HI := Lib.hid h
    rw [insM_no h, h]
    by_cases h1 : n < 1
    · have d1 : decide (n < 1) = true := by simpa using h1
      clear h
      go_enter Try.func87, Try.ntmps87
      go_wp2_with fail
      go_ret2
      exact ⟨rfl, Below.refl _ _⟩
    · have d1 : decide (n < 1) = false := by simpa using h1
      have d2 : decide (n > 20) = true := by
        unfold inB at h
        simp at h ⊢
        omega
      clear h
      go_enter Try.func87, Try.ntmps87
      go_wp2_with fail
      go_ret2
      exact ⟨rfl, Below.refl _ _⟩
end Go.Proofs.Ytcfmnjkgebopcaa
