/- Which numbers are counted; PolyCloses, PolyGap, PolyMost, PolyFix of the program and of the model. -/
import Derived.Test.YtaffdppmpfgghaaPoly
import Derived.Test.YtaffdppmpfgghaaKit
namespace Go.Proofs.Ytaffdppmpfgghaa
open Go.RowKit

def mayB (n p : Int) : Bool := inB n 3 6 && inB p 1 30
theorem mayB_true {n p : Int} (h : mayB n p = true) : ∃ N P : Nat, n = N ∧ p = P ∧ 3 ≤ N ∧ N ≤ 6 ∧ 1 ≤ P ∧ P ≤ 30 := by
  unfold mayB at h
  rw [Bool.and_eq_true] at h
  have h1 := inB_true h.1
  have h2 := inB_true h.2
  exact ⟨n.toNat, p.toNat, by omega, by omega, by omega, by omega, by omega, by omega⟩

/-- A bundle that closes. -/
noncomputable def pcB (xs : List Int) : Bool := bundleB xs && closB xs
theorem pcB_yes {xs : List Int} (h : bundleB xs = true) : pcB xs = closB xs := by unfold pcB; rw [h]; rfl
theorem pcB_no {xs : List Int} (h : bundleB xs = false) : pcB xs = false := by unfold pcB; rw [h]; rfl

theorem implPolyCloses_any (A : Option Addr) (n c : Nat) (xs : List Int) (w : World) (h : Rd w A n xs) (hn : n ≤ 1048576) :
    Calls Try.prog 55 #[.slice A n c] w fun e w' => e = .returned (.bool (pcB xs)) ∧ Below w.heap.size w w' := by
  by_cases hb : bundleB xs = true
  · have HB := Lib.hid hb
    have hM := bundle_small (bundleB_true hb)
    clear hb
    go_enter Try.func55, Try.ntmps55
    go_wp2_with fail
    refine (valid_any _ _ _ xs _ h hn).mono ?_
    rintro e w1 ⟨rfl, b1⟩
    rw [HB.out]
    go_wp2_with fail
    refine (implCloses_any _ _ _ xs _ (h.same b1) hn hM).mono ?_
    rintro e w2 ⟨rfl, b2⟩
    go_wp2_with fail
    go_ret
    exact ⟨ret_b (pcB_yes HB.out).symm, below_then b1 b2⟩
  · rw [Bool.not_eq_true] at hb
    have HB := Lib.hid hb
    clear hb
    go_enter Try.func55, Try.ntmps55
    go_wp2_with fail
    refine (valid_any _ _ _ xs _ h hn).mono ?_
    rintro e w1 ⟨rfl, b1⟩
    rw [HB.out]
    go_wp2_with fail
    go_ret
    exact ⟨ret_b (pcB_no HB.out).symm, b1⟩

noncomputable def gpM (xs : List Int) : Int := if bundleB xs then gapL xs else 0
theorem gpM_yes {xs : List Int} (h : bundleB xs = true) : gpM xs = gapL xs := by unfold gpM; rw [if_pos h]
theorem gpM_no {xs : List Int} (h : bundleB xs = false) : gpM xs = 0 := by unfold gpM; rw [h]; rfl
theorem ret_ibs {a b : Int} {c d : Bool} (h : a = b) (k : c = d) : Ending.returned (.tuple #[.int .i64 a, .bool c]) = .returned (.tuple #[.int .i64 b, .bool d]) := by subst h k; rfl

theorem small_take {M : Int} {xs : List Int} (h : Small M xs) (k : Nat) : Small M (xs.take k) := fun j hj => by
  rw [List.length_take] at hj
  rw [getD_take (by omega)]
  exact h j (by omega)

set_option maxHeartbeats 1000000 in
theorem mostClosing_any (A : Option Addr) (n c : Nat) (xs : List Int) (w : World) (h : Rd w A n xs) (hn : n ≤ 1048576) (hc : n ≤ c) (hM : Small 1000000 xs) :
    Calls Try.prog 108 #[.slice A n c] w fun e w' => e = .returned (.int .i64 (mostL xs : Nat)) ∧ Below w.heap.size w w' := by
  have HL := Lib.hid h.1
  go_enter Try.func108, Try.ntmps108
  go_wp2_with fail
  go_loopw [3] (fun i wr => ∃ k : Nat, k ≤ n ∧ i = .int .i64 k ∧ mostTo xs k = mostL xs ∧ Below w.heap.size w wr) (fun i _ => (intOf i).toNat)
  case atStart => exact ⟨n, Nat.le_refl _, rfl, by unfold mostL; rw [HL.out], Below.refl _ _⟩
  case round =>
    obtain ⟨k, hk, rfl, hw, hb⟩ := hrel
    have HK := Lib.hid hw
    clear hw
    by_cases h3 : 3 ≤ k
    · obtain ⟨b, off, rfl, _, _⟩ := h.2 (by omega)
      have ht := Lib.hid ((h.same hb).take hk)
      have hC : ∀ c', Calls Try.prog 110 #[.slice (some ⟨b, off, none⟩) k c'] wr fun e w' => e = .returned (.bool (closB (xs.take k))) ∧ Below wr.heap.size wr w' := fun c' => implCloses_any _ k c' _ _ ht.out (by omega) (small_take hM k)
      have d1 : decide ((k : Int) ≥ 3) = true := by simp; omega
      cases hcl : closB (xs.take k) with
      | true =>
        have HE := Lib.hid (mostTo_yes h3 hcl)
        rw [hcl] at hC
        clear h hM
        go_wp2_with fail
        refine (hC _).mono ?_
        rintro e w2 ⟨rfl, b2⟩
        go_wp2_with fail
        go_ret
        exact ⟨ret_i (by rw [← HK.out, HE.out]), below_then hb b2⟩
      | false =>
        have HE := Lib.hid (mostTo_no h3 hcl)
        rw [hcl] at hC
        clear h hM
        go_wp2_with fail
        refine (hC _).mono ?_
        rintro e w2 ⟨rfl, b2⟩
        go_wp2_with fail
        go_roundw
        case rel => exact ⟨k - 1, by omega, by go_num, by rw [← HE.out, HK.out], below_then hb b2⟩
        case measure => simp [intOf]; omega
    · have d1 : decide ((k : Int) ≥ 3) = false := by simp; omega
      have HE := Lib.hid (mostTo_low (xs := xs) k (by omega))
      clear h hM
      go_wp2_with fail
      go_ret
      exact ⟨ret_i (by rw [← HK.out, HE.out]; rfl), hb⟩

set_option maxHeartbeats 1000000 in
theorem l3Most_any (A : Option Addr) (n c : Nat) (xs : List Int) (w : World) (h : Rd w A n xs) (hn : n ≤ 1048576) (hc : n ≤ c) (hM : Small 1000000 xs) :
    Calls Try.prog 109 #[.slice A n c] w fun e w' => e = .returned (.int .i64 (mostL xs : Nat)) ∧ Below w.heap.size w w' := by
  have HL := Lib.hid h.1
  go_enter Try.func109, Try.ntmps109
  go_wp2_with fail
  go_loopw [3] (fun i wr => ∃ k : Nat, k ≤ n ∧ i = .int .i64 k ∧ mostTo xs k = mostL xs ∧ Below w.heap.size w wr) (fun i _ => (intOf i).toNat)
  case atStart => exact ⟨n, Nat.le_refl _, rfl, by unfold mostL; rw [HL.out], Below.refl _ _⟩
  case round =>
    obtain ⟨k, hk, rfl, hw, hb⟩ := hrel
    have HK := Lib.hid hw
    clear hw
    by_cases h3 : 3 ≤ k
    · obtain ⟨b, off, rfl, _, _⟩ := h.2 (by omega)
      have ht := Lib.hid ((h.same hb).take hk)
      have hC : ∀ c', Calls Try.prog 142 #[.slice (some ⟨b, off, none⟩) k c'] wr fun e w' => e = .returned (.bool (closB (xs.take k))) ∧ Below wr.heap.size wr w' := fun c' => l3Closes_any _ k c' _ _ ht.out (by omega) (small_take hM k)
      have d1 : decide ((k : Int) > 2) = true := by simp; omega
      cases hcl : closB (xs.take k) with
      | true =>
        have HE := Lib.hid (mostTo_yes h3 hcl)
        rw [hcl] at hC
        clear h hM
        go_wp2_with fail
        refine (hC _).mono ?_
        rintro e w2 ⟨rfl, b2⟩
        go_wp2_with fail
        go_ret
        exact ⟨ret_i (by rw [← HK.out, HE.out]), below_then hb b2⟩
      | false =>
        have HE := Lib.hid (mostTo_no h3 hcl)
        rw [hcl] at hC
        clear h hM
        go_wp2_with fail
        refine (hC _).mono ?_
        rintro e w2 ⟨rfl, b2⟩
        go_wp2_with fail
        go_roundw
        case rel => exact ⟨k - 1, by omega, by go_num, by rw [← HE.out, HK.out], below_then hb b2⟩
        case measure => simp [intOf]; omega
    · have d1 : decide ((k : Int) > 2) = false := by simp; omega
      have HE := Lib.hid (mostTo_low (xs := xs) k (by omega))
      clear h hM
      go_wp2_with fail
      go_ret
      exact ⟨ret_i (by rw [← HK.out, HE.out]; rfl), hb⟩

noncomputable def mstM (xs : List Int) : Int := if bundleB xs then (mostL xs : Nat) else 0
theorem mstM_yes {xs : List Int} (h : bundleB xs = true) : mstM xs = (mostL xs : Nat) := by unfold mstM; rw [if_pos h]
theorem mstM_no {xs : List Int} (h : bundleB xs = false) : mstM xs = 0 := by unfold mstM; rw [h]; rfl

theorem implPolyMost_any (A : Option Addr) (n c : Nat) (xs : List Int) (w : World) (h : Rd w A n xs) (hn : n ≤ 1048576) (hc : n ≤ c) :
    Calls Try.prog 53 #[.slice A n c] w fun e w' => e = .returned (.tuple #[.int .i64 (mstM xs), .bool (bundleB xs)]) ∧ Below w.heap.size w w' := by
  by_cases hb : bundleB xs = true
  · have HB := Lib.hid hb
    have hM := bundle_small (bundleB_true hb)
    clear hb
    go_enter Try.func53, Try.ntmps53
    go_wp2_with fail
    refine (valid_any _ _ _ xs _ h hn).mono ?_
    rintro e w1 ⟨rfl, b1⟩
    rw [HB.out]
    go_wp2_with fail
    refine (mostClosing_any _ _ _ xs _ (h.same b1) hn hc hM).mono ?_
    rintro e w2 ⟨rfl, b2⟩
    go_wp2_with fail
    go_ret2
    exact ⟨ret_ibs (mstM_yes HB.out).symm HB.out.symm, below_then b1 b2⟩
  · rw [Bool.not_eq_true] at hb
    have HB := Lib.hid hb
    clear hb
    go_enter Try.func53, Try.ntmps53
    go_wp2_with fail
    refine (valid_any _ _ _ xs _ h hn).mono ?_
    rintro e w1 ⟨rfl, b1⟩
    rw [HB.out]
    go_wp2_with fail
    go_ret2
    exact ⟨ret_ibs (mstM_no HB.out).symm HB.out.symm, b1⟩

theorem specPolyMost_any (A : Option Addr) (n c : Nat) (xs : List Int) (w : World) (h : Rd w A n xs) (hn : n ≤ 1048576) (hc : n ≤ c) :
    Calls Try.prog 54 #[.slice A n c] w fun e w' => e = .returned (.tuple #[.int .i64 (mstM xs), .bool (bundleB xs)]) ∧ Below w.heap.size w w' := by
  by_cases hb : bundleB xs = true
  · have HB := Lib.hid hb
    have hM := bundle_small (bundleB_true hb)
    clear hb
    go_enter Try.func54, Try.ntmps54
    go_wp2_with fail
    refine (l1Bundle_any _ _ _ xs _ h hn).mono ?_
    rintro e w1 ⟨rfl, b1⟩
    rw [HB.out]
    go_wp2_with fail
    refine (l3Most_any _ _ _ xs _ (h.same b1) hn hc hM).mono ?_
    rintro e w2 ⟨rfl, b2⟩
    go_wp2_with fail
    go_ret2
    exact ⟨ret_ibs (mstM_yes HB.out).symm HB.out.symm, below_then b1 b2⟩
  · rw [Bool.not_eq_true] at hb
    have HB := Lib.hid hb
    clear hb
    go_enter Try.func54, Try.ntmps54
    go_wp2_with fail
    refine (l1Bundle_any _ _ _ xs _ h hn).mono ?_
    rintro e w1 ⟨rfl, b1⟩
    rw [HB.out]
    go_wp2_with fail
    go_ret2
    exact ⟨ret_ibs (mstM_no HB.out).symm HB.out.symm, b1⟩

/-! The stick that lets a bundle close -/
noncomputable def fixB (xs : List Int) : Bool := bundleB xs && (decide (2 ≤ xs.length) && decide (xs.length ≤ 8))
noncomputable def fixM (xs : List Int) : Int := if fixB xs then fixL xs else 0
theorem fixM_yes {xs : List Int} (h : fixB xs = true) : fixM xs = fixL xs := by unfold fixM; rw [if_pos h]
theorem fixM_no {xs : List Int} (h : fixB xs = false) : fixM xs = 0 := by unfold fixM; rw [h]; rfl
theorem fixB_bundle {xs : List Int} (h : bundleB xs = false) : fixB xs = false := by unfold fixB; rw [h]; rfl
theorem fixB_one {xs : List Int} (h : ¬ 2 ≤ xs.length) : fixB xs = false := by unfold fixB; rw [decide_eq_false h]; simp
theorem fixB_nine {xs : List Int} (h : ¬ xs.length ≤ 8) : fixB xs = false := by unfold fixB; rw [decide_eq_false h]; simp
theorem fixB_yes {xs : List Int} (h : bundleB xs = true) (h2 : 2 ≤ xs.length) (h8 : xs.length ≤ 8) : fixB xs = true := by unfold fixB; rw [h, decide_eq_true h2, decide_eq_true h8]; rfl
theorem fixL_is (xs : List Int) : (1 < 1 - gapL xs ∧ fixL xs = 1 - gapL xs) ∨ (1 - gapL xs ≤ 1 ∧ fixL xs = 1) := by unfold fixL; omega

/-! Bundles that close, counted -/
def rstM (n p : Int) : Int := if mayB n p then (polN n.toNat p.toNat : Nat) else 0
theorem rstM_yes {N P : Nat} (h : mayB N P = true) : rstM N P = (polN N P : Nat) := by unfold rstM; rw [if_pos h]; simp
theorem rstM_no {n p : Int} (h : mayB n p = false) : rstM n p = 0 := by unfold rstM; rw [h]; rfl
end Go.Proofs.Ytaffdppmpfgghaa
