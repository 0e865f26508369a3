/- Contracts of the model's functions of chapter 5: ways, spans, greedy foldings, backwards. -/
import Derived.Test.YtogmoljaiapolaaFoldS
import Derived.Test.YtogmoljaiapolaaApp
namespace Go.Proofs.Ytogmoljaiapolaa
open Go.RowKit

theorem pow_le {n : Nat} (h : n ≤ 9) : 1 ≤ 2 ^ n ∧ 2 ^ n ≤ 512 :=
  ⟨Nat.two_pow_pos n, Nat.le_trans (Nat.pow_le_pow_right (by omega) h) (by decide)⟩
theorem pow_wrap {n P : Nat} (h : n ≤ 9) (e : P = 2 ^ n) : IntKind.i64.wrap ((2 : Int) ^ n) = (P : Int) := by
  have := pow_le h
  have e2 : (2 : Int) ^ n = (P : Int) := by subst e; simp
  rw [e2]
  exact wrap_is rfl (by omega) (by omega)
theorem ret_ibq {a b : Int} {c d : Bool} (h : a = b) (k : c = d) : Ending.returned (.tuple #[.int .i64 a, .bool c]) = .returned (.tuple #[.int .i64 b, .bool d]) := by subst h k; rfl
noncomputable def wayM (xs : List Int) : Int := if rulB xs then (wayN xs 0 : Nat) else 0
theorem wayM_yes {xs : List Int} (h : rulB xs = true) : wayM xs = (wayN xs 0 : Nat) := by unfold wayM; rw [if_pos h]
theorem wayM_no {xs : List Int} (h : rulB xs = false) : wayM xs = 0 := by unfold wayM; rw [h]; rfl
noncomputable def spnM (xs : List Int) : Int := if rulB xs then spanL xs else 0
theorem spnM_yes {xs : List Int} (h : rulB xs = true) : spnM xs = spanL xs := by unfold spnM; rw [if_pos h]
theorem spnM_no {xs : List Int} (h : rulB xs = false) : spnM xs = 0 := by unfold spnM; rw [h]; rfl
noncomputable def grdM (xs : List Int) : Int := if rulB xs then grdL (mxL xs) xs else 0
theorem grdM_yes {xs : List Int} (h : rulB xs = true) : grdM xs = grdL (mxL xs) xs := by unfold grdM; rw [if_pos h]
theorem grdM_no {xs : List Int} (h : rulB xs = false) : grdM xs = 0 := by unfold grdM; rw [h]; rfl
noncomputable def bakM (xs : List Int) : List Int := if rulB xs then xs.reverse else []
theorem bakM_yes {xs : List Int} (h : rulB xs = true) : bakM xs = xs.reverse := by unfold bakM; rw [if_pos h]
theorem bakM_no {xs : List Int} (h : rulB xs = false) : bakM xs = [] := by unfold bakM; rw [h]; rfl

set_option maxHeartbeats 800000 in
theorem specFoldWays_any (A : Option Addr) (n c : Nat) (xs : List Int) (w : World) (h : Rd w A n xs) (hn : n ≤ 1048576) :
    Calls Try.prog 31 #[.slice A n c] w fun e w' => e = .returned (.tuple #[.int .i64 (wayM xs), .bool (rulB xs)]) ∧ Below w.heap.size w w' := by
  by_cases hR : rulB xs = true
  · have HR := Lib.hid hR
    have hr := rulB_true hR
    have HRR := Lib.hid hr
    have hl := h.1
    have hn9 : n ≤ 9 := by have := hr.2.1; omega
    obtain ⟨P, hP⟩ : ∃ P : Nat, P = 2 ^ n := ⟨_, rfl⟩
    have hp : 1 ≤ P ∧ P ≤ 512 := by rw [hP]; exact pow_le hn9
    have v1 := pow_wrap hn9 hP
    have HW := Lib.hid (show cntF (fun s => decide (plc xs s = 0)) P = wayN xs 0 by rw [hP, ← hl]; exact way_cnt xs 0)
    clear hR hP hr hl
    go_enter Try.func31, Try.ntmps31
    go_wp2_with fail
    refine (l5Ruler_any A n c xs _ h hn).mono ?_
    rintro e w1 ⟨rfl, b1⟩
    rw [HR.out]
    go_wp2_with fail
    go_loopw [4, 5, 6, 7, 8] (fun s i _ _ _ wr => ∃ k : Nat, k ≤ P ∧ i = .int .i64 k ∧ s = .int .i64 (cntF (fun s => decide (plc xs s = 0)) k : Nat) ∧ Below w.heap.size w wr) (fun _ i _ _ _ _ => P - (intOf i).toNat)
    case atStart => exact ⟨0, Nat.zero_le _, rfl, rfl, b1⟩
    case round =>
      obtain ⟨k, hk, rfl, rfl, hb⟩ := hrel
      have hce := cntF_le (f := fun s => decide (plc xs s = 0)) k
      have hcy := cntF_yes (f := fun s => decide (plc xs s = 0)) (k := k)
      have hcn := cntF_no (f := fun s => decide (plc xs s = 0)) (k := k)
      by_cases hlt : k < P
      · have hE := fun W (h : Rd W A n xs) => l5Ends_any A n c xs k W h HRR.out (by omega)
        obtain ⟨f, ef⟩ : ∃ f : Nat → Nat, f = cntF (fun s => decide (plc xs s = 0)) := ⟨_, rfl⟩
        rw [← ef] at hce hcy hcn HW ⊢
        obtain ⟨p, ep⟩ : ∃ p, p = plc xs k := ⟨_, rfl⟩
        simp only [← ep] at hcy hcn
        rw [← ep] at hE
        clear ef
        by_cases hp0 : p = 0
        · have HC := Lib.hid (hcy (by rw [hp0]; rfl))
          have d1 : (p == 0) = true := by simpa using hp0
          clear hcy hcn hp0 ep
          go_wp2_with fail
          refine (hE _ (h.same hb)).mono ?_
          rintro e w2 ⟨rfl, b2⟩
          have b3 := below_then hb b2
          clear hE
          go_wp2_with fail
          go_roundw
          case rel => exact ⟨k + 1, by omega, by go_num, by rw [HC.out]; go_num, b3⟩
          case measure => simp [intOf]; omega
        · have HC := Lib.hid (hcn (by simpa using hp0))
          have d1 : (p == 0) = false := by simpa using hp0
          clear hcy hcn hp0 ep
          go_wp2_with fail
          refine (hE _ (h.same hb)).mono ?_
          rintro e w2 ⟨rfl, b2⟩
          have b3 := below_then hb b2
          clear hE
          go_wp2_with fail
          go_roundw
          case rel => exact ⟨k + 1, by omega, by go_num, by rw [HC.out], b3⟩
          case measure => simp [intOf]; omega
      · obtain rfl : k = P := by omega
        rw [HW.out]
        clear hce hcy hcn
        go_wp2_with fail
        go_ret2
        exact ⟨ret_ibq (wayM_yes HR.out).symm HR.out.symm, hb⟩
  · rw [Bool.not_eq_true] at hR
    have HR := Lib.hid hR
    clear hR
    go_enter Try.func31, Try.ntmps31
    go_wp2_with fail
    refine (l5Ruler_any A n c xs _ h hn).mono ?_
    rintro e w1 ⟨rfl, b1⟩
    rw [HR.out]
    go_wp2_with fail
    go_ret2
    exact ⟨ret_ibq (wayM_no HR.out).symm HR.out.symm, b1⟩

set_option maxHeartbeats 800000 in
theorem l5Least_any (A : Option Addr) (n c : Nat) (xs : List Int) (w : World) (h : Rd w A n xs) (hr : Ruler xs) :
    Calls Try.prog 64 #[.slice A n c] w fun e w' => e = .returned (.tuple #[.int .i64 (spanL xs), .int .i64 (firstL xs : Nat)]) ∧ Below w.heap.size w w' := by
  have HRR := Lib.hid hr
  have hl := h.1
  have hn9 : n ≤ 9 := by have := hr.2.1; omega
  obtain ⟨P, hP⟩ : ∃ P : Nat, P = 2 ^ n := ⟨_, rfl⟩
  have hp : 1 ≤ P ∧ P ≤ 512 := by rw [hP]; exact pow_le hn9
  have v1 := pow_wrap hn9 hP
  have HW := Lib.hid (show leT xs P = (spanL xs, firstL xs) by rw [hP, ← hl]; rfl)
  clear hP hr hl
  go_enter Try.func64, Try.ntmps64
  go_wp2_with fail
  go_loopw [4, 5, 6, 7, 8, 9] (fun s f i _ _ _ wr => ∃ k : Nat, k ≤ P ∧ i = .int .i64 k ∧ s = .int .i64 (leT xs k).1 ∧ f = .int .i64 ((leT xs k).2 : Nat) ∧ Below w.heap.size w wr) (fun _ _ i _ _ _ _ => P - (intOf i).toNat)
  case atStart => exact ⟨0, Nat.zero_le _, rfl, rfl, rfl, Below.refl _ _⟩
  case round =>
    obtain ⟨k, hk, rfl, rfl, rfl, hb⟩ := hrel
    by_cases hlt : k < P
    · have hE := fun W (h : Rd W A n xs) => l5Ends_any A n c xs k W h HRR.out (by omega)
      have hbd := fold_bd (s := k) HRR.out.2.2 xs.length (Nat.le_refl _)
      have hal := fold_all (xs := xs) (s := k)
      have h9 := HRR.out.2.1
      have hly := leT_yes (xs := xs) (k := k)
      have hln := leT_no (xs := xs) (k := k)
      have hg : rngP xs k = hiP xs k - loP xs k := rfl
      rw [hg] at hly hln
      rw [hal.2.1, hal.2.2] at hbd
      obtain ⟨q, eq⟩ : ∃ q, q = leT xs k := ⟨_, rfl⟩
      rw [← eq] at hly hln ⊢
      generalize hiP xs k = hi at *
      generalize loP xs k = lo at *
      have v2 : IntKind.i64.wrap (hi - lo) = hi - lo := wrap_is rfl (by omega) (by omega)
      clear eq hbd hal h9 hg
      obtain ⟨q1, q2⟩ := q
      simp only at hly hln ⊢
      by_cases hq : k = 0 ∨ hi - lo < q1
      · have HC := Lib.hid (hly hq)
        by_cases hk0 : k = 0
        · subst hk0
          clear hly hln hq
          go_wp2_with fail
          refine (hE _ (h.same hb)).mono ?_
          rintro e w2 ⟨rfl, b2⟩
          have b3 := below_then hb b2
          clear hE
          go_wp2_with fail
          go_roundw
          case rel => exact ⟨1, by omega, by go_num, by rw [HC.out], by rw [HC.out]; go_num, b3⟩
          case measure => simp [intOf]; omega
        · have d1 : ((k : Int) == 0) = false := by rw [beq_eq_false_iff_ne]; omega
          have d2 : decide (hi - lo < q1) = true := by simp; omega
          clear hly hln hq
          go_wp2_with fail
          refine (hE _ (h.same hb)).mono ?_
          rintro e w2 ⟨rfl, b2⟩
          have b3 := below_then hb b2
          clear hE
          go_wp2_with fail
          go_roundw
          case rel => exact ⟨k + 1, by omega, by go_num, by rw [HC.out], by rw [HC.out], b3⟩
          case measure => simp [intOf]; omega
      · have HC := Lib.hid (hln hq)
        have d1 : ((k : Int) == 0) = false := by rw [beq_eq_false_iff_ne]; omega
        have d2 : decide (hi - lo < q1) = false := by simp; omega
        clear hly hln hq
        go_wp2_with fail
        refine (hE _ (h.same hb)).mono ?_
        rintro e w2 ⟨rfl, b2⟩
        have b3 := below_then hb b2
        clear hE
        go_wp2_with fail
        go_roundw
        case rel => exact ⟨k + 1, by omega, by go_num, by rw [HC.out], by rw [HC.out], b3⟩
        case measure => simp [intOf]; omega
    · obtain rfl : k = P := by omega
      rw [HW.out]
      go_wp2_with fail
      go_ret2
      exact ⟨rfl, hb⟩

theorem specFoldSpan_any (A : Option Addr) (n c : Nat) (xs : List Int) (w : World) (h : Rd w A n xs) (hn : n ≤ 1048576) :
    Calls Try.prog 34 #[.slice A n c] w fun e w' => e = .returned (.tuple #[.int .i64 (spnM xs), .bool (rulB xs)]) ∧ Below w.heap.size w w' := by
  by_cases hR : rulB xs = true
  · have HR := Lib.hid hR
    clear hR
    go_enter Try.func34, Try.ntmps34
    go_wp2_with fail
    refine (l5Ruler_any A n c xs _ h hn).mono ?_
    rintro e w1 ⟨rfl, b1⟩
    rw [HR.out]
    go_wp2_with fail
    refine (l5Least_any A n c xs _ (h.same b1) (rulB_true HR.out)).mono ?_
    rintro e w2 ⟨rfl, b2⟩
    go_wp2_with fail
    go_ret2
    exact ⟨ret_ibq (spnM_yes HR.out).symm HR.out.symm, below_then b1 b2⟩
  · rw [Bool.not_eq_true] at hR
    have HR := Lib.hid hR
    clear hR
    go_enter Try.func34, Try.ntmps34
    go_wp2_with fail
    refine (l5Ruler_any A n c xs _ h hn).mono ?_
    rintro e w1 ⟨rfl, b1⟩
    rw [HR.out]
    go_wp2_with fail
    go_ret2
    exact ⟨ret_ibq (spnM_no HR.out).symm HR.out.symm, b1⟩
end Go.Proofs.Ytogmoljaiapolaa
