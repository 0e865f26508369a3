/- Contracts of the model's functions of chapter 5: fitting, for any span. -/
import Derived.Test.YtogmoljaiapolaaFoldS6
namespace Go.Proofs.Ytogmoljaiapolaa
open Go.RowKit

noncomputable def fitM (xs : List Int) (d : Int) : Bool := rulB xs && decide (spanL xs ≤ d)
theorem fitM_no {xs : List Int} (h : rulB xs = false) (d : Int) : fitM xs d = false := by unfold fitM; rw [h]; rfl
theorem fitM_yes {xs : List Int} (h : rulB xs = true) (d : Int) : fitM xs d = decide (spanL xs ≤ d) := by unfold fitM; rw [h]; rfl

set_option maxRecDepth 100000 in
set_option maxHeartbeats 800000 in
theorem specFoldFits_any (A : Option Addr) (n c : Nat) (xs : List Int) (d : Int) (w : World) (h : Rd w A n xs) (hn : n ≤ 1048576) :
    Calls Try.prog 38 #[.slice A n c, .int .i64 d] w fun e w' => e = .returned (.bool (fitM xs d)) ∧ Below w.heap.size w w' := by
  by_cases hR : rulB xs = true
  · have HR := Lib.hid hR
    have hr := rulB_true hR
    have hsp := span_ruler hr
    have hsu := ruler_sum hr
    have hss := (span_sum (ruler_len1 hr)).2
    have cS : ∀ W, Rd W A n xs → Calls Try.prog 71 #[.slice A n c] W fun e w' => e = .returned (.int .i64 (sumL xs)) ∧ Below W.heap.size W w' := fun W h => specSum_any A n c xs _ h hn (ruler_small hr)
    simp only [sumL_eq] at cS
    by_cases hd : 0 ≤ d
    · obtain ⟨t, ht⟩ : ∃ t : Nat, min d xs.sum = (t : Int) := ⟨(min d xs.sum).toNat, by omega⟩
      have HQ := Lib.hid (show decide (spanL xs ≤ (t : Int)) = fitM xs d by
        rw [fitM_yes hR, Bool.eq_iff_iff, decide_eq_true_iff, decide_eq_true_iff]
        omega)
      have cF : ∀ m, m = min d xs.sum → ∀ W, Rd W A n xs → Calls Try.prog 70 #[.slice A n c, .int .i64 m] W fun e w' => e = .returned (.bool (fitM xs d)) ∧ Below W.heap.size W w' := fun m hm W h => by
        rw [hm, ht, ← HQ.out]
        exact l5Fits_any A n c xs t W h hr (by omega)
      have d1 : decide (d ≥ 0) = true := by simpa using hd
      generalize xs.sum = s at *
      rcases (show s < d ∨ d ≤ s by omega) with hsd | hsd
      · have cG := cF s (by omega)
        have hrd := h
        clear hR hr hsp hsu hss ht hd HQ cF h
        go_enter Try.func38, Try.ntmps38
        go_wp2_with fail
        refine (l5Ruler_any A n c xs _ hrd hn).mono ?_
        rintro e w1 ⟨rfl, b1⟩
        rw [HR.out]
        go_wp2_with fail
        refine (cS _ (hrd.same b1)).mono ?_
        rintro e w2 ⟨rfl, b2⟩
        have b3 := below_then b1 b2
        go_wp2_with fail
        refine (cG _ (hrd.same b3)).mono ?_
        rintro e w3 ⟨rfl, b4⟩
        go_wp2_with fail
        go_ret
        exact ⟨rfl, below_then b3 b4⟩
      · have cG := cF d (by omega)
        have hrd := h
        clear hR hr hsp hsu hss ht hd HQ cF h
        go_enter Try.func38, Try.ntmps38
        go_wp2_with fail
        refine (l5Ruler_any A n c xs _ hrd hn).mono ?_
        rintro e w1 ⟨rfl, b1⟩
        rw [HR.out]
        go_wp2_with fail
        refine (cS _ (hrd.same b1)).mono ?_
        rintro e w2 ⟨rfl, b2⟩
        have b3 := below_then b1 b2
        go_wp2_with fail
        refine (cG _ (hrd.same b3)).mono ?_
        rintro e w3 ⟨rfl, b4⟩
        go_wp2_with fail
        go_ret
        exact ⟨rfl, below_then b3 b4⟩
    · have HQ := Lib.hid (show fitM xs d = false by
        rw [fitM_yes hR, decide_eq_false_iff_not]
        omega)
      have d1 : decide (d ≥ 0) = false := by simpa using hd
      clear hR hr hsp hsu hss hd
      go_enter Try.func38, Try.ntmps38
      go_wp2_with fail
      refine (l5Ruler_any A n c xs _ h hn).mono ?_
      rintro e w1 ⟨rfl, b1⟩
      rw [HR.out]
      go_wp2_with fail
      go_ret
      exact ⟨ret_b HQ.out.symm, b1⟩
  · rw [Bool.not_eq_true] at hR
    have HR := Lib.hid hR
    clear hR
    go_enter Try.func38, Try.ntmps38
    go_wp2_with fail
    refine (l5Ruler_any A n c xs _ h hn).mono ?_
    rintro e w1 ⟨rfl, b1⟩
    rw [HR.out]
    go_wp2_with fail
    go_ret
    exact ⟨ret_b (fitM_no HR.out d).symm, b1⟩
end Go.Proofs.Ytogmoljaiapolaa
