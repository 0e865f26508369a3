/- Counting bundles of a sum: shares, PolyShares, PolyRest of the program and of the model. -/
import Derived.Test.YtliplbifgldjeaaPoly2
namespace Go.Proofs.Ytliplbifgldjeaa
open Go.RowKit

set_option maxHeartbeats 1000000 in
theorem shares_any : ∀ (f N P : Nat) (n p : Int) (w : World), n = N → p = P → 1 ≤ N → N + P < f → f ≤ 40 →
    Calls Try.prog 73 #[.int .i64 n, .int .i64 p] w fun e w' => e = .returned (.int .i64 (shF f N P : Nat)) ∧ w = w'
  | 0, N, P, n, p, w, h1, h2, h3, h4, h5 => by omega
  | f + 1, N, P, n, p, w, h1, h2, h3, h4, h5 => by
    by_cases hp : P < N
    · have HS := Lib.hid (shF_none (f := f) (by omega) hp)
      have d1 : decide (p < n) = true := by simp; omega
      clear hp h4 h1 h2
      go_enter Try.func73, Try.ntmps73
      go_wp2_with fail
      go_ret
      exact ⟨ret_i (by rw [HS.out]; rfl), rfl⟩
    · have d1 : decide (p < n) = false := by simp; omega
      by_cases hn : N = 1
      · have HS := Lib.hid (show shF (f + 1) N P = 1 by rw [hn]; exact shF_one _ _ (by omega) (by omega))
        have d2 : (n == 1) = true := by simp; omega
        clear hp hn h4 h1 h2
        go_enter Try.func73, Try.ntmps73
        go_wp2_with fail
        go_ret
        exact ⟨ret_i (by rw [HS.out]; rfl), rfl⟩
      · have HS := Lib.hid (shF_step (f := f) h3 (show N ≤ P by omega))
        have d2 : (n == 1) = false := by simp; omega
        have q1 := shares_any f (N - 1) (P - 1) (n - 1) (p - 1) w (by omega) (by omega) (by omega) (by omega) (by omega)
        have q2 := shares_any f N (P - N) n (p - n) w (by omega) (by omega) (by omega) (by omega) (by omega)
        have s1 := shF_big f (N - 1) (P - 1) (by omega)
        have s2 := shF_big f N (P - N) (by omega)
        obtain ⟨a, ha⟩ : ∃ a : Nat, a = shF f (N - 1) (P - 1) := ⟨_, rfl⟩
        obtain ⟨b, hb⟩ : ∃ b : Nat, b = shF f N (P - N) := ⟨_, rfl⟩
        rw [← ha] at q1 s1 HS
        rw [← hb] at q2 s2 HS
        have v1 : IntKind.i64.wrap (n - 1) = n - 1 := wrap_is rfl (by omega) (by omega)
        have v2 : IntKind.i64.wrap (p - 1) = p - 1 := wrap_is rfl (by omega) (by omega)
        have v3 : IntKind.i64.wrap (p - n) = p - n := wrap_is rfl (by omega) (by omega)
        have v4 : IntKind.i64.wrap ((a : Int) + b) = (a : Int) + b := wrap_is rfl (by omega) (by omega)
        clear hp hn h4 ha hb h1 h2
        go_enter Try.func73, Try.ntmps73
        go_wp2_with fail
        refine q1.mono ?_
        rintro e w1 ⟨rfl, rfl⟩
        go_wp2_with fail
        refine q2.mono ?_
        rintro e w1 ⟨rfl, rfl⟩
        go_wp2_with fail
        go_ret
        exact ⟨ret_i (by rw [HS.out]; omega), rfl⟩

set_option maxHeartbeats 1000000 in
theorem l3Shares_any : ∀ (f N P : Nat) (n p : Int) (w : World), n = N → p = P → N + P < f → f ≤ 40 →
    Calls Try.prog 75 #[.int .i64 n, .int .i64 p] w fun e w' => e = .returned (.int .i64 (shF f N P : Nat)) ∧ w = w'
  | 0, N, P, n, p, w, h1, h2, h4, h5 => by omega
  | f + 1, N, P, n, p, w, h1, h2, h4, h5 => by
    by_cases hn : N = 0
    · have d1 : (n == 0) = true := by simp; omega
      by_cases hp : P = 0
      · have HS := Lib.hid (show shF (f + 1) N P = 1 by rw [hn, shF_end, if_pos hp])
        have d2 : (p == 0) = true := by simp; omega
        clear hn hp h4 h1 h2
        go_enter Try.func75, Try.ntmps75
        go_wp2_with fail
        go_ret
        exact ⟨ret_i (by rw [HS.out]; rfl), rfl⟩
      · have HS := Lib.hid (show shF (f + 1) N P = 0 by rw [hn, shF_end, if_neg hp])
        have d2 : (p == 0) = false := by simp; omega
        clear hn hp h4 h1 h2
        go_enter Try.func75, Try.ntmps75
        go_wp2_with fail
        go_ret
        exact ⟨ret_i (by rw [HS.out]; rfl), rfl⟩
    · have d1 : (n == 0) = false := by simp; omega
      by_cases hp : P < N
      · have HS := Lib.hid (shF_none (f := f) (by omega) hp)
        have d2 : decide (p < n) = true := by simp; omega
        clear hn hp h4 h1 h2
        go_enter Try.func75, Try.ntmps75
        go_wp2_with fail
        go_ret
        exact ⟨ret_i (by rw [HS.out]; rfl), rfl⟩
      · have d2 : decide (p < n) = false := by simp; omega
        have HS := Lib.hid (shF_step (f := f) (show 0 < N by omega) (show N ≤ P by omega))
        have q1 := l3Shares_any f (N - 1) (P - 1) (n - 1) (p - 1) w (by omega) (by omega) (by omega) (by omega)
        have q2 := l3Shares_any f N (P - N) n (p - n) w (by omega) (by omega) (by omega) (by omega)
        have s1 := shF_big f (N - 1) (P - 1) (by omega)
        have s2 := shF_big f N (P - N) (by omega)
        obtain ⟨a, ha⟩ : ∃ a : Nat, a = shF f (N - 1) (P - 1) := ⟨_, rfl⟩
        obtain ⟨b, hb⟩ : ∃ b : Nat, b = shF f N (P - N) := ⟨_, rfl⟩
        rw [← ha] at q1 s1 HS
        rw [← hb] at q2 s2 HS
        have v1 : IntKind.i64.wrap (n - 1) = n - 1 := wrap_is rfl (by omega) (by omega)
        have v2 : IntKind.i64.wrap (p - 1) = p - 1 := wrap_is rfl (by omega) (by omega)
        have v3 : IntKind.i64.wrap (p - n) = p - n := wrap_is rfl (by omega) (by omega)
        have v4 : IntKind.i64.wrap ((a : Int) + b) = (a : Int) + b := wrap_is rfl (by omega) (by omega)
        clear hp hn h4 ha hb h1 h2
        go_enter Try.func75, Try.ntmps75
        go_wp2_with fail
        refine q1.mono ?_
        rintro e w1 ⟨rfl, rfl⟩
        go_wp2_with fail
        refine q2.mono ?_
        rintro e w1 ⟨rfl, rfl⟩
        go_wp2_with fail
        go_ret
        exact ⟨ret_i (by rw [HS.out]; omega), rfl⟩

def shB (n p : Int) : Bool := inB n 1 6 && inB p 0 30
def shM (n p : Int) : Int := if shB n p then (shr n.toNat p.toNat : Nat) else 0
theorem shB_true {n p : Int} (h : shB n p = true) : ∃ N P : Nat, n = N ∧ p = P ∧ 1 ≤ N ∧ N ≤ 6 ∧ P ≤ 30 ∧ shM n p = (shr N P : Nat) := by
  have h0 := h
  unfold shB at h
  rw [Bool.and_eq_true] at h
  have h1 := inB_true h.1
  have h2 := inB_true h.2
  exact ⟨n.toNat, p.toNat, by omega, by omega, by omega, by omega, by omega, by unfold shM; rw [if_pos h0]⟩
theorem shM_no {n p : Int} (h : shB n p = false) : shM n p = 0 := by unfold shM; rw [h]; rfl

set_option maxHeartbeats 1000000 in
theorem implPolyShares_any (n p : Int) (w : World) : Calls Try.prog 36 #[.int .i64 n, .int .i64 p] w fun e w' => e = .returned (.tuple #[.int .i64 (shM n p), .bool (shB n p)]) ∧ w = w' := by
  by_cases hb : shB n p = true
  · obtain ⟨N, P, h1, h2, h3, h4, h5, hM⟩ := shB_true hb
    have q := shares_any 40 N P n p w h1 h2 h3 (by omega) (by omega)
    unfold shr at hM
    generalize shF 40 N P = v at q hM
    have HM := Lib.hid hM
    have HB := Lib.hid hb
    have d1 : decide (n < 1) = false := by simp; omega
    have d2 : decide (n > 6) = false := by simp; omega
    have d3 : decide (p < 0) = false := by simp; omega
    have d4 : decide (p > 30) = false := by simp; omega
    clear hM hb h1 h2
    go_enter Try.func36, Try.ntmps36
    go_wp2_with fail
    refine q.mono ?_
    rintro e w1 ⟨rfl, rfl⟩
    go_wp2_with fail
    go_ret2
    exact ⟨ret_ibs HM.out.symm HB.out.symm, rfl⟩
  · rw [Bool.not_eq_true] at hb
    have HM := Lib.hid (shM_no hb)
    have HB := Lib.hid hb
    unfold shB inB at hb
    by_cases h1 : n < 1
    · have d1 : decide (n < 1) = true := by simpa using h1
      clear hb
      go_enter Try.func36, Try.ntmps36
      go_wp2_with fail
      go_ret2
      exact ⟨ret_ibs HM.out.symm HB.out.symm, rfl⟩
    · by_cases h2 : n > 6
      · have d2 : decide (n > 6) = true := by simpa using h2
        clear hb
        go_enter Try.func36, Try.ntmps36
        go_wp2_with fail
        go_ret2
        exact ⟨ret_ibs HM.out.symm HB.out.symm, rfl⟩
      · by_cases h3 : p < 0
        · have d3 : decide (p < 0) = true := by simpa using h3
          clear hb
          go_enter Try.func36, Try.ntmps36
          go_wp2_with fail
          go_ret2
          exact ⟨ret_ibs HM.out.symm HB.out.symm, rfl⟩
        · have h4 : p > 30 := by simp at hb; omega
          have d4 : decide (p > 30) = true := by simpa using h4
          clear hb
          go_enter Try.func36, Try.ntmps36
          go_wp2_with fail
          go_ret2
          exact ⟨ret_ibs HM.out.symm HB.out.symm, rfl⟩

set_option maxHeartbeats 1000000 in
theorem specPolyShares_any (n p : Int) (w : World) : Calls Try.prog 43 #[.int .i64 n, .int .i64 p] w fun e w' => e = .returned (.tuple #[.int .i64 (shM n p), .bool (shB n p)]) ∧ w = w' := by
  by_cases hb : shB n p = true
  · obtain ⟨N, P, h1, h2, h3, h4, h5, hM⟩ := shB_true hb
    have q := l3Shares_any 40 N P n p w h1 h2 (by omega) (by omega)
    unfold shr at hM
    generalize shF 40 N P = v at q hM
    have HM := Lib.hid hM
    have HB := Lib.hid hb
    have d1 : inB n 1 6 = true := inB_mk (by omega) (by omega)
    have d2 : inB p 0 30 = true := inB_mk (by omega) (by omega)
    have D1 := Lib.hid d1
    have D2 := Lib.hid d2
    clear hM hb d1 d2 h1 h2
    go_enter Try.func43, Try.ntmps43
    go_wp2_with fail
    refine (l6In_is D1.out _).mono ?_
    rintro e w1 ⟨rfl, rfl⟩
    go_wp2_with fail
    refine (l6In_is D2.out _).mono ?_
    rintro e w1 ⟨rfl, rfl⟩
    go_wp2_with fail
    refine q.mono ?_
    rintro e w1 ⟨rfl, rfl⟩
    go_wp2_with fail
    go_ret2
    exact ⟨ret_ibs HM.out.symm HB.out.symm, rfl⟩
  · rw [Bool.not_eq_true] at hb
    have HM := Lib.hid (shM_no hb)
    have HB := Lib.hid hb
    unfold shB at hb
    cases h1 : inB n 1 6 with
    | false =>
      clear hb
      go_enter Try.func43, Try.ntmps43
      go_wp2_with fail
      refine (l6In_is h1 _).mono ?_
      rintro e w1 ⟨rfl, rfl⟩
      go_wp2_with fail
      go_ret2
      exact ⟨ret_ibs HM.out.symm HB.out.symm, rfl⟩
    | true =>
      have h2 : inB p 0 30 = false := by rw [h1] at hb; exact hb
      clear hb
      go_enter Try.func43, Try.ntmps43
      go_wp2_with fail
      refine (l6In_is h1 _).mono ?_
      rintro e w1 ⟨rfl, rfl⟩
      go_wp2_with fail
      refine (l6In_is h2 _).mono ?_
      rintro e w1 ⟨rfl, rfl⟩
      go_wp2_with fail
      go_ret2
      exact ⟨ret_ibs HM.out.symm HB.out.symm, rfl⟩

/-! Bundles with a great length off -/
theorem rest_rel {P x k : Nat} (hx : x = (P + 1) / 2 + k) (h : x ≤ P) : k < P + 1 - (P + 1) / 2 := by omega

set_option maxHeartbeats 1000000 in
theorem implPolyRest_any (n p : Int) (w : World) : Calls Try.prog 32 #[.int .i64 n, .int .i64 p] w fun e w' => e = .returned (.tuple #[.int .i64 (rstM n p), .bool (mayB n p)]) ∧ w = w' := by
  by_cases hb : mayB n p = true
  · obtain ⟨N, P, rfl, rfl, h3, h4, h5, h6⟩ := mayB_true hb
    have HM := Lib.hid ((rstM_yes hb).trans (poly_facts h3 h4 h5 h6).2.1.symm)
    have HB := Lib.hid hb
    have q0 := shares_any 40 N P N P w rfl rfl (by omega) (by omega) (by omega)
    have s0 : restTo N P 0 = (shF 40 N P : Nat) := rfl
    have e0 : ((P : Int) + 1) / 2 = (((P + 1) / 2 : Nat) : Int) := by omega
    generalize shF 40 N P = v0 at q0 s0
    have E0 := Lib.hid e0
    have S0 := Lib.hid s0
    clear hb s0 e0
    go_enter Try.func32, Try.ntmps32
    go_wp2_with fail
    refine (implMay_any _ _ _).mono ?_
    rintro e w1 ⟨rfl, rfl⟩
    rw [HB.out]
    go_wp2_with fail
    refine q0.mono ?_
    rintro e w1 ⟨rfl, rfl⟩
    go_wp2_with fail
    go_loopw [6, 7] (fun r x wr => ∃ k : Nat, k ≤ P + 1 - (P + 1) / 2 ∧ x = .int .i64 ((((P + 1) / 2 : Nat) : Int) + k) ∧ r = .int .i64 (restTo N P k) ∧ w = wr) (fun _ x _ => (P + 1 - intOf x).toNat)
    case atStart => exact ⟨0, Nat.zero_le _, by rw [E0.out]; simp, by rw [S0.out], rfl⟩
    case round =>
      obtain ⟨k, hk, rfl, rfl, rfl⟩ := hrel
      have hbd := restTo_bd N P k
      have hst : restTo N P (k + 1) = restTo N P k - (shF 40 (N - 1) (P - ((P + 1) / 2 + k)) : Nat) := rfl
      obtain ⟨x, hx⟩ : ∃ x : Nat, x = (P + 1) / 2 := ⟨_, rfl⟩
      rw [← hx] at hk hst ⊢
      obtain ⟨r, hr⟩ : ∃ r, r = restTo N P k := ⟨_, rfl⟩
      rw [← hr] at hst hbd ⊢
      have HX := Lib.hid hx
      have HRR := Lib.hid hr
      clear hx hr
      by_cases hlt : x + k ≤ P
      · have d1 : decide ((x : Int) + k ≤ P) = true := by simp; omega
        have q := shares_any 40 (N - 1) (P - (x + k)) ((N : Int) - 1) ((P : Int) - ((x : Int) + k)) w (by omega) (by omega) (by omega) (by omega) (by omega)
        have s1 := shF_big 40 (N - 1) (P - (x + k)) (by omega)
        generalize shF 40 (N - 1) (P - (x + k)) = b at *
        have HST := Lib.hid hst
        have v1 : IntKind.i64.wrap ((N : Int) - 1) = (N : Int) - 1 := wrap_is rfl (by omega) (by omega)
        have v2 : IntKind.i64.wrap ((P : Int) - ((x : Int) + k)) = (P : Int) - ((x : Int) + k) := wrap_is rfl (by omega) (by omega)
        have v3 : IntKind.i64.wrap (r - (b : Int)) = r - (b : Int) := wrap_is rfl (by omega) (by omega)
        clear hst q0
        go_wp2_with fail
        refine q.mono ?_
        rintro e w1 ⟨rfl, rfl⟩
        go_wp2_with fail
        go_roundw
        case rel => exact ⟨k + 1, by omega, by go_num, by rw [HST.out], trivial⟩
        case measure => simp [intOf]; omega
      · have d1 : decide ((x : Int) + k ≤ P) = false := by simp; omega
        have e : k = P + 1 - x := by omega
        have HR := Lib.hid (show r = restN N P by rw [HRR.out, e, HX.out]; rfl)
        clear hst q0
        go_wp2_with fail
        go_ret2
        exact ⟨ret_ibs (HR.out.trans HM.out.symm) HB.out.symm, rfl⟩
  · rw [Bool.not_eq_true] at hb
    have HM := Lib.hid (rstM_no hb)
    have HB := Lib.hid hb
    clear hb
    go_enter Try.func32, Try.ntmps32
    go_wp2_with fail
    refine (implMay_any _ _ _).mono ?_
    rintro e w1 ⟨rfl, rfl⟩
    rw [HB.out]
    go_wp2_with fail
    go_ret2
    exact ⟨ret_ibs HM.out.symm HB.out.symm, rfl⟩

set_option maxHeartbeats 1000000 in
theorem specPolyRest_any (n p : Int) (w : World) : Calls Try.prog 35 #[.int .i64 n, .int .i64 p] w fun e w' => e = .returned (.tuple #[.int .i64 (rstM n p), .bool (mayB n p)]) ∧ w = w' := by
  by_cases hb : mayB n p = true
  · obtain ⟨N, P, rfl, rfl, h3, h4, h5, h6⟩ := mayB_true hb
    have HM := Lib.hid ((rstM_yes hb).trans (poly_facts h3 h4 h5 h6).2.1.symm)
    have HB := Lib.hid hb
    have q0 := l3Shares_any 40 N P N P w rfl rfl (by omega) (by omega)
    have s0 : restTo N P 0 = (shF 40 N P : Nat) := rfl
    have e0 : ((P : Int) + 1) / 2 = (((P + 1) / 2 : Nat) : Int) := by omega
    generalize shF 40 N P = v0 at q0 s0
    have E0 := Lib.hid e0
    have S0 := Lib.hid s0
    clear hb s0 e0
    go_enter Try.func35, Try.ntmps35
    go_wp2_with fail
    refine (l3Given_any _ _ _).mono ?_
    rintro e w1 ⟨rfl, rfl⟩
    rw [HB.out]
    go_wp2_with fail
    refine q0.mono ?_
    rintro e w1 ⟨rfl, rfl⟩
    go_wp2_with fail
    go_loopw [6, 7] (fun r x wr => ∃ k : Nat, k ≤ P + 1 - (P + 1) / 2 ∧ x = .int .i64 ((((P + 1) / 2 : Nat) : Int) + k) ∧ r = .int .i64 (restTo N P k) ∧ w = wr) (fun _ x _ => (P + 1 - intOf x).toNat)
    case atStart => exact ⟨0, Nat.zero_le _, by rw [E0.out]; simp, by rw [S0.out], rfl⟩
    case round =>
      obtain ⟨k, hk, rfl, rfl, rfl⟩ := hrel
      have hbd := restTo_bd N P k
      have hst : restTo N P (k + 1) = restTo N P k - (shF 40 (N - 1) (P - ((P + 1) / 2 + k)) : Nat) := rfl
      obtain ⟨x, hx⟩ : ∃ x : Nat, x = (P + 1) / 2 := ⟨_, rfl⟩
      rw [← hx] at hk hst ⊢
      obtain ⟨r, hr⟩ : ∃ r, r = restTo N P k := ⟨_, rfl⟩
      rw [← hr] at hst hbd ⊢
      have HX := Lib.hid hx
      have HRR := Lib.hid hr
      clear hx hr
      by_cases hlt : x + k ≤ P
      · have d1 : decide ((x : Int) + k ≤ P) = true := by simp; omega
        have q := l3Shares_any 40 (N - 1) (P - (x + k)) ((N : Int) - 1) ((P : Int) - ((x : Int) + k)) w (by omega) (by omega) (by omega) (by omega)
        have s1 := shF_big 40 (N - 1) (P - (x + k)) (by omega)
        generalize shF 40 (N - 1) (P - (x + k)) = b at *
        have HST := Lib.hid hst
        have v1 : IntKind.i64.wrap ((N : Int) - 1) = (N : Int) - 1 := wrap_is rfl (by omega) (by omega)
        have v2 : IntKind.i64.wrap ((P : Int) - ((x : Int) + k)) = (P : Int) - ((x : Int) + k) := wrap_is rfl (by omega) (by omega)
        have v3 : IntKind.i64.wrap (r - (b : Int)) = r - (b : Int) := wrap_is rfl (by omega) (by omega)
        clear hst q0
        go_wp2_with fail
        refine q.mono ?_
        rintro e w1 ⟨rfl, rfl⟩
        go_wp2_with fail
        go_roundw
        case rel => exact ⟨k + 1, by omega, by go_num, by rw [HST.out], trivial⟩
        case measure => simp [intOf]; omega
      · have d1 : decide ((x : Int) + k ≤ P) = false := by simp; omega
        have e : k = P + 1 - x := by omega
        have HR := Lib.hid (show r = restN N P by rw [HRR.out, e, HX.out]; rfl)
        clear hst q0
        go_wp2_with fail
        go_ret2
        exact ⟨ret_ibs (HR.out.trans HM.out.symm) HB.out.symm, rfl⟩
  · rw [Bool.not_eq_true] at hb
    have HM := Lib.hid (rstM_no hb)
    have HB := Lib.hid hb
    clear hb
    go_enter Try.func35, Try.ntmps35
    go_wp2_with fail
    refine (l3Given_any _ _ _).mono ?_
    rintro e w1 ⟨rfl, rfl⟩
    rw [HB.out]
    go_wp2_with fail
    go_ret2
    exact ⟨ret_ibs HM.out.symm HB.out.symm, rfl⟩
end Go.Proofs.Ytliplbifgldjeaa
