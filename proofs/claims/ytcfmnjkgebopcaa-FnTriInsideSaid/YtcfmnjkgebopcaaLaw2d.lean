/- The walks of the laws FnTriGrowBack, FnTriInside. -/
import Derived.Test.YtcfmnjkgebopcaaLaw2a
import Derived.Test.YtcfmnjkgebopcaaInside
namespace Go.Proofs.Ytcfmnjkgebopcaa
open Go.RowKit Go.Sort

theorem rnd_back {p : Int} (h : inB p 1 60 = true) (h2 : p % 2 = 1) (h3 : p ≤ 57) : inB (p + 3) 1 60 = true ∧ rndM (p + 3) = rndM p := by
  have hb := inB_true h
  have h4 : inB (p + 3) 1 60 = true := inB_mk (by omega) (by omega)
  exact ⟨h4, by rw [rndM_odd h h2, rndM_even h4 (by omega)]⟩

set_option maxRecDepth 100000 in
set_option maxHeartbeats 4000000 in
theorem fnTriGrowBack_walk (A0 : Option Addr) (n0 c0 : Nat) (z0 : List Int) (w : World) (h0 : RdB w A0 n0 z0) (k0 : WfL .u8 z0) (q0 : n0 ≤ c0) :
    Calls Try.prog 22 #[.slice A0 n0 c0] w fun e w' => e = .returned (.bool true) ∧ Below w.heap.size w w' := by
  by_cases big : n0 ≤ 1048576
  rotate_left
  · go_enter Try.func22, Try.ntmps22
    go_wp2_with fail
    go_ret
    exact ⟨rfl, Below.refl _ _⟩
  go_enter Try.func22, Try.ntmps22
  go_wp2_with fail
  refine (drawTriCount_any A0 n0 c0 z0 _ h0 (bytes_of k0) big q0).mono ?_
  rintro e w1 ⟨p, rfl, hp1, hp2, b1⟩
  go_wp2_with fail
  refine (implTriCount_any p _).mono ?_
  rintro e w2 ⟨rfl, b2⟩
  have b3 := below_then b1 b2
  go_wp2_with fail
  refine (specTriCount_any p _).mono ?_
  rintro e w3 ⟨rfl, b4⟩
  have b5 := below_then b3 b4
  have v0 : IntKind.i64.wrap (p + 3) = p + 3 := wrap_is rfl (by omega) (by omega)
  by_cases hs : inB p 1 60 = true
  · have hb := inB_true hs
    rcases (show p % 2 = 0 ∨ p % 2 = 1 by omega) with h2 | h2
    · have hd : (Int.tmod p 2 == 0) = true := by rw [Int.tmod_eq_emod_of_nonneg (by omega)]; simpa using h2
      have hd' : (p % 2 == 0) = true := by simpa using h2
      obtain ⟨r, hr⟩ : ∃ r, r = rndM p := ⟨_, rfl⟩
      rw [← hr, hs]
      clear hr hs
      go_wp2_with fail
      refine (implTriCount_any (p + 3) _).mono ?_
      rintro e w4 ⟨rfl, b6⟩
      obtain ⟨q, hq⟩ : ∃ q, q = inB (p + 3) 1 60 := ⟨_, rfl⟩
      obtain ⟨x, hx⟩ : ∃ x, x = rndM (p + 3) := ⟨_, rfl⟩
      rw [← hq, ← hx]
      clear hq hx
      go_wp2_with fail
      go_ret
      exact ⟨rfl, below_then b5 b6⟩
    · have hd : (Int.tmod p 2 == 0) = false := by rw [Int.tmod_eq_emod_of_nonneg (by omega)]; simp; omega
      have hd' : (p % 2 == 0) = false := by simp; omega
      by_cases h3 : p > 57
      · have hd3 : decide (p > 57) = true := by simpa using h3
        obtain ⟨r, hr⟩ : ∃ r, r = rndM p := ⟨_, rfl⟩
        rw [← hr, hs]
        clear hr hs
        go_wp2_with fail
        refine (implTriCount_any (p + 3) _).mono ?_
        rintro e w4 ⟨rfl, b6⟩
        obtain ⟨q, hq⟩ : ∃ q, q = inB (p + 3) 1 60 := ⟨_, rfl⟩
        obtain ⟨x, hx⟩ : ∃ x, x = rndM (p + 3) := ⟨_, rfl⟩
        rw [← hq, ← hx]
        clear hq hx
        go_wp2_with fail
        go_ret
        exact ⟨rfl, below_then b5 b6⟩
      · have hd3 : decide (p > 57) = false := by simpa using h3
        have H3 := Lib.hid (rnd_back hs h2 (by omega))
        obtain ⟨r, hr⟩ : ∃ r, r = rndM p := ⟨_, rfl⟩
        rw [← hr] at H3 ⊢
        rw [hs]
        clear hr hs
        go_wp2_with fail
        refine (implTriCount_any (p + 3) _).mono ?_
        rw [H3.out.1, H3.out.2]
        rintro e w4 ⟨rfl, b6⟩
        go_wp2_with fail
        go_ret
        exact ⟨rfl, below_then b5 b6⟩
  · rw [Bool.not_eq_true] at hs
    rw [hs]
    obtain ⟨r, hr⟩ : ∃ r, r = rndM p := ⟨_, rfl⟩
    rw [← hr]
    clear hr hs
    go_wp2_with fail
    go_ret
    exact ⟨rfl, b5⟩

theorem ins_next {n : Int} (h : inB n 1 20 = true) (h2 : n ≠ 1) : inB (n - 1) 1 20 = true ∧ insM n = insM (n - 1) + (n + 1) * (n + 1) / 4 ∧ 0 ≤ insM (n - 1) ∧ insM (n - 1) ≤ 8000 := by
  have hb := inB_true h
  have h4 : inB (n - 1) 1 20 = true := inB_mk (by omega) (by omega)
  obtain ⟨i, rfl⟩ : ∃ i : Nat, n = (i : Int) + 1 := ⟨(n - 1).toNat, by omega⟩
  have e : (i : Int) + 1 - 1 = i := by omega
  rw [e] at h4 ⊢
  have ht := ins_step_table ⟨i, by omega⟩
  have hbd := insC_bd i (by omega)
  refine ⟨h4, ?_, ?_, ?_⟩
  · rw [insM_yes h4]
    have := insM_yes (n := i + 1) (by simpa using h)
    rw [show (((i + 1 : Nat) : Int)) = (i : Int) + 1 by simp] at this
    rw [this]
    dsimp only at ht
    rw [ht, show (i : Int) + 1 + 1 = (i : Int) + 2 by omega]
  · rw [insM_yes h4]; exact hbd.1
  · rw [insM_yes h4]; omega
theorem ins_one : insM 1 = 1 := by decide +kernel

theorem drawTriInside_any (A : Option Addr) (n c : Nat) (bs : List Int) (w : World) (h : RdB w A n bs) (hb : Bytes bs) (hn : n ≤ 1048576) (hc : n ≤ c) :
    Calls Try.prog 86 #[.slice A n c] w (DrawnI w) := by
  go_enter Try.func86, Try.ntmps86
  go_wp2_with fail
  refine (l6Open_any A n c bs _ h hb hn hc).mono ?_
  rintro e w1 ⟨g, rfl, _, _, r1, _⟩
  go_wp2_with fail
  refine (pick_any w g _ 20 _ r1 (by omega) (by omega) (by omega)).mono ?_
  rintro e w2 ⟨v2, rfl, _, hv2, r2, _⟩
  have hv2 := hv2 (by omega)
  go_wp2_with fail
  refine (pick_any w g _ 24 _ r2 (by omega) (by omega) (by omega)).mono ?_
  rintro e w3 ⟨v3, rfl, _, hv3, r3, _⟩
  have hv3 := hv3 (by omega)
  go_wp2_with fail
  refine (pick_any w g _ 24 _ r3 (by omega) (by omega) (by omega)).mono ?_
  rintro e w4 ⟨v4, rfl, _, hv4, r4, _⟩
  have hv4 := hv4 (by omega)
  go_wp2_with fail
  go_ret
  exact ⟨_, rfl, by omega, by omega, r4.bel_⟩

set_option maxRecDepth 100000 in
set_option maxHeartbeats 4000000 in
theorem fnTriInside_walk (A0 : Option Addr) (n0 c0 : Nat) (z0 : List Int) (w : World) (h0 : RdB w A0 n0 z0) (k0 : WfL .u8 z0) (q0 : n0 ≤ c0) :
    Calls Try.prog 19 #[.slice A0 n0 c0] w fun e w' => e = .returned (.bool true) ∧ Below w.heap.size w w' := by
  by_cases big : n0 ≤ 1048576
  rotate_left
  · go_enter Try.func19, Try.ntmps19
    go_wp2_with fail
    go_ret
    exact ⟨rfl, Below.refl _ _⟩
  go_enter Try.func19, Try.ntmps19
  go_wp2_with fail
  refine (drawTriInside_any A0 n0 c0 z0 _ h0 (bytes_of k0) big q0).mono ?_
  rintro e w1 ⟨p, rfl, hp1, hp2, b1⟩
  go_wp2_with fail
  refine (implTriInside_any p _).mono ?_
  rintro e w2 ⟨rfl, b2⟩
  have b3 := below_then b1 b2
  go_wp2_with fail
  refine (specTriInside_any p _).mono ?_
  rintro e w3 ⟨rfl, b4⟩
  have b5 := below_then b3 b4
  have v0 : IntKind.i64.wrap (p - 1) = p - 1 := wrap_is rfl (by omega) (by omega)
  by_cases hs : inB p 1 20 = true
  · have hb := inB_true hs
    by_cases h1 : p = 1
    · subst h1
      rw [ins_one, hs]
      clear hs
      go_wp2_with fail
      refine (implTriInside_any _ _).mono ?_
      rintro e w4 ⟨rfl, b6⟩
      generalize insM (1 - 1) = x
      generalize inB (1 - 1) 1 20 = q
      go_wp2_with fail
      go_ret
      exact ⟨rfl, below_then b5 b6⟩
    · have hd : (p == 1) = false := by simpa using h1
      have H3 := Lib.hid (ins_next hs h1)
      have q1 := mul_bd (a := p + 1) (b := p + 1) (A := 21) (B := 21) (by omega) (by omega) (by omega) (by omega)
      have v1 : IntKind.i64.wrap (p + 1) = p + 1 := wrap_is rfl (by omega) (by omega)
      have v2 : IntKind.i64.wrap ((p + 1) * (p + 1)) = (p + 1) * (p + 1) := wrap_is rfl (by omega) (by omega)
      have v3 : Int.tdiv ((p + 1) * (p + 1)) 4 = (p + 1) * (p + 1) / 4 := Int.tdiv_eq_ediv_of_nonneg q1.1
      have v4 : IntKind.i64.wrap ((p + 1) * (p + 1) / 4) = (p + 1) * (p + 1) / 4 := wrap_is rfl (by omega) (by omega)
      obtain ⟨r, hr⟩ : ∃ r, r = insM p := ⟨_, rfl⟩
      obtain ⟨x, hx⟩ : ∃ x, x = insM (p - 1) := ⟨_, rfl⟩
      rw [← hr] at H3 ⊢
      rw [← hx] at H3
      have bx := H3.out.2.2
      have v5 : IntKind.i64.wrap (x + (p + 1) * (p + 1) / 4) = x + (p + 1) * (p + 1) / 4 := wrap_is rfl (by omega) (by omega)
      have hI := fun W => implTriInside_any (p - 1) W
      rw [← hx, H3.out.1] at hI
      have HR := Lib.hid H3.out.2.1
      rw [hs]
      clear hr hs hx
      go_wp2_with fail
      refine (hI _).mono ?_
      rintro e w4 ⟨rfl, b6⟩
      rw [HR.out]
      go_wp2_with fail
      go_ret
      exact ⟨rfl, below_then b5 b6⟩
  · rw [Bool.not_eq_true] at hs
    rw [hs]
    obtain ⟨r, hr⟩ : ∃ r, r = insM p := ⟨_, rfl⟩
    rw [← hr]
    clear hr hs
    go_wp2_with fail
    go_ret
    exact ⟨rfl, b5⟩
end Go.Proofs.Ytcfmnjkgebopcaa
