/- Contracts of chapter 2: TriKind, TriGrow, TriHalf, TriRound. -/
import Derived.Test.YtcfmnjkgebopcaaTri2
import Derived.Test.YtcfmnjkgebopcaaPut
namespace Go.Proofs.Ytcfmnjkgebopcaa
open Go.RowKit Go.Sort

def kindM (a b c : Int) : ByteArray := if c * c < a * a + b * b then ⟨#[97]⟩ else if c * c = a * a + b * b then ⟨#[114]⟩ else ⟨#[111]⟩
noncomputable def kndM (xs : List Int) : ByteArray := if triLB xs then kindM (xs.getD 0 0) (xs.getD 1 0) (xs.getD 2 0) else ⟨#[]⟩
theorem kndM_yes {xs : List Int} (h : triLB xs = true) : kndM xs = kindM (xs.getD 0 0) (xs.getD 1 0) (xs.getD 2 0) := by unfold kndM; rw [if_pos h]
theorem kndM_no {xs : List Int} (h : triLB xs = false) : kndM xs = ⟨#[]⟩ := by unfold kndM; rw [h]; rfl
theorem kind_a {a b c : Int} (h : c * c < a * a + b * b) : kindM a b c = ⟨#[97]⟩ := by unfold kindM; rw [if_pos h]
theorem kind_r {a b c : Int} (h : c * c = a * a + b * b) : kindM a b c = ⟨#[114]⟩ := by unfold kindM; rw [if_neg (by omega), if_pos h]
theorem kind_o {a b c : Int} (h : a * a + b * b < c * c) : kindM a b c = ⟨#[111]⟩ := by unfold kindM; rw [if_neg (by omega), if_neg (by omega)]
theorem sq_bd {a : Int} (h1 : 1 ≤ a) (h2 : a ≤ 60) : 0 ≤ a * a ∧ a * a ≤ 3600 := mul_bd (by omega) h2 (by omega) h2
set_option maxHeartbeats 2000000 in
theorem implTriKind_any (A : Option Addr) (n c : Nat) (xs : List Int) (w : World) (h : Rd w A n xs) (hn : n ≤ 1048576) :
    Calls Try.prog 75 #[.slice A n c] w fun e w' => e = .returned (.tuple #[.string (kndM xs), .bool (triLB xs)]) ∧ Below w.heap.size w w' := by
  by_cases ht : triLB xs = true
  · have hM := kndM_yes ht
    have HT := Lib.hid ht
    obtain ⟨h1, h2, h3, h4, h5⟩ := (triLB_yes ht).2.2
    have hY := triangleOf_yes A n c xs w h hn ht
    obtain ⟨x, ex⟩ : ∃ x, x = xs.getD 0 0 := ⟨_, rfl⟩
    obtain ⟨y, ey⟩ : ∃ y, y = xs.getD 1 0 := ⟨_, rfl⟩
    obtain ⟨z, ez⟩ : ∃ z, z = xs.getD 2 0 := ⟨_, rfl⟩
    rw [← ex, ← ey, ← ez] at hM hY
    rw [← ex] at h1 h2 h5
    rw [← ey] at h2 h3 h5
    rw [← ez] at h3 h4 h5
    have HM := Lib.hid hM
    clear ht hM h ex ey ez
    have s1 := sq_bd h1 (by omega)
    have s2 := sq_bd (a := y) (by omega) (by omega)
    have s3 := sq_bd (a := z) (by omega) h4
    rcases (show z * z < x * x + y * y ∨ z * z = x * x + y * y ∨ x * x + y * y < z * z by omega) with hk | hk | hk
    · have HK := Lib.hid (kind_a hk)
      go_enter Try.func75, Try.ntmps75
      go_wp2_with fail
      refine hY.mono ?_
      rintro e w1 ⟨rfl, b1⟩
      have b3 := below_alloc b1 (.cells #[.int .i64 x, .int .i64 y, .int .i64 z] 63)
      go_wp2_with fail
      go_quiet (fail)
      go_wp2_with fail
      go_ret2
      exact ⟨by rw [HM.out, HT.out, HK.out]; rfl, below_drewN b3 _⟩
    · have HK := Lib.hid (kind_r hk)
      have hk1 : ¬ z * z < x * x + y * y := by omega
      go_enter Try.func75, Try.ntmps75
      go_wp2_with fail
      refine hY.mono ?_
      rintro e w1 ⟨rfl, b1⟩
      have b3 := below_alloc b1 (.cells #[.int .i64 x, .int .i64 y, .int .i64 z] 63)
      go_wp2_with fail
      go_quiet (fail)
      go_wp2_with fail
      go_ret2
      exact ⟨by rw [HM.out, HT.out, HK.out]; rfl, below_drewN b3 _⟩
    · have HK := Lib.hid (kind_o hk)
      have hk1 : ¬ z * z < x * x + y * y := by omega
      have hk2 : ¬ z * z = x * x + y * y := by omega
      go_enter Try.func75, Try.ntmps75
      go_wp2_with fail
      refine hY.mono ?_
      rintro e w1 ⟨rfl, b1⟩
      have b3 := below_alloc b1 (.cells #[.int .i64 x, .int .i64 y, .int .i64 z] 63)
      go_wp2_with fail
      go_quiet (fail)
      go_wp2_with fail
      go_ret2
      exact ⟨by rw [HM.out, HT.out, HK.out]; rfl, below_drewN b3 _⟩
  · rw [Bool.not_eq_true] at ht
    have HM := Lib.hid (kndM_no ht)
    have HT := Lib.hid ht
    clear ht
    go_enter Try.func75, Try.ntmps75
    go_wp2_with fail
    refine (triangleOf_no _ _ _ xs _ h hn HT.out).mono ?_
    rintro e w1 ⟨rfl, b1⟩
    go_wp2_with fail
    go_ret2
    exact ⟨by rw [HM.out, HT.out]; rfl, below_alloc b1 _⟩
set_option maxHeartbeats 2000000 in
theorem specTriKind_any (A : Option Addr) (n c : Nat) (xs : List Int) (w : World) (h : Rd w A n xs) (hn : n ≤ 1048576) :
    Calls Try.prog 76 #[.slice A n c] w fun e w' => e = .returned (.tuple #[.string (kndM xs), .bool (triLB xs)]) ∧ Below w.heap.size w w' := by
  by_cases ht : triLB xs = true
  · have hM := kndM_yes ht
    have HT := Lib.hid ht
    obtain ⟨hl, _, hp⟩ := triLB_yes ht
    obtain rfl : n = 3 := by rw [← h.1]; exact hl
    obtain ⟨b, off, rfl, hbl, hc⟩ := h.2 (by omega)
    have q0 := hc 0 (by omega)
    have q1 := hc 1 (by omega)
    have q2 := hc 2 (by omega)
    obtain ⟨x, ex⟩ : ∃ x, x = xs.getD 0 0 := ⟨_, rfl⟩
    obtain ⟨y, ey⟩ : ∃ y, y = xs.getD 1 0 := ⟨_, rfl⟩
    obtain ⟨z, ez⟩ : ∃ z, z = xs.getD 2 0 := ⟨_, rfl⟩
    rw [← ex] at q0 hM hp
    rw [← ey] at q1 hM hp
    rw [← ez] at q2 hM hp
    have HM := Lib.hid hM
    obtain ⟨h1, h2, h3, h4, h5⟩ := hp
    have s1 := sq_bd h1 (by omega)
    have s2 := sq_bd (a := y) (by omega) (by omega)
    have s3 := sq_bd (a := z) (by omega) h4
    clear ht ex ey ez hc hl hM
    rcases (show z * z < x * x + y * y ∨ z * z = x * x + y * y ∨ x * x + y * y < z * z by omega) with hk | hk | hk
    · have HK := Lib.hid (kind_a hk)
      have hk1 : x * x + y * y - z * z > 0 := by omega
      go_enter Try.func76, Try.ntmps76
      go_wp2_with fail
      refine (l2Tri_any _ _ _ xs _ h hn).mono ?_
      rintro e w1 ⟨rfl, b1⟩
      rw [HT.out]
      have k0 := (b1.cell (p := ⟨b, off, none⟩) hbl).trans q0
      have k1 := (b1.cell (p := ⟨b, off + 1, none⟩) hbl).trans q1
      have k2 := (b1.cell (p := ⟨b, off + 2, none⟩) hbl).trans q2
      go_wp2_with fail
      go_quiet (fail)
      go_wp2_with fail
      go_ret2
      exact ⟨by rw [HM.out, HT.out, HK.out]; rfl, below_drewN b1 _⟩
    · have HK := Lib.hid (kind_r hk)
      have hk1 : x * x + y * y - z * z = 0 := by omega
      go_enter Try.func76, Try.ntmps76
      go_wp2_with fail
      refine (l2Tri_any _ _ _ xs _ h hn).mono ?_
      rintro e w1 ⟨rfl, b1⟩
      rw [HT.out]
      have k0 := (b1.cell (p := ⟨b, off, none⟩) hbl).trans q0
      have k1 := (b1.cell (p := ⟨b, off + 1, none⟩) hbl).trans q1
      have k2 := (b1.cell (p := ⟨b, off + 2, none⟩) hbl).trans q2
      go_wp2_with fail
      go_quiet (fail)
      go_wp2_with fail
      go_ret2
      exact ⟨by rw [HM.out, HT.out, HK.out]; rfl, below_drewN b1 _⟩
    · have HK := Lib.hid (kind_o hk)
      have hk1 : ¬ x * x + y * y - z * z > 0 := by omega
      have hk2 : ¬ x * x + y * y - z * z = 0 := by omega
      have hk3 : ((x * x + y * y - z * z) == 0) = false := by simp; omega
      go_enter Try.func76, Try.ntmps76
      go_wp2_with fail
      refine (l2Tri_any _ _ _ xs _ h hn).mono ?_
      rintro e w1 ⟨rfl, b1⟩
      rw [HT.out]
      have k0 := (b1.cell (p := ⟨b, off, none⟩) hbl).trans q0
      have k1 := (b1.cell (p := ⟨b, off + 1, none⟩) hbl).trans q1
      have k2 := (b1.cell (p := ⟨b, off + 2, none⟩) hbl).trans q2
      go_wp2_with fail
      go_quiet (fail)
      go_wp2_with fail
      go_ret2
      exact ⟨by rw [HM.out, HT.out, HK.out]; rfl, below_drewN b1 _⟩
  · rw [Bool.not_eq_true] at ht
    have HM := Lib.hid (kndM_no ht)
    have HT := Lib.hid ht
    clear ht
    go_enter Try.func76, Try.ntmps76
    go_wp2_with fail
    refine (l2Tri_any _ _ _ xs _ h hn).mono ?_
    rintro e w1 ⟨rfl, b1⟩
    rw [HT.out]
    go_wp2_with fail
    go_ret2
    exact ⟨by rw [HM.out, HT.out]; rfl, b1⟩

/-- TriRound's answer. -/
def rndM (p : Int) : Int := if inB p 1 60 then (if p % 2 = 1 then ((p + 3) * (p + 3) + 24) / 48 else (p * p + 24) / 48) else 0
theorem rndM_odd {p : Int} (h : inB p 1 60 = true) (h2 : p % 2 = 1) : rndM p = ((p + 3) * (p + 3) + 24) / 48 := by unfold rndM; rw [if_pos h, if_pos h2]
theorem rndM_even {p : Int} (h : inB p 1 60 = true) (h2 : p % 2 = 0) : rndM p = (p * p + 24) / 48 := by unfold rndM; rw [if_pos h, if_neg (by omega)]
theorem rndM_no {p : Int} (h : inB p 1 60 = false) : rndM p = 0 := by unfold rndM; rw [h]; rfl
theorem sq63 {p : Int} (h1 : 1 ≤ p) (h2 : p ≤ 63) : 0 ≤ p * p ∧ p * p ≤ 3969 := mul_bd (by omega) h2 (by omega) h2
set_option maxHeartbeats 1000000 in
theorem implTriRound_any (p : Int) (w : World) : Calls Try.prog 71 #[.int .i64 p] w fun e w' => e = .returned (.tuple #[.int .i64 (rndM p), .bool (inB p 1 60)]) ∧ Below w.heap.size w w' := by
  by_cases hin : inB p 1 60 = true
  · have hb := inB_true hin
    have HI := Lib.hid hin
    rcases (show p % 2 = 1 ∨ p % 2 = 0 by omega) with h2 | h2
    · have HM := Lib.hid (rndM_odd hin h2)
      have sq := sq63 (p := p + 3) (by omega) (by omega)
      have hd : (p % 2 == 1) = true := by simp; omega
      clear hin
      go_enter Try.func71, Try.ntmps71
      go_wp2_with fail
      go_ret2
      exact ⟨by rw [HM.out, HI.out]; rfl, Below.refl _ _⟩
    · have HM := Lib.hid (rndM_even hin h2)
      have sq := sq63 (p := p) (by omega) (by omega)
      have hd : (p % 2 == 1) = false := by simp; omega
      clear hin
      go_enter Try.func71, Try.ntmps71
      go_wp2_with fail
      go_ret2
      exact ⟨by rw [HM.out, HI.out]; rfl, Below.refl _ _⟩
  · rw [Bool.not_eq_true] at hin
    have HI := Lib.hid hin
    have HM := Lib.hid (rndM_no hin)
    by_cases h1 : p < 1
    · clear hin
      go_enter Try.func71, Try.ntmps71
      go_wp2_with fail
      go_ret2
      exact ⟨by rw [HM.out, HI.out]; rfl, Below.refl _ _⟩
    · have h2 : 60 < p := by unfold inB at hin; simp at hin; omega
      clear hin
      go_enter Try.func71, Try.ntmps71
      go_wp2_with fail
      go_ret2
      exact ⟨by rw [HM.out, HI.out]; rfl, Below.refl _ _⟩
set_option maxHeartbeats 1000000 in
theorem specTriRound_any (p : Int) (w : World) : Calls Try.prog 73 #[.int .i64 p] w fun e w' => e = .returned (.tuple #[.int .i64 (rndM p), .bool (inB p 1 60)]) ∧ Below w.heap.size w w' := by
  by_cases hin : inB p 1 60 = true
  · have hb := inB_true hin
    have HI := Lib.hid hin
    rcases (show p % 2 = 1 ∨ p % 2 = 0 by omega) with h2 | h2
    · have HM := Lib.hid (rndM_odd hin h2)
      have sq := sq63 (p := p + 3) (by omega) (by omega)
      have hd : (p % 2 == 1) = true := by simp; omega
      clear hin
      go_enter Try.func73, Try.ntmps73
      go_wp2_with fail
      refine (l6In_any _ _ _ _).mono ?_
      rintro e w' ⟨rfl, rfl⟩
      rw [HI.out]
      go_wp2_with fail
      go_ret2
      exact ⟨by rw [HM.out, HI.out]; rfl, Below.refl _ _⟩
    · have HM := Lib.hid (rndM_even hin h2)
      have sq := sq63 (p := p) (by omega) (by omega)
      have hd : (p % 2 == 1) = false := by simp; omega
      clear hin
      go_enter Try.func73, Try.ntmps73
      go_wp2_with fail
      refine (l6In_any _ _ _ _).mono ?_
      rintro e w' ⟨rfl, rfl⟩
      rw [HI.out]
      go_wp2_with fail
      go_ret2
      exact ⟨by rw [HM.out, HI.out]; rfl, Below.refl _ _⟩
  · rw [Bool.not_eq_true] at hin
    have HI := Lib.hid hin
    have HM := Lib.hid (rndM_no hin)
    clear hin
    go_enter Try.func73, Try.ntmps73
    go_wp2_with fail
    refine (l6In_any _ _ _ _).mono ?_
    rintro e w' ⟨rfl, rfl⟩
    rw [HI.out]
    go_wp2_with fail
    go_ret2
    exact ⟨by rw [HM.out, HI.out]; rfl, Below.refl _ _⟩
end Go.Proofs.Ytcfmnjkgebopcaa
