/- The program's greatest common divisor of a step. -/
import Derived.Test.YthpgenkdiokpeaaVec
import Derived.BigRegion
namespace Go.Proofs.Ythpgenkdiokpeaa
open Go.RowKit Go.Sort Go.Lib

theorem natAbs_max (x : Int) : (if x < -x then -x else x) = (x.natAbs : Int) := by split <;> omega
theorem tmod_nat (a b : Nat) : Int.tmod (a : Int) (b : Int) = ((a % b : Nat) : Int) := rfl
theorem gcd_step (a b : Nat) : Nat.gcd b (a % b) = Nat.gcd a b := by rw [Nat.gcd_comm a b, Nat.gcd_rec b a, Nat.gcd_comm]

set_option maxRecDepth 100000 in
set_option maxHeartbeats 2000000 in
theorem divisor_any (x y : Int) (w : World) (h1 : -1000000 ≤ x ∧ x ≤ 1000000) (h2 : -1000000 ≤ y ∧ y ≤ 1000000) :
    Calls Try.prog 161 #[vecX x y] w fun e w' => e = .returned (.int .i64 (gcdP (x, y))) ∧ Below w.heap.size w w' := by
  have v1 : IntKind.i64.wrap (-x) = -x := wrap_is rfl (by omega) (by omega)
  have v2 : IntKind.i64.wrap (-y) = -y := wrap_is rfl (by omega) (by omega)
  have hP := World.alloc_heap_new w (vecO x y)
  obtain ⟨k0, k1, _, _⟩ := pr_cells hP
  have b := below_alloc (Below.refl w.heap.size w) (vecO x y)
  have HX := Lib.hid h1
  have HY := Lib.hid h2
  have HG := Lib.hid (show gcdP (x, y) = ((Nat.gcd x.natAbs y.natAbs : Nat) : Int) from rfl)
  have HB := Lib.hid b
  generalize gcdP (x, y) = z at *
  clear hP h1 h2 b
  go_enter Try.func161, Try.ntmps161
  go_wp2_with fail
  go_region
  go_wp2_with fail
  all_goals
    go_loopw [3, 4] (fun a b wr => ∃ A B : Nat, a = .int .i64 A ∧ b = .int .i64 B ∧ Nat.gcd A B = Nat.gcd x.natAbs y.natAbs ∧ A ≤ 1000000 ∧ B ≤ 1000000 ∧ Below w.heap.size w wr) (fun _ b _ => (intOf b).toNat)
    case atStart =>
      have hx := HX.out
      have hy := HY.out
      exact ⟨x.natAbs, y.natAbs, by congr 1; omega, by congr 1; omega, rfl, by omega, by omega, HB.out.drew⟩
    case round =>
      obtain ⟨A, B, rfl, rfl, hg, hA, hB, hb⟩ := hrel
      have HH := Lib.hid hg
      clear hg k0 k1
      by_cases h0 : B = 0
      · subst h0
        go_wp2_with fail
        go_ret
        have e := HH.out
        rw [Nat.gcd_zero_right] at e
        exact ⟨ret_i (by rw [HG.out, e]), hb⟩
      · have d1 : decide ((B : Int) > 0) = true := by simp; omega
        have d2 : ((B : Int) == 0) = false := by simp; omega
        have d3 : Int.tmod (A : Int) (B : Int) = ((A % B : Nat) : Int) := rfl
        have hlt : A % B < B := Nat.mod_lt _ (by omega)
        have HS := Lib.hid ((gcd_step A B).trans HH.out)
        have HL := Lib.hid hlt
        generalize A % B = C at *
        have v3 : IntKind.i64.wrap (C : Int) = (C : Int) := wrap_is rfl (by omega) (by omega)
        clear hlt
        go_wp2_with fail
        go_region
        go_wp2_with fail
        go_roundw
        case rel => exact ⟨B, C, rfl, rfl, HS.out, hB, by have := HL.out; omega, hb.drew⟩
        case measure => have := HL.out; simp [intOf]; omega
end Go.Proofs.Ythpgenkdiokpeaa
