/- The walk of the law FnTriKind. -/
import Derived.Test.YtcfmnjkgebopcaaLaw2b
namespace Go.Proofs.Ytcfmnjkgebopcaa
open Go.RowKit Go.Sort

/-- The kind, and what the sign of the difference says of it. -/
def KindOf (D : Int) (K : ByteArray) : Prop := (K = ⟨#[97]⟩ ∧ D > 0 ∧ (D == 0) = false) ∨ (K = ⟨#[114]⟩ ∧ D = 0) ∨ (K = ⟨#[111]⟩ ∧ ¬ D > 0 ∧ (D == 0) = false)
theorem kindOf (x y z : Int) : KindOf (x * x + y * y - z * z) (kindM x y z) := by
  rcases (show z * z < x * x + y * y ∨ z * z = x * x + y * y ∨ x * x + y * y < z * z by omega) with k | k | k
  · exact .inl ⟨kind_a k, by omega, by simp; omega⟩
  · exact .inr (.inl ⟨kind_r k, by omega⟩)
  · exact .inr (.inr ⟨kind_o k, by omega, by simp; omega⟩)
set_option maxRecDepth 100000 in
set_option maxHeartbeats 4000000 in
theorem fnTriKind_walk (A0 : Option Addr) (n0 c0 : Nat) (z0 : List Int) (w : World) (h0 : RdB w A0 n0 z0) (k0 : WfL .u8 z0) (q0 : n0 ≤ c0) :
    Calls Try.prog 15 #[.slice A0 n0 c0] w fun e w' => e = .returned (.bool true) ∧ Below w.heap.size w w' := by
  by_cases big : n0 ≤ 1048576
  rotate_left
  · go_enter Try.func15, Try.ntmps15
    go_wp2_with fail
    go_ret
    exact ⟨rfl, Below.refl _ _⟩
  go_enter Try.func15, Try.ntmps15
  go_wp2_with fail
  refine (drawTriKind_any A0 n0 c0 z0 _ h0 (bytes_of k0) big q0).mono ?_
  rintro e w1 ⟨gb, xs, rfl, o1, hx, b1⟩
  go_wp2_with fail
  refine (implTriKind_any _ 3 3 xs _ o1.rd (by omega)).mono ?_
  rintro e w2 ⟨rfl, b2⟩
  have b3 := below_then b1 b2
  replace o1 := o1.same b2
  go_wp2_with fail
  refine (specTriKind_any _ 3 3 xs _ o1.rd (by omega)).mono ?_
  rintro e w3 ⟨rfl, b4⟩
  have b5 := below_then b3 b4
  replace o1 := o1.same b4
  by_cases hs : triLB xs = true
  · have hp := (triLB_yes hs).2.2
    have k0' := o1.cell 0 (by omega)
    have k1' := o1.cell 1 (by omega)
    have k2' := o1.cell 2 (by omega)
    have hd2 := double_tri hp
    have hk2 := kind_double (a := xs.getD 0 0) (b := xs.getD 1 0) (c := xs.getD 2 0)
    have hko := kindOf (xs.getD 0 0) (xs.getD 1 0) (xs.getD 2 0)
    rw [kndM_yes hs, hs]
    obtain ⟨h1, h2, h3, h4, h5⟩ := hp
    obtain ⟨K, hK⟩ : ∃ K, K = kindM (xs.getD 0 0) (xs.getD 1 0) (xs.getD 2 0) := ⟨_, rfl⟩
    rw [← hK] at hk2 hko ⊢
    obtain ⟨x, ex⟩ : ∃ x, x = xs.getD 0 0 := ⟨_, rfl⟩
    obtain ⟨y, ey⟩ : ∃ y, y = xs.getD 1 0 := ⟨_, rfl⟩
    obtain ⟨z, ez⟩ : ∃ z, z = xs.getD 2 0 := ⟨_, rfl⟩
    rw [← ex] at k0' h1 h2 h5
    rw [← ey] at k1' h2 h3 h5
    rw [← ez] at k2' h3 h4 h5
    rw [← ex, ← ey, ← ez] at hd2 hk2 hko
    clear hK ex ey ez o1
    have hkn : kndM [2 * x, 2 * y, 2 * z] = if 2 * z ≤ 60 then K else ⟨#[]⟩ := by
      by_cases h6 : 2 * z ≤ 60
      · rw [if_pos h6, kndM_yes (by rw [hd2, decide_eq_true h6])]; exact hk2
      · rw [if_neg h6, kndM_no (by rw [hd2, decide_eq_false h6])]
    obtain ⟨K2, hK2⟩ : ∃ K2, K2 = kndM [2 * x, 2 * y, 2 * z] := ⟨_, rfl⟩
    obtain ⟨q, hq⟩ : ∃ q, q = triLB [2 * x, 2 * y, 2 * z] := ⟨_, rfl⟩
    rw [← hK2] at hkn
    rw [← hq] at hd2
    have HKQ := Lib.hid (show (q = true ∧ 2 * z ≤ 60 ∧ K2 = K) ∨ (q = false ∧ ¬ 2 * z ≤ 60) by
      by_cases h6 : 2 * z ≤ 60
      · exact .inl ⟨by rw [hd2, decide_eq_true h6], h6, by rw [hkn, if_pos h6]⟩
      · exact .inr ⟨by rw [hd2, decide_eq_false h6], h6⟩)
    have HD2 := Lib.hid hq.symm
    have HKN := Lib.hid hK2.symm
    clear hq hK2
    have s1 := sq_bd h1 (by omega)
    have s2 := sq_bd (a := y) (by omega) (by omega)
    have s3 := sq_bd (a := z) (by omega) h4
    have v0 : IntKind.i64.wrap (2 * x) = 2 * x := wrap_is rfl (by omega) (by omega)
    have v1 : IntKind.i64.wrap (2 * y) = 2 * y := wrap_is rfl (by omega) (by omega)
    have v2 : IntKind.i64.wrap (2 * z) = 2 * z := wrap_is rfl (by omega) (by omega)
    have HKO := Lib.hid hko
    clear hd2 hk2 hkn hko hs
    -- parts on the kind ahead
    have hK3 : K = ⟨#[97]⟩ ∨ K = ⟨#[114]⟩ ∨ K = ⟨#[111]⟩ := by
      rcases HKO.out with h | h | h
      · exact .inl h.1
      · exact .inr (.inl h.1)
      · exact .inr (.inr h.1)
    have HK3 := Lib.hid hK3
    clear hK3
    go_wp2_with fail
    go_quiet (fail)
    have b6 := below_drewN b5 nq
    have j0 : (w3.drewN nq).cell? ⟨gb, 0, none⟩ = some (.int .i64 x) := k0'
    have j1 : (w3.drewN nq).cell? ⟨gb, 1, none⟩ = some (.int .i64 y) := k1'
    have j2 : (w3.drewN nq).cell? ⟨gb, 2, none⟩ = some (.int .i64 z) := k2'
    clear k0' k1' k2'
    generalize w3.drewN nq = W at *
    have hgb : gb < W.heap.size := block_lt_of_cell j0
    obtain ⟨W2, hW2⟩ : ∃ W2, W2 = (W.alloc (.cells #[.int .i64 (2 * x), .int .i64 (2 * y), .int .i64 (2 * z)] 3)).drew := ⟨_, rfl⟩
    have HL : Hid (Own W2 w.heap.size (some ⟨W.heap.size, 0, none⟩) 3 3 [2 * x, 2 * y, 2 * z]) := Lib.hid (by rw [hW2]; exact (Own.lit W (B := w.heap.size) b6.size [2 * x, 2 * y, 2 * z] (by simp)).dr)
    have b7 : Below w.heap.size w W2 := by rw [hW2]; exact (below_alloc b6 _).drew
    have i2 : W2.cell? ⟨gb, 2, none⟩ = some (.int .i64 z) := by rw [hW2]; exact (World.cell?_alloc_lt W _ ⟨gb, 2, none⟩ hgb).trans j2
    have HW := Lib.hid hW2
    clear hW2
    go_wp2_with fail
    go_region_with (rw [← HW.out]; go_at_call 75; refine (implTriKind_any _ 3 3 [2 * x, 2 * y, 2 * z] _ HL.out.rd (by omega)).mono ?_; rw [HD2.out, HKN.out]; rintro e w5 ⟨rfl, b8⟩)
    all_goals
      have b9 := below_then b7 b8
      have l2 := (b8.cell (p := ⟨gb, 2, none⟩) (block_lt_of_cell i2)).trans i2
      clear HL HD2 HKN i2 j0 j1 j2 HW
      have hko := HKO.out
      have hkq := HKQ.out
      clear HKO HKQ HK3
      generalize x * x + y * y - z * z = D at *
      rcases hko with ⟨rfl, d1, d2⟩ | ⟨rfl, rfl⟩ | ⟨rfl, d1, d2⟩
      all_goals
        rcases hkq with ⟨rfl, h6, rfl⟩ | ⟨rfl, h6⟩
        · go_wp2_with fail
          go_ret
          exact ⟨rfl, b9⟩
        · have hd6 : decide (2 * z ≤ 60) = false := decide_eq_false (by omega)
          go_wp2_with fail
          go_ret
          first
            | exact ⟨rfl, b9⟩
            | exact ⟨ret_b (by simpa using h6), b9⟩
  · rw [Bool.not_eq_true] at hs
    rw [kndM_no hs, hs]
    clear hs
    go_wp2_with fail
    go_ret
    exact ⟨rfl, b5⟩
end Go.Proofs.Ytcfmnjkgebopcaa
