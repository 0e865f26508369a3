/- Whole areas: wholeArea of the program, l2Root of the specification. -/
import Derived.Test.YtcfmnjkgebopcaaMapP
import Derived.Test.YtcfmnjkgebopcaaTri2
namespace Go.Proofs.Ytcfmnjkgebopcaa
open Go.RowKit

theorem good_tri {p : Int} {a b c : Int} (h : Good p 60 (a, b, c)) : TriP a b c := by
  unfold Good at h
  dsimp only at h
  exact ⟨by omega, by omega, by omega, by omega, by omega⟩
theorem sq_small {k : Nat} {N : Int} (hN : N ≤ 155520000) (h : ∀ j : Int, 0 ≤ j → j < k → 16 * (j * j) < N) : k ≤ 4000 := by
  rcases Nat.lt_or_ge 4000 k with hk | hk
  · have h1 := h 4000 (by omega) (by omega)
    omega
  · exact hk

set_option maxRecDepth 100000 in
set_option maxHeartbeats 2000000 in
theorem wholeArea_any (a b c : Int) (w : World) (h : TriP a b c) : Calls Try.prog 135 #[.agg #[.int .i64 a, .int .i64 b, .int .i64 c]] w fun e w' => e = .returned (.bool (wholeB (areaM a b c))) ∧ Below w.heap.size w w' := by
  have hb := (area_bd h).2.2
  have hA := fun W => area_any a b c W h
  obtain ⟨W, hW⟩ : ∃ W, W = w.alloc (.cells #[.int .i64 a, .int .i64 b, .int .i64 c] 63) := ⟨_, rfl⟩
  have hP : W.heap[w.heap.size]? = some (.cells #[.int .i64 a, .int .i64 b, .int .i64 c] 63 (0, 0)) := by rw [hW]; exact World.alloc_heap_new w _
  have bW : Below w.heap.size w W := by rw [hW]; exact below_alloc (Below.refl _ _) _
  obtain ⟨u0, u1, u2, _, _, _⟩ := three_cells hP
  generalize areaM a b c = N at *
  have HW := Lib.hid hW
  clear hW hP h
  go_enter Try.func135, Try.ntmps135
  go_wp2_with fail
  rw [← HW.out]
  refine (hA W).mono ?_
  rintro e w1 ⟨rfl, b1⟩
  have b2 := below_then bW b1
  clear hA u0 u1 u2 HW b1 bW
  go_wp2_with fail
  go_loopw [4] (fun v wr => ∃ k : Nat, v = .int .i64 k ∧ (∀ j : Int, 0 ≤ j → j < k → 16 * (j * j) < N) ∧ wr = w1) (fun v _ => 4001 - (intOf v).toNat)
  case atStart => exact ⟨0, rfl, fun j h1 h2 => by omega, rfl⟩
  case round =>
    obtain ⟨k, rfl, hk, rfl⟩ := hrel
    have hk4 := sq_small hb.2 hk
    have HK := Lib.hid hk
    clear hk
    have m1 := mul_bd (a := (k : Int)) (b := (k : Int)) (A := 4000) (B := 4000) (by omega) (by omega) (by omega) (by omega)
    have e1 : 16 * (k : Int) * (k : Int) = 16 * ((k : Int) * (k : Int)) := Int.mul_assoc _ _ _
    have v1 : IntKind.i64.wrap (16 * (k : Int)) = 16 * (k : Int) := wrap_is rfl (by omega) (by omega)
    have v2 : IntKind.i64.wrap (16 * (k : Int) * (k : Int)) = 16 * (k : Int) * (k : Int) := wrap_is rfl (by omega) (by omega)
    by_cases hlt : 16 * (k : Int) * (k : Int) < N
    · have hd : decide (16 * (k : Int) * (k : Int) < N) = true := decide_eq_true hlt
      have HN := Lib.hid (show ∀ j : Int, 0 ≤ j → j < (k : Int) + 1 → 16 * (j * j) < N from fun j h1 h2 => by
        by_cases e : j = k
        · subst e; omega
        · exact HK.out j h1 (by omega))
      have hk5 : k + 1 ≤ 4000 := sq_small hb.2 (by simpa using HN.out)
      clear hlt e1 HK
      go_wp2_with fail
      go_roundw
      case rel => exact ⟨k + 1, by go_num, by simpa using HN.out, trivial⟩
      case measure => simp [intOf]; omega
    · have hd : decide (16 * (k : Int) * (k : Int) < N) = false := decide_eq_false hlt
      have HR := Lib.hid (show wholeB N = (16 * (k : Int) * (k : Int) == N) by
        rw [whole_least (k := (k : Int)) (by omega) (by omega) HK.out, ← e1]
        by_cases e : 16 * (k : Int) * (k : Int) = N
        · simp [e]
        · simp [e])
      clear hlt e1 HK
      go_wp2_with fail
      go_ret
      exact ⟨ret_b HR.out.symm, b2⟩

set_option maxRecDepth 100000 in
set_option maxHeartbeats 2000000 in
theorem l2Root_any (n : Int) (w : World) (h0 : 0 ≤ n) (h1 : n ≤ 155520000) :
    Calls Try.prog 136 #[.int .i64 n] w fun e w' => (∃ r : Int, e = .returned (.int .i64 r) ∧ 0 ≤ r ∧ r ≤ 1000000 ∧ r * r ≤ n ∧ n < (r + 1) * (r + 1)) ∧ w = w' := by
  go_enter Try.func136, Try.ntmps136
  go_wp2_with fail
  go_loopw [3, 4, 5] (fun v u _ wr => ∃ l r : Int, v = .int .i64 l ∧ u = .int .i64 r ∧ 0 ≤ l ∧ l ≤ r ∧ r ≤ 1000000 ∧ l * l ≤ n ∧ n < (r + 1) * (r + 1) ∧ wr = w) (fun v u _ _ => (intOf u - intOf v).toNat)
  case atStart => exact ⟨0, 1000000, rfl, rfl, by omega, by omega, by omega, by omega, by omega, rfl⟩
  case round =>
    obtain ⟨l, r, rfl, rfl, q1, q2, q3, q4, q5, rfl⟩ := hrel
    have H4 := Lib.hid q4
    have H5 := Lib.hid q5
    clear q4 q5
    by_cases hlt : l < r
    · have hd : decide (l < r) = true := decide_eq_true hlt
      obtain ⟨m, hm⟩ : ∃ m, m = (l + r + 1) / 2 := ⟨_, rfl⟩
      have m1 : l < m := by omega
      have m2 : m ≤ r := by omega
      have mb := mul_bd (a := m) (b := m) (A := 1000000) (B := 1000000) (by omega) (by omega) (by omega) (by omega)
      have v1 : IntKind.i64.wrap (l + r) = l + r := wrap_is rfl (by omega) (by omega)
      have v2 : IntKind.i64.wrap (l + r + 1) = l + r + 1 := wrap_is rfl (by omega) (by omega)
      have v3 : Int.tdiv (l + r + 1) 2 = m := by rw [hm]; exact Int.tdiv_eq_ediv_of_nonneg (by omega)
      have v3' : IntKind.i64.wrap (Int.tdiv (l + r + 1) 2) = m := by rw [v3]; exact wrap_is rfl (by omega) (by omega)
      have v4 : IntKind.i64.wrap m = m := wrap_is rfl (by omega) (by omega)
      have v5 : IntKind.i64.wrap (m * m) = m * m := wrap_is rfl (by omega) (by omega)
      clear hm
      by_cases hc : m * m ≤ n
      · have hd2 : decide (m * m ≤ n) = true := decide_eq_true hc
        have HC := Lib.hid hc
        clear hc
        go_wp2_with fail
        go_roundw
        case rel => exact ⟨m, r, rfl, rfl, by omega, by omega, by omega, HC.out, H5.out, trivial⟩
        case measure => simp [intOf]; omega
      · have hd2 : decide (m * m ≤ n) = false := decide_eq_false hc
        have v6 : IntKind.i64.wrap (m - 1) = m - 1 := wrap_is rfl (by omega) (by omega)
        have HC := Lib.hid (show n < (m - 1 + 1) * (m - 1 + 1) by rw [Int.sub_add_cancel]; omega)
        clear hc
        go_wp2_with fail
        go_roundw
        case rel => exact ⟨l, m - 1, rfl, rfl, by omega, by omega, by omega, H4.out, HC.out, trivial⟩
        case measure => simp [intOf]; omega
    · have hd : decide (l < r) = false := decide_eq_false hlt
      obtain rfl : l = r := by omega
      go_wp2_with fail
      go_ret
      exact ⟨⟨_, rfl, q1, q3, H4.out, H5.out⟩, rfl⟩

/-- The triangles of a round with whole areas. -/
noncomputable def wholeT (t : T3) : Bool := wholeB (areaM t.1 t.2.1 t.2.2)
end Go.Proofs.Ytcfmnjkgebopcaa
