/- The walk of the law FnCorners. -/
import Derived.Test.YthpgenkdiokpeaaDraw6
import Derived.Test.YthpgenkdiokpeaaPthF
import Derived.Test.YthpgenkdiokpeaaRowH
namespace Go.Proofs.Ythpgenkdiokpeaa
open Go.RowKit Go.Sort Go.Lib

theorem RdM.row2 {w : World} {b off n : Nat} {l : List Pt} (h : RdM w (some ⟨b, off, none⟩) n (rowsOf l)) {i : Nat} (hi : i < n) : ∃ b1 off1 c1, w.cell? ⟨b, off + i, none⟩ = some (.slice (some ⟨b1, off1, none⟩) 2 c1) ∧ w.cell? ⟨b1, off1, none⟩ = some (.int .i64 (atP l i).1) ∧ w.cell? ⟨b1, off1 + 1, none⟩ = some (.int .i64 (atP l i).2) := by
  have hl := h.1
  rw [rowsOf_len] at hl
  obtain ⟨b', off', e, _, hc⟩ := h.2 (by omega)
  simp only [Option.some.injEq, Addr.mk.injEq, and_true] at e
  obtain ⟨rfl, rfl⟩ := e
  obtain ⟨A1, c1, x1, r1⟩ := hc i hi
  rw [rowsOf_at (by omega)] at x1 r1
  obtain ⟨b1, off1, rfl, _, hc1⟩ := r1.2 (by simp)
  have h0 := hc1 0 (by simp)
  have h1 := hc1 1 (by simp)
  rw [Nat.add_zero] at h0
  exact ⟨b1, off1, c1, x1, h0, h1⟩

set_option maxRecDepth 100000 in
set_option maxHeartbeats 4000000 in
theorem fnCorners_walk (A0 : Option Addr) (n0 c0 : Nat) (z0 : List Int) (w : World) (h0 : RdB w A0 n0 z0) (k0 : WfL .u8 z0) (q0 : n0 ≤ c0) :
    Calls Try.prog 4 #[.slice A0 n0 c0] w fun e w' => e = .returned (.bool true) ∧ Below w.heap.size w w' := by
  by_cases big : n0 ≤ 1048576
  rotate_left
  · go_enter Try.func4, Try.ntmps4
    go_wp2_with fail
    go_ret
    exact ⟨rfl, Below.refl _ _⟩
  go_enter Try.func4, Try.ntmps4
  go_wp2_with fail
  refine (drawPathCorners_any A0 n0 c0 z0 _ h0 (bytes_of k0) big q0).mono ?_
  rintro e w1 ⟨A, n, c, L, rfl, r, hs, hn1, hn9, B1⟩
  cases hp : pathB L with
  | false =>
    clear hn1 hn9
    go_wp2_with fail
    refine (pCorners0 A n c L _ r hs hp).mono ?_
    rintro e w2 ⟨A2, c2, rfl, r2, b⟩
    have B2 := below_then B1 b
    replace r := r.same b
    clear b
    go_wp2_with fail
    refine (qCorners0 A n c L _ r hs hp).mono ?_
    rintro e w3 ⟨A3, c3, rfl, r3, b⟩
    have B3 := below_then B2 b
    replace r := r.same b
    replace r2 := r2.same b
    clear b
    go_wp2_with fail
    refine (sameRowsM_any _ _ 0 _ _ [] _ r2 r3 small_nil).mono ?_
    rintro e w4 ⟨rfl, b⟩
    have B4 := below_then B3 b
    replace r := r.same b
    replace r2 := r2.same b
    replace r3 := r3.same b
    clear b
    go_wp2_with fail
    refine (sameRowsM_any _ _ 0 _ _ [] _ r2 r3 small_nil).mono ?_
    rintro e w5 ⟨rfl, b⟩
    have B5 := below_then B4 b
    replace r := r.same b
    replace r2 := r2.same b
    replace r3 := r3.same b
    clear b
    go_wp2_with fail
    go_ret
    exact ⟨rfl, B5⟩
  | true =>
    obtain ⟨l, rfl, P⟩ := path_form hp
    have hl : l.length = n := by rw [← rowsOf_len]; exact r.1
    have h8 := P.hi
    have h3 := P.lo
    clear hp hs
    have HS := Lib.hid P
    have HSM := Lib.hid (small_rows (ps := corL l) (by rw [corL_len]; exact P.hi))
    go_wp2_with fail
    refine (pCorners A n c l _ r HS.out).mono ?_
    rintro e w2 ⟨A2, c2, rfl, r2, b⟩
    have B2 := below_then B1 b
    replace r := r.same b
    clear b
    go_wp2_with fail
    refine (qCorners A n c l _ r HS.out).mono ?_
    rintro e w3 ⟨A3, c3, rfl, r3, b⟩
    have B3 := below_then B2 b
    replace r := r.same b
    replace r2 := r2.same b
    clear b
    go_wp2_with fail
    refine (sameRowsM_any _ _ n _ _ _ _ r2 r3 HSM.out).mono ?_
    rintro e w4 ⟨rfl, b⟩
    have B4 := below_then B3 b
    replace r := r.same b
    replace r2 := r2.same b
    replace r3 := r3.same b
    clear b
    obtain ⟨b, off, rfl, hbl, _⟩ := r.2 (by omega)
    obtain ⟨b2, off2, rfl, hbl2, _⟩ := r2.2 (by omega)
    have HR := Lib.hid r
    have HR2 := Lib.hid r2
    have HB := Lib.hid B4
    have HC := Lib.hid (fun j (hj : j < n) => (show atP (corL l) j = cor l j from corL_at (by omega)))
    have HN := Lib.hid (fun j (hj : j < n) => (show cor l ((j + 1) % n) = addP (cor l j) (atP l j) from by rw [← hl]; exact cor_next P.closed (by omega)))
    have HBD := Lib.hid (fun j (hj : j < n) => (show ((-72 ≤ (cor l j).1 ∧ (cor l j).1 ≤ 72) ∧ (-72 ≤ (cor l j).2 ∧ (cor l j).2 ≤ 72)) ∧ (-9 ≤ (atP l j).1 ∧ (atP l j).1 ≤ 9) ∧ (-9 ≤ (atP l j).2 ∧ (atP l j).2 ≤ 9) from ⟨P.bd72 (by omega), (P.at_ (i := j) (by omega)).1, (P.at_ (i := j) (by omega)).2.1⟩))
    have HZ := Lib.hid (show cor l 0 = (0, 0) from cor_zero l)
    clear r r2 r3 P hn1 hn9 B1 B2 B3 B4
    go_wp2_with fail
    go_loopw [8, 9] (fun i _ wr => ∃ j : Nat, j ≤ n ∧ i = .int .i64 j ∧ Below w4.heap.size w4 wr) (fun i _ _ => n - (intOf i).toNat)
    case atStart => exact ⟨0, Nat.zero_le _, rfl, Below.refl _ _⟩
    case round =>
      obtain ⟨j, hj, rfl, hb⟩ := hrel
      by_cases hlt : j < n
      · obtain ⟨m, hm, em⟩ : ∃ m : Nat, m < n ∧ (j + 1) % n = m := ⟨_, Nat.mod_lt _ (by omega), rfl⟩
        have e1 : Int.tmod ((j : Int) + 1) (n : Int) = (m : Int) := by
          rw [Int.tmod_eq_emod_of_nonneg (by omega), ← em]
          simp
        have e2 : ((j : Int) + 1) % (n : Int) = (m : Int) := by
          rw [← em]
          simp
        have v0 : IntKind.i64.wrap ((j : Int) + 1) = (j : Int) + 1 := wrap_is rfl (by omega) (by omega)
        have v1 : IntKind.i64.wrap (m : Int) = (m : Int) := wrap_is rfl (by omega) (by omega)
        have hn0 : ((n : Int) == 0) = false := by simp; omega
        obtain ⟨p1, q1, c1, x1, y1, z1⟩ := (HR.out.same hb).row2 hlt
        obtain ⟨p2, q2, c2', x2, y2, z2⟩ := (HR2.out.same hb).row2 hlt
        obtain ⟨p3, q3, c3', x3, y3, z3⟩ := (HR2.out.same hb).row2 hm
        have hcj := HC.out j hlt
        have hcm := HC.out m hm
        have hnx := HN.out j hlt
        rw [em] at hnx
        rw [hcj] at y2 z2
        rw [hcm, hnx] at y3 z3
        obtain ⟨⟨bx, bb⟩, bs, bt⟩ := HBD.out j hlt
        simp only [addP] at y3 z3
        generalize (cor l j).1 = cx at *
        generalize (cor l j).2 = cy at *
        generalize (atP l j).1 = sx at *
        generalize (atP l j).2 = sy at *
        have v2 : IntKind.i64.wrap (cx + sx) = cx + sx := wrap_is rfl (by omega) (by omega)
        have v3 : IntKind.i64.wrap (cy + sy) = cy + sy := wrap_is rfl (by omega) (by omega)
        have g1 : (j : Int) < (n : Int) := by omega
        have g2 : (m : Int) < (n : Int) := by omega
        have HBR := Lib.hid hb
        clear hcj hcm hnx bx bb bs bt hb em HC HN HBD HZ HSM HS
        go_wp2_with fail
        go_quiet (fail)
        go_wp2_with fail
        go_roundw
        case rel => first | exact ⟨j + 1, by omega, by go_num, below_drewN HBR.out _⟩ | ((repeat apply Exists.intro); exact ⟨⟨j + 1, by omega, by go_num, below_drewN HBR.out _⟩, rfl⟩)
        case measure => simp [intOf]; omega
      · obtain rfl : j = n := by omega
        obtain ⟨p2, q2, c2', x2, y2, z2⟩ := (HR2.out.same hb).row2 (i := 0) (by omega)
        rw [HC.out 0 (by omega), HZ.out] at y2 z2
        rw [Nat.add_zero] at x2
        dsimp only at y2 z2
        have HBR := Lib.hid (below_then HB.out hb)
        have d0 : ((j : Int) == (j : Int)) = true := by simp
        clear hb HC HN HBD HZ HSM HS HB
        go_wp2_with fail
        go_ret
        exact ⟨rfl, HBR.out⟩
end Go.Proofs.Ythpgenkdiokpeaa
