/- The walk of the law FnZonoPath. -/
import Derived.Test.YthpgenkdiokpeaaDraw7
import Derived.Test.YthpgenkdiokpeaaPthF
import Derived.Test.YthpgenkdiokpeaaRowH
namespace Go.Proofs.Ythpgenkdiokpeaa
open Go.RowKit Go.Sort Go.Lib

theorem RdM.row2 {w : World} {b off n : Nat} {l : List Pt} (h : RdM w (some ⟨b, off, none⟩) n (rowsOf l)) {i : Nat} (hi : i < n) : ∃ b1 off1 c1, w.cell? ⟨b, off + i, none⟩ = some (.slice (some ⟨b1, off1, none⟩) 2 c1) ∧ w.cell? ⟨b1, off1, none⟩ = some (.int .i64 (atP l i).1) ∧ w.cell? ⟨b1, off1 + 1, none⟩ = some (.int .i64 (atP l i).2) := by
  have hl := h.1
  rw [rowsOf_len] at hl
  obtain ⟨b', off', e, _, hc⟩ := h.2 (by omega)
  simp only [Option.some.injEq, Addr.mk.injEq, and_true] at e
  obtain ⟨rfl, rfl⟩ := e
  obtain ⟨A1, c1, x1, r1⟩ := hc i hi
  rw [rowsOf_at (by omega)] at x1 r1
  obtain ⟨b1, off1, rfl, _, hc1⟩ := r1.2 (by simp)
  have h0 := hc1 0 (by simp)
  have h1 := hc1 1 (by simp)
  rw [Nat.add_zero] at h0
  exact ⟨b1, off1, c1, x1, h0, h1⟩

theorem zonP_half {l : List Pt} {j : Nat} (h : j < l.length) : atP (zonP l) (j + l.length) = negP (atP (zonP l) j) := by
  have hs : (srt (l.map upV)).length = l.length := by rw [srt_len, List.length_map]
  unfold zonP
  rw [atP_app, atP_app, hs, if_neg (by omega), if_pos h, show j + l.length - l.length = j by omega, atP_lt (by rw [List.length_map, hs]; exact h), atP_lt (by rw [hs]; exact h), List.getElem_map]

set_option maxRecDepth 100000 in
set_option maxHeartbeats 4000000 in
theorem fnZonoPath_walk (A0 : Option Addr) (n0 c0 : Nat) (z0 : List Int) (w : World) (h0 : RdB w A0 n0 z0) (k0 : WfL .u8 z0) (q0 : n0 ≤ c0) :
    Calls Try.prog 20 #[.slice A0 n0 c0] w fun e w' => e = .returned (.bool true) ∧ Below w.heap.size w w' := by
  by_cases big : n0 ≤ 1048576
  rotate_left
  · go_enter Try.func20, Try.ntmps20
    go_wp2_with fail
    go_ret
    exact ⟨rfl, Below.refl _ _⟩
  go_enter Try.func20, Try.ntmps20
  go_wp2_with fail
  refine (drawZonoPath_any A0 n0 c0 z0 _ h0 (bytes_of k0) big q0).mono ?_
  rintro e w1 ⟨A, n, c, L, rfl, r, hs, hn1, hn9, B1⟩
  cases hp : starB L with
  | false =>
    clear hn1 hn9
    go_wp2_with fail
    refine (pZonoPath0 A n c L _ r hs hp).mono ?_
    rintro e w2 ⟨A2, c2, rfl, r2, b⟩
    have B2 := below_then B1 b
    replace r := r.same b
    clear b
    go_wp2_with fail
    refine (qZonoPath0 A n c L _ r hs hp).mono ?_
    rintro e w3 ⟨A3, c3, rfl, r3, b⟩
    have B3 := below_then B2 b
    replace r := r.same b
    replace r2 := r2.same b
    clear b
    go_wp2_with fail
    refine (sameRowsM_any _ _ 0 _ _ [] _ r2 r3 small_nil).mono ?_
    rintro e w4 ⟨rfl, b⟩
    have B4 := below_then B3 b
    replace r := r.same b
    replace r2 := r2.same b
    replace r3 := r3.same b
    clear b
    go_wp2_with fail
    refine (sameRowsM_any _ _ 0 _ _ [] _ r2 r3 small_nil).mono ?_
    rintro e w5 ⟨rfl, b⟩
    have B5 := below_then B4 b
    replace r := r.same b
    replace r2 := r2.same b
    replace r3 := r3.same b
    clear b
    go_wp2_with fail
    go_ret
    exact ⟨rfl, B5⟩
  | true =>
    obtain ⟨l, rfl, P⟩ := star_form hp
    have hl : l.length = n := by rw [← rowsOf_len]; exact r.1
    have h4 := P.hi
    have h2 := P.lo
    clear hp hs
    have HS := Lib.hid P
    have hZ := zonP_path P.lo P.hi P.steps
    have HZ := Lib.hid hZ
    have HSM := Lib.hid (small_rows hZ.hi)
    have hA := fun A c W (h : RdM W A (2 * n) (rowsOf (zonP l))) => pArea A (2 * n) c _ W h hZ
    rw [zon_area P.lo P.hi P.steps] at hA
    have HA := Lib.hid hA
    have hI := Lib.hid (fun W (h : RdM W A n (rowsOf l)) => pZonoArea A n c l W h P)
    generalize 2 * abS l = a at *
    clear hA
    go_wp2_with fail
    refine (pZonoPath A n c l _ r HS.out).mono ?_
    rintro e w2 ⟨A2, c2, rfl, r2, b⟩
    have B2 := below_then B1 b
    replace r := r.same b
    clear b
    go_wp2_with fail
    refine (qZonoPath A n c l _ r HS.out).mono ?_
    rintro e w3 ⟨A3, c3, rfl, r3, b⟩
    have B3 := below_then B2 b
    replace r := r.same b
    replace r2 := r2.same b
    clear b
    go_wp2_with fail
    refine (sameRowsM_any _ _ (2 * n) _ _ _ _ r2 r3 HSM.out).mono ?_
    rintro e w4 ⟨rfl, b⟩
    have B4 := below_then B3 b
    replace r := r.same b
    replace r2 := r2.same b
    replace r3 := r3.same b
    clear b
    go_wp2_with fail
    refine (HA.out A2 c2 _ r2).mono ?_
    rintro e w5 ⟨rfl, b⟩
    have B5 := below_then B4 b
    replace r := r.same b
    replace r2 := r2.same b
    clear b
    go_wp2_with fail
    refine (hI.out _ r).mono ?_
    rintro e w6 ⟨rfl, b⟩
    have B6 := below_then B5 b
    replace r := r.same b
    replace r2 := r2.same b
    clear b
    obtain ⟨b2, off2, rfl, hbl2, _⟩ := r2.2 (by omega)
    have HR2 := Lib.hid r2
    have HB := Lib.hid B6
    have HC := Lib.hid (fun j (hj : j < n) => (show atP (zonP l) (j + n) = negP (atP (zonP l) j) from by rw [← hl]; exact zonP_half (by omega)))
    have HBD := Lib.hid (fun j (hj : j < n) => (show (-9 ≤ (atP (zonP l) j).1 ∧ (atP (zonP l) j).1 ≤ 9) ∧ (-9 ≤ (atP (zonP l) j).2 ∧ (atP (zonP l) j).2 ≤ 9) from ⟨(hZ.at_ (i := j) (by rw [zonP_len]; omega)).1, (hZ.at_ (i := j) (by rw [zonP_len]; omega)).2.1⟩))
    have vn : IntKind.i64.wrap (2 * (n : Int)) = 2 * (n : Int) := wrap_is rfl (by omega) (by omega)
    clear r r2 r3 P hn1 hn9 B1 B2 B3 B4 B5 B6 hZ HZ HSM HS HA hI
    go_wp2_with fail
    go_loopw [13] (fun i wr => ∃ j : Nat, j ≤ n ∧ i = .int .i64 j ∧ Below w6.heap.size w6 wr) (fun i _ => n - (intOf i).toNat)
    case atStart => exact ⟨0, Nat.zero_le _, rfl, Below.refl _ _⟩
    case round =>
      obtain ⟨j, hj, rfl, hb⟩ := hrel
      by_cases hlt : j < n
      · obtain ⟨p2, q2, c2', x2, y2, z2⟩ := (HR2.out.same hb).row2 (i := j) (by omega)
        obtain ⟨p3, q3, c3', x3, y3, z3⟩ := (HR2.out.same hb).row2 (i := j + n) (by omega)
        have hcj := HC.out j hlt
        rw [hcj] at y3 z3
        obtain ⟨bs, bt⟩ := HBD.out j hlt
        simp only [negP] at y3 z3
        generalize (atP (zonP l) j).1 = sx at *
        generalize (atP (zonP l) j).2 = sy at *
        have v0 : IntKind.i64.wrap ((j : Int) + (n : Int)) = (j : Int) + (n : Int) := wrap_is rfl (by omega) (by omega)
        have v1 : IntKind.i64.wrap (0 - -sx) = sx := wrap_is (by omega) (by omega) (by omega)
        have v2 : IntKind.i64.wrap (0 - -sy) = sy := wrap_is (by omega) (by omega) (by omega)
        have v3 : IntKind.i64.wrap sx = sx := wrap_is rfl (by omega) (by omega)
        have v4 : IntKind.i64.wrap sy = sy := wrap_is rfl (by omega) (by omega)
        have g1 : (j : Int) + (n : Int) < 2 * (n : Int) := by omega
        have g2 : (j : Int) < 2 * (n : Int) := by omega
        have g3 : 0 ≤ (j : Int) + (n : Int) := by omega
        have g4 : ((j : Int) + (n : Int)).toNat = j + n := by omega
        have g5 : j + n < 2 * n := by omega
        have g6 : j < 2 * n := by omega
        have HBR := Lib.hid hb
        clear hcj bs bt hb HC HBD
        go_wp2_with fail
        go_quiet (fail)
        go_wp2_with fail
        go_roundw
        case rel => exact ⟨j + 1, by omega, by go_num, below_drewN HBR.out _⟩
        case measure => simp [intOf]; omega
      · obtain rfl : j = n := by omega
        have HBR := Lib.hid (below_then HB.out hb)
        clear hb HC HBD HB
        go_wp2_with fail
        go_ret
        exact ⟨rfl, HBR.out⟩
end Go.Proofs.Ythpgenkdiokpeaa
