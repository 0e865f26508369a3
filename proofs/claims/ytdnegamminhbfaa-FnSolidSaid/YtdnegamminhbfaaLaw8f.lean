/- The walk of the law FnSolid. -/
import Derived.Test.YtdnegamminhbfaaDraw8
import Derived.Test.YtdnegamminhbfaaSolI2
import Derived.Test.YtdnegamminhbfaaSolN3
namespace Go.Proofs.Ytdnegamminhbfaa
open Go.RowKit Go.Sort Go.Lib

theorem plc_at {xs : List Int} (h : xs.length = 6) : ∀ k, k < 6 → ∃ q : Nat, q < 6 ∧ ([5, 4, 2, 3, 1, 0] : List Int).getD k 0 = (q : Int) ∧ (nmd (plcC [3, 2, 1, 0]) xs).getD k 0 = xs.getD q 0 := by
  obtain ⟨a, b, c, d, e, f, rfl⟩ := six_of h
  intro k hk
  match k, hk with
  | 0, _ => exact ⟨5, by omega, rfl, rfl⟩
  | 1, _ => exact ⟨4, by omega, rfl, rfl⟩
  | 2, _ => exact ⟨2, by omega, rfl, rfl⟩
  | 3, _ => exact ⟨3, by omega, rfl, rfl⟩
  | 4, _ => exact ⟨1, by omega, rfl, rfl⟩
  | 5, _ => exact ⟨0, by omega, rfl, rfl⟩

set_option maxRecDepth 100000 in
set_option maxHeartbeats 4000000 in
theorem fnSolid_walk (A0 : Option Addr) (n0 c0 : Nat) (z0 : List Int) (w : World) (h0 : RdB w A0 n0 z0) (k0 : WfL .u8 z0) (q0 : n0 ≤ c0) :
    Calls Try.prog 5 #[.slice A0 n0 c0] w fun e w' => e = .returned (.bool true) ∧ Below w.heap.size w w' := by
  by_cases big : n0 ≤ 1048576
  rotate_left
  · go_enter Try.func5, Try.ntmps5
    go_wp2_with fail
    go_ret
    exact ⟨rfl, Below.refl _ _⟩
  go_enter Try.func5, Try.ntmps5
  go_wp2_with fail
  refine (drawSolidIn_any A0 n0 c0 z0 _ h0 (bytes_of k0) big q0).mono ?_
  rintro e w1 ⟨A, n, c, xs, rfl, r, hn, B1⟩
  have hI := fun W (h : Rd W A n xs) => implSolidIn_any A n c xs W h hn
  have hS := fun W (h : Rd W A n xs) => specSolidIn_any A n c xs W h hn
  cases hb : solB xs with
  | false =>
    rw [hb] at hI hS
    clear hb hn
    go_wp2_with fail
    refine (hI _ r).mono ?_
    rintro e w2 ⟨rfl, b⟩
    have B2 := below_then B1 b
    replace r := r.same b
    clear b
    go_wp2_with fail
    refine (hS _ r).mono ?_
    rintro e w3 ⟨rfl, b⟩
    have B3 := below_then B2 b
    replace r := r.same b
    clear b
    go_wp2_with fail
    go_ret
    exact ⟨rfl, B3⟩
  | true =>
    have hsol := sol_of hb
    obtain rfl : n = 6 := by rw [← r.1, hsol.len]
    have e1 : namB xs [3, 2, 1, 0] = true := namB_yes hb (by decide)
    have p1 := plcC_mem (show cornB [3, 2, 1, 0] = true by decide)
    have hX := fun A1 W (h : Rd W A 6 xs) (h1 : Rd W A1 4 [3, 2, 1, 0]) => implSolidNamed_any A 6 c xs A1 4 4 [3, 2, 1, 0] W h hn h1 (by omega)
    rw [e1, namM_yes e1] at hX
    have hU := fun A n c W (h : Rd W A n (nmd (plcC [3, 2, 1, 0]) xs)) (hn : n ≤ 1048576) => implSolidIn_any A n c _ W h hn
    rw [(nmd_sol p1 hsol).solB] at hU
    have hlN := nmd_len p1 xs
    have HP := Lib.hid (plc_at hsol.len)
    rw [hb] at hI hS
    generalize nmd (plcC [3, 2, 1, 0]) xs = P at *
    clear e1 p1 hsol hb
    go_wp2_with fail
    refine (hI _ r).mono ?_
    rintro e w2 ⟨rfl, b⟩
    have B2 := below_then B1 b
    replace r := r.same b
    clear b
    go_wp2_with fail
    refine (hS _ r).mono ?_
    rintro e w3 ⟨rfl, b⟩
    have B3 := below_then B2 b
    replace r := r.same b
    clear b
    have l1 := (Own.lit w3 (Nat.le_refl _) [3, 2, 1, 0] (by simp)).rd
    have B3' := below_alloc B3 (.cells (ints [3, 2, 1, 0]).toArray 3)
    replace r := r.al (.cells (ints [3, 2, 1, 0]).toArray 3)
    clear B3
    go_wp2_with fail
    refine (hX _ _ r l1).mono ?_
    rintro e w4 ⟨A4, n4, c4, rfl, o4, hn4, b⟩
    have B4' := below_then B3' b
    replace r := r.same b
    have r4 := o4.rd
    obtain rfl : n4 = 6 := by rw [← r4.1, hlN]
    clear b o4 l1 B3' hX hI hS
    have l2 : Rd (w4.alloc (.cells (ints [5, 4, 2, 3, 1, 0]).toArray 3)) (some ⟨w4.heap.size, 0, none⟩) 6 [5, 4, 2, 3, 1, 0] := (Own.lit w4 (Nat.le_refl _) [5, 4, 2, 3, 1, 0] (by simp)).rd
    have B4 := below_alloc B4' (.cells (ints [5, 4, 2, 3, 1, 0]).toArray 3)
    replace r := r.al (.cells (ints [5, 4, 2, 3, 1, 0]).toArray 3)
    replace r4 := r4.al (.cells (ints [5, 4, 2, 3, 1, 0]).toArray 3)
    clear B4'
    have R4 := Lib.hid r4
    obtain ⟨bs, os_, rfl, hbs, hcs⟩ := r.2 (by omega)
    obtain ⟨bx, ox, rfl, hbx, hcx⟩ := r4.2 (by omega)
    obtain ⟨bp, op_, ep, hbp, hcp⟩ := l2.2 (by omega)
    simp only [Option.some.injEq, Addr.mk.injEq, and_true] at ep
    obtain ⟨rfl, rfl⟩ := ep
    have HC := Lib.hid (And.intro hcs (And.intro hcx hcp))
    have HU := Lib.hid hU
    clear hcs hcx hcp r r4 l2 hU
    obtain ⟨W4, hW4⟩ : ∃ W4, W4 = w4.alloc (.cells (ints [5, 4, 2, 3, 1, 0]).toArray 3) := ⟨_, rfl⟩
    rw [← hW4] at hbs hbx hbp HC R4 B4
    have HW := Lib.hid hW4
    have HB := Lib.hid B4
    clear hW4 B4
    go_wp2_with fail
    change Code.wp _ _ _ _ (w4.alloc (.cells (ints [5, 4, 2, 3, 1, 0]).toArray 3))
    rw [← HW.out]
    go_wp2_with fail
    go_loopw [9] (fun i wr => ∃ k : Nat, k ≤ 6 ∧ i = .int .i64 k ∧ Below W4.heap.size W4 wr) (fun i _ => 6 - (intOf i).toNat)
    case atStart => exact ⟨0, by omega, rfl, Below.refl _ _⟩
    case round =>
      obtain ⟨k, hk, rfl, hb⟩ := hrel
      by_cases hlt : k < 6
      · obtain ⟨q, hq6, hpl, heq⟩ := HP.out k hlt
        have y1 := (hb.cell (p := ⟨bx, ox + k, none⟩) hbx).trans (HC.out.2.1 k hlt)
        have y2 := (hb.cell (p := ⟨w4.heap.size, 0 + k, none⟩) hbp).trans (HC.out.2.2 k hlt)
        have y3 := (hb.cell (p := ⟨bs, os_ + q, none⟩) hbs).trans (HC.out.1 q hq6)
        rw [heq] at y1
        rw [hpl] at y2
        rw [Nat.zero_add] at y2
        generalize xs.getD q 0 = v at *
        have z1 := cell_regrown y1
        have z2 := cell_regrown y2
        have z3 := cell_regrown y3
        have g1 : (k : Int) < 6 := by omega
        have g2 : (q : Int) < 6 := by omega
        have g3 : (0 : Int) ≤ (q : Int) := by omega
        have d0 : decide ((k : Int) < 6) = true := by rw [decide_eq_true_iff]; omega
        clear y1 y2 y3 hpl heq
        go_wp2_with fail
        refine wp_region_quiet_below (by kernel_rfl) (by kernel_rfl) ?_
        repeat (go_big_quiet_step (fail))
        refine wpQuiet_nil ?_
        intro _ hw'
        obtain ⟨⟨dq, osq⟩, hw''⟩ := hw'
        subst hw''
        have bq := below_regrown wr dq osq
        generalize Go.Sort.grow (redrawn wr dq) osq = wq at bq ⊢
        go_wp2_with fail
        go_roundw
        case rel =>
          first
            | exact ⟨k + 1, by omega, by go_num, hb.trans (bq.mono hb.size)⟩
            | ((repeat apply Exists.intro); exact ⟨⟨k + 1, by omega, by go_num, hb.trans (bq.mono hb.size)⟩, rfl⟩)
        case measure => simp [intOf]; omega
      · obtain rfl : k = 6 := by omega
        have hU := HU.out _ _ c4 _ (R4.out.same hb) (by omega)
        go_wp2_with fail
        refine hU.mono ?_
        rintro e w6 ⟨rfl, b6⟩
        go_wp2_with fail
        go_ret
        exact ⟨rfl, (HB.out.trans (hb.mono HB.out.size)).trans (b6.mono (HB.out.trans (hb.mono HB.out.size)).size)⟩

end Go.Proofs.Ytdnegamminhbfaa
