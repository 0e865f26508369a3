/- The walk of the law FnZonoArea. -/
import Derived.Test.YthpgenkdiokpeaaDraw7
import Derived.Test.YthpgenkdiokpeaaPthF
import Derived.Test.YthpgenkdiokpeaaRowH
namespace Go.Proofs.Ythpgenkdiokpeaa
open Go.RowKit Go.Sort Go.Lib

theorem RdM.row2 {w : World} {b off n : Nat} {l : List Pt} (h : RdM w (some ⟨b, off, none⟩) n (rowsOf l)) {i : Nat} (hi : i < n) : ∃ b1 off1 c1, w.cell? ⟨b, off + i, none⟩ = some (.slice (some ⟨b1, off1, none⟩) 2 c1) ∧ w.cell? ⟨b1, off1, none⟩ = some (.int .i64 (atP l i).1) ∧ w.cell? ⟨b1, off1 + 1, none⟩ = some (.int .i64 (atP l i).2) := by
  have hl := h.1
  rw [rowsOf_len] at hl
  obtain ⟨b', off', e, _, hc⟩ := h.2 (by omega)
  simp only [Option.some.injEq, Addr.mk.injEq, and_true] at e
  obtain ⟨rfl, rfl⟩ := e
  obtain ⟨A1, c1, x1, r1⟩ := hc i hi
  rw [rowsOf_at (by omega)] at x1 r1
  obtain ⟨b1, off1, rfl, _, hc1⟩ := r1.2 (by simp)
  have h0 := hc1 0 (by simp)
  have h1 := hc1 1 (by simp)
  rw [Nat.add_zero] at h0
  exact ⟨b1, off1, c1, x1, h0, h1⟩

set_option maxRecDepth 100000 in
set_option maxHeartbeats 4000000 in
theorem fnZonoArea_walk (A0 : Option Addr) (n0 c0 : Nat) (z0 : List Int) (w : World) (h0 : RdB w A0 n0 z0) (k0 : WfL .u8 z0) (q0 : n0 ≤ c0) :
    Calls Try.prog 21 #[.slice A0 n0 c0] w fun e w' => e = .returned (.bool true) ∧ Below w.heap.size w w' := by
  by_cases big : n0 ≤ 1048576
  rotate_left
  · go_enter Try.func21, Try.ntmps21
    go_wp2_with fail
    go_ret
    exact ⟨rfl, Below.refl _ _⟩
  go_enter Try.func21, Try.ntmps21
  go_wp2_with fail
  refine (drawZonoArea_any A0 n0 c0 z0 _ h0 (bytes_of k0) big q0).mono ?_
  rintro e w1 ⟨A, n, c, L, rfl, r, hs, hn1, hn9, B1⟩
  cases hp : starB L with
  | false =>
    clear hn1 hn9
    go_wp2_with fail
    refine (pZonoArea0 A n c L _ r hs hp).mono ?_
    rintro e w2 ⟨rfl, b⟩
    have B2 := below_then B1 b
    replace r := r.same b
    clear b
    go_wp2_with fail
    refine (qZonoArea0 A n c L _ r hs hp).mono ?_
    rintro e w3 ⟨rfl, b⟩
    have B3 := below_then B2 b
    replace r := r.same b
    clear b
    go_wp2_with fail
    go_ret
    exact ⟨rfl, B3⟩
  | true =>
    obtain ⟨l, rfl, P⟩ := star_form hp
    have hl : l.length = n := by rw [← rowsOf_len]; exact r.1
    have h4 := P.hi
    have h2 := P.lo
    clear hp hs
    have HS := Lib.hid P
    have hR : IsStar l.reverse := ⟨by rw [List.length_reverse]; exact P.lo, by rw [List.length_reverse]; exact P.hi, fun s hs => P.steps s (by simpa using hs)⟩
    have HRV := Lib.hid (show (List.range n).map (fun j => atP l (n - 1 - j)) = l.reverse from by
      apply List.ext_getElem (by simp [hl])
      intro i h1 h2
      simp at h1 h2
      rw [List.getElem_map, List.getElem_range, List.getElem_reverse, ← atP_lt, hl])
    have HBD := Lib.hid (fun j (hj : j < n) => (show (-9 ≤ (atP l j).1 ∧ (atP l j).1 ≤ 9) ∧ (-9 ≤ (atP l j).2 ∧ (atP l j).2 ≤ 9) from by
      have := P.steps (atP l j) (by rw [atP_lt (by omega)]; exact List.getElem_mem _)
      exact ⟨this.1, this.2.1⟩))
    have hz := abS_zero P.lo P.hi
    rw [show prS neC l l.length = zpcP l from rfl] at hz
    have hI := fun W (h : RdM W A n (rowsOf l)) => pZonoArea A n c l W h P
    have hQ := fun W (h : RdM W A n (rowsOf l)) => qZonoArea A n c l W h P
    have hX := fun A c W (h : RdM W A n (rowsOf l.reverse)) => pZonoArea A n c _ W h hR
    rw [abS_rev] at hX
    have hP := fun W (h : RdM W A n (rowsOf l)) => pZonoPieces A n c l W h P
    have hev : (2 * abS l) % 2 = 0 := by omega
    generalize 2 * abS l = a at *
    generalize zpcP l = z at *
    have e1 : Int.tmod a 2 = 0 := tmod_two hev
    have e2 : a % 2 = 0 := hev
    have d1 : (a == 0) = (z == 0) := by
      rw [Bool.eq_iff_iff, beq_iff_eq, beq_iff_eq]; exact hz
    obtain ⟨bz, ebz⟩ : ∃ bz, bz = (z == 0) := ⟨_, rfl⟩
    rw [← ebz] at d1
    have d2 : (z == 0) = bz := ebz.symm
    have HI := Lib.hid hI
    have HQ := Lib.hid hQ
    have HX := Lib.hid hX
    have HP := Lib.hid hP
    have v0 : IntKind.i64.wrap ((n : Int) - 1) = (n : Int) - 1 := wrap_is rfl (by omega) (by omega)
    clear hI hQ hX hP hz hev ebz hR
    go_wp2_with fail
    refine (HI.out _ r).mono ?_
    rintro e w2 ⟨rfl, b⟩
    have B2 := below_then B1 b
    replace r := r.same b
    clear b
    go_wp2_with fail
    refine (HQ.out _ r).mono ?_
    rintro e w3 ⟨rfl, b⟩
    have B3 := below_then B2 b
    replace r := r.same b
    clear b
    obtain ⟨b, off, rfl, hbl, _⟩ := r.2 (by omega)
    have HR := Lib.hid r
    have HB := Lib.hid B3
    have H0 := Lib.hid (OwnM.empty w3 (B := w3.heap.size) (Nat.le_refl _))
    clear r P hn1 hn9 B1 B2 B3
    go_wp2_with fail
    go_loopw [8, 9] (fun out i wr => ∃ (k : Nat) (A' : Option Addr) (c' : Nat) (gs : List Nat), k ≤ n ∧ i = .int .i64 ((n : Int) - 1 - k) ∧ out = .slice A' k c' ∧ OwnM wr w3.heap.size A' k c' gs (rowsOf ((List.range k).map fun j => atP l (n - 1 - j))) ∧ Below w3.heap.size w3 wr) (fun _ i _ => (intOf i + 1).toNat)
    case atStart => exact ⟨0, _, 0, [], Nat.zero_le _, by simp, rfl, H0.out, below_alloc (Below.refl _ _) _⟩
    case round =>
      obtain ⟨k, A', c', gs, hk, rfl, rfl, ho, hb⟩ := hrel
      by_cases hlt : k < n
      · obtain ⟨m, em⟩ : ∃ m, n - 1 - k = m := ⟨_, rfl⟩
        have eI : (n : Int) - 1 - k = (m : Int) := by omega
        have hmn : m < n := by omega
        rw [eI]
        obtain ⟨b1, off1, c1, x1, y1, z1⟩ := (HR.out.same hb).row2 hmn
        have HO := Lib.hid (show rowsOf ((List.range (k + 1)).map fun j => atP l (n - 1 - j)) = rowsOf ((List.range k).map fun j => atP l (n - 1 - j)) ++ [[(atP l m).1, (atP l m).2]] from by rw [rowsOf_succ (f := fun j => atP l (n - 1 - j)) k]; rw [em])
        generalize (atP l m).1 = px at *
        generalize (atP l m).2 = py at *
        have v5 : IntKind.i64.wrap ((m : Int) - 1) = (m : Int) - 1 := wrap_is rfl (by omega) (by omega)
        have EM := Lib.hid (And.intro em eI)
        have HBR := Lib.hid hb
        have HOW := Lib.hid ho
        have g1 : (m : Int) < (n : Int) := by omega
        have g2 : (0 : Int) ≤ (m : Int) := by omega
        have g3 : ((m : Int)).toNat = m := by omega
        clear hb ho em eI HRV HBD HX HP HI HQ H0 d1 d2 e1 e2 HS
        go_wp2_with fail
        go_region_law (refine step_appRowM wr px py rfl (.tmp 57) (.tmp 71) rfl rfl rfl HOW.out rfl ⟨rfl, rfl, rfl⟩ (by omega) HBR.out.size ?_; intro A5 c5 W5 o5 b5; have HO5 := Lib.hid o5; have HB5 := Lib.hid (HBR.out.trans b5); clear o5 b5)
        all_goals
          go_wp2_with fail
          go_roundw
          case rel =>
            first
              | exact ⟨k + 1, A5, c5, _, by omega, by have := EM.out.2; congr 1; omega, rfl, by rw [HO.out]; exact HO5.out, HB5.out⟩
              | ((repeat apply Exists.intro); exact ⟨⟨k + 1, A5, c5, _, by omega, by have := EM.out.2; congr 1; omega, rfl, by rw [HO.out]; exact HO5.out, HB5.out⟩, rfl⟩)
          case measure => first | (simp [intOf]; done) | (simp [intOf]; omega)
      · obtain rfl : k = n := by omega
        have eI : (k : Int) - 1 - k = -1 := by omega
        rw [eI]
        rw [HRV.out] at ho
        have HOR := Lib.hid ho.rd
        have HBR := Lib.hid (below_then HB.out hb)
        have HRR := Lib.hid (HR.out.same hb)
        clear ho hb eI HB H0 HRV HBD HI HQ HS
        go_wp2_with fail
        refine (HX.out A' c' _ HOR.out).mono ?_
        rintro e w5 ⟨rfl, b5⟩
        go_wp2_with fail
        refine (HP.out _ (HRR.out.same b5)).mono ?_
        rintro e w6 ⟨rfl, b6⟩
        have HE := Lib.hid (below_then (below_then HBR.out b5) b6)
        clear b5 b6
        cases bz with
        | true =>
          go_wp2_with fail
          go_ret
          exact ⟨rfl, HE.out⟩
        | false =>
          go_wp2_with fail
          go_ret
          exact ⟨rfl, HE.out⟩
end Go.Proofs.Ythpgenkdiokpeaa
