/- The model's paths that begin elsewhere. -/
import Derived.Test.YthpgenkdiokpeaaPathS5
import Derived.Test.YthpgenkdiokpeaaPathI4
namespace Go.Proofs.Ythpgenkdiokpeaa
open Go.RowKit Go.Sort Go.Lib

set_option maxRecDepth 100000 in
set_option maxHeartbeats 4000000 in
theorem specPathBegin_any (A : Option Addr) (n c : Nat) (L : List (List Int)) (a : Int) (w : World) (h : RdM w A n L) (hs : SmallM L) (hwf : (Lit.int .i64 a).wf = true) :
    Calls Try.prog 47 #[.slice A n c, .int .i64 a] w fun e w' => (∃ (A' : Option Addr) (n' c' : Nat), e = .returned (.tuple #[.slice A' n' c', .bool (begB L a)]) ∧ RdM w' A' n' (begR L a)) ∧ Below w.heap.size w w' := by
  have hI := fun W (hW : Below w.heap.size w W) => specPathIn_any A n c L W (h.same hW) hs
  have H0 := Lib.hid (OwnM.empty w (B := w.heap.size) (Nat.le_refl _))
  have B0 := Lib.hid (below_alloc (Below.refl w.heap.size w) (.cells #[] 31))
  have hl := h.1
  cases hp : pathB L with
  | false =>
    have hbf : begB L a = false := by unfold begB; rw [hp]; rfl
    rw [begR_no hbf, hbf]
    rw [hp] at hI
    clear h hs hp hbf hl hwf
    go_enter Try.func47, Try.ntmps47
    go_wp2_with fail
    refine (hI _ B0.out).mono ?_
    rintro e w1 ⟨rfl, b1⟩
    go_wp2_with fail
    refine bodyPost_ret (results_tmp2 rfl _ _ _) rfl ?_
    exact ⟨⟨_, 0, 0, rfl, RdM.nil_ _ _⟩, below_then B0.out b1⟩
  | true =>
    obtain ⟨hP, hst⟩ := pathB_true hp
    have HL := Lib.hid hl
    have hn8 : n ≤ 8 := by have := hP.hi; simp at this; omega
    have hn3 : 3 ≤ n := by have := hP.lo; simp at this; omega
    have v0 : IntKind.i64.wrap ((n : Int) - 1) = (n : Int) - 1 := wrap_is rfl (by omega) (by omega)
    have hbi : begB L a = inB a 0 ((n : Int) - 1) := by
      unfold begB inB; rw [hp, hl, Bool.true_and, Bool.eq_iff_iff]
      simp only [Bool.and_eq_true, decide_eq_true_eq]; omega
    have HS := Lib.hid (show ∀ i, i < n → stepRow (rowL L i) = true from fun i hi => hst i (by omega))
    rw [hp] at hI
    cases hb : begB L a with
    | false =>
      rw [begR_no hb]
      have HI := Lib.hid (hbi.symm.trans hb)
      clear h hs hp hb hl hwf hP hst hbi
      go_enter Try.func47, Try.ntmps47
      go_wp2_with fail
      refine (hI _ B0.out).mono ?_
      rintro e w1 ⟨rfl, b1⟩
      go_wp2_with (go_at_call 100; refine (l6In_is HI.out _).mono ?_; rintro e w' ⟨rfl, rfl⟩)
      refine bodyPost_ret (results_tmp2 rfl _ _ _) rfl ?_
      exact ⟨⟨_, 0, 0, rfl, RdM.nil_ _ _⟩, below_then B0.out b1⟩
    | true =>
      rw [begR_yes hb]
      have HI := Lib.hid (hbi.symm.trans hb)
      obtain ⟨hq0, hq1⟩ := inB_true HI.out
      obtain ⟨q, rfl⟩ : ∃ q : Nat, a = q := ⟨a.toNat, by omega⟩
      rw [Int.toNat_natCast]
      have hq : q < n := by omega
      have HE := Lib.hid (show rotL (ptsL L) q = (List.range n).map (fun j => rowPt (rowL L ((q + j) % n))) by
        apply List.ext_getElem (by rw [rot_len]; simp [hl])
        intro i h1 h2
        rw [rot_len] at h1
        simp at h2
        have hm : (q + i) % n < n := Nat.mod_lt _ (by omega)
        rw [← atP_lt (by rw [rot_len]; exact h1), rot_at (by simp; omega) h1, List.getElem_map, List.getElem_range, show (ptsL L).length = n by simp [hl], ptsL_at (by omega)])
      rw [HE.out]
      clear hP hst hl hp hb hbi hwf hq0 hq1
      go_enter Try.func47, Try.ntmps47
      go_wp2_with fail
      refine (hI _ B0.out).mono ?_
      rintro e w1 ⟨rfl, b1⟩
      have B1 := Lib.hid (below_then B0.out b1)
      have H1 := Lib.hid (H0.out.same b1)
      clear hI b1
      go_wp2_with (go_at_call 100; refine (l6In_is HI.out _).mono ?_; rintro e w' ⟨rfl, rfl⟩)
      go_loopw [6, 7, 8] (fun out i _ wr => ∃ (k : Nat) (A' : Option Addr) (c' : Nat) (gs : List Nat), k ≤ n ∧ i = .int .i64 k ∧ out = .slice A' k c' ∧ OwnM wr w.heap.size A' k c' gs (rowsOf ((List.range k).map fun j => rowPt (rowL L ((q + j) % n)))) ∧ Below w.heap.size w wr) (fun _ i _ _ => n - (intOf i).toNat)
      case atStart => exact ⟨0, _, 0, [], Nat.zero_le _, rfl, rfl, H1.out, B1.out⟩
      case round =>
        obtain ⟨k, A', c', gs, hk, rfl, rfl, ho, hb⟩ := hrel
        by_cases hlt : k < n
        · obtain ⟨b, off, rfl, hbl, hc⟩ := h.2 (by omega)
          have hm : (q + k) % n < n := Nat.mod_lt _ (by omega)
          obtain ⟨A1, c1, x1, r1⟩ := hc _ hm
          have hr2 := (stepRow_pt (HS.out _ hm))
          rw [hr2.2] at x1 r1
          obtain ⟨b1, off1, rfl, hbl1, hc1⟩ := r1.2 (by omega)
          have HO := Lib.hid (show rowsOf ((List.range (k + 1)).map fun j => rowPt (rowL L ((q + j) % n))) = rowsOf ((List.range k).map fun j => rowPt (rowL L ((q + j) % n))) ++ [[(rowL L ((q + k) % n)).getD 0 0, (rowL L ((q + k) % n)).getD 1 0]] from rowsOf_succ (f := fun j => rowPt (rowL L ((q + j) % n))) k)
          have k0 := (hb.cell (p := ⟨b, off + (q + k) % n, none⟩) hbl).trans x1
          have k1 := (hb.cell (p := ⟨b1, off1 + 0, none⟩) hbl1).trans (hc1 0 (by omega))
          have k2 := (hb.cell (p := ⟨b1, off1 + 1, none⟩) hbl1).trans (hc1 1 (by omega))
          rw [Nat.add_zero] at k1
          have t1 : Int.tmod ((q : Int) + (k : Int)) (n : Int) = (((q + k) % n : Nat) : Int) := rfl
          have v1 : IntKind.i64.wrap ((q : Int) + (k : Int)) = (q : Int) + (k : Int) := wrap_is rfl (by omega) (by omega)
          have d0 : ((n : Int) == 0) = false := by simp; omega
          generalize (rowL L ((q + k) % n)).getD 0 0 = px at *
          generalize (rowL L ((q + k) % n)).getD 1 0 = py at *
          generalize (q + k) % n = m at *
          have g1 : (m : Int) < (n : Int) := by omega
          have g2 : (0 : Int) ≤ (m : Int) := by omega
          have g3 : ((m : Int)).toNat = m := by omega
          have HB := Lib.hid hb
          have HOW := Lib.hid ho
          clear hc h x1 r1 hc1 hr2 hb ho
          go_wp2_with fail
          go_region_law (refine step_appRowM wr px py rfl (.tmp 37) (.tmp 45) rfl rfl rfl HOW.out rfl ⟨rfl, rfl, rfl⟩ (by omega) HB.out.size ?_; intro A5 c5 W5 o5 b5; have HO5 := Lib.hid o5; have HB5 := Lib.hid (HB.out.trans b5); clear o5 b5)
          all_goals
            go_wp2_with fail
            go_roundw
            case rel =>
              first
                | exact ⟨k + 1, A5, c5, _, by omega, by go_num, rfl, by rw [HO.out]; exact HO5.out, HB5.out⟩
                | ((repeat apply Exists.intro); exact ⟨⟨k + 1, A5, c5, _, by omega, by go_num, rfl, by rw [HO.out]; exact HO5.out, HB5.out⟩, rfl⟩)
            case measure => simp [intOf]; omega
        · obtain rfl : k = n := by omega
          clear h
          go_wp2_with fail
          refine bodyPost_ret (results_tmp2 rfl _ _ _) rfl ?_
          exact ⟨⟨A', k, c', rfl, ho.rd⟩, hb⟩
end Go.Proofs.Ythpgenkdiokpeaa
