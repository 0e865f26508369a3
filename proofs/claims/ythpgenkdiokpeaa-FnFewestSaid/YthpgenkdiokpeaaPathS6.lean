/- The model's paths gone backwards. -/
import Derived.Test.YthpgenkdiokpeaaPathS5
namespace Go.Proofs.Ythpgenkdiokpeaa
open Go.RowKit Go.Sort Go.Lib

set_option maxRecDepth 100000 in
set_option maxHeartbeats 4000000 in
theorem specPathBack_any (A : Option Addr) (n c : Nat) (L : List (List Int)) (w : World) (h : RdM w A n L) (hs : SmallM L) :
    Calls Try.prog 42 #[.slice A n c] w fun e w' => (∃ (A' : Option Addr) (n' c' : Nat), e = .returned (.tuple #[.slice A' n' c', .bool (pathB L)]) ∧ RdM w' A' n' (ifR L fun l => rowsOf (l.map negP).reverse)) ∧ Below w.heap.size w w' := by
  have hI := fun W (hW : Below w.heap.size w W) => specPathIn_any A n c L W (h.same hW) hs
  have H0 := Lib.hid (OwnM.empty w (B := w.heap.size) (Nat.le_refl _))
  have B0 := Lib.hid (below_alloc (Below.refl w.heap.size w) (.cells #[] 31))
  cases hp : pathB L with
  | false =>
    rw [ifR_no _ hp]
    rw [hp] at hI
    clear h hs hp
    go_enter Try.func42, Try.ntmps42
    go_wp2_with fail
    refine (hI _ B0.out).mono ?_
    rintro e w1 ⟨rfl, b1⟩
    go_wp2_with fail
    refine bodyPost_ret (results_tmp2 rfl _ _ _) rfl ?_
    exact ⟨⟨_, 0, 0, rfl, RdM.nil_ _ _⟩, below_then B0.out b1⟩
  | true =>
    rw [ifR_yes _ hp]
    obtain ⟨hP, hst⟩ := pathB_true hp
    have hl := h.1
    have HL := Lib.hid hl
    have v0 : IntKind.i64.wrap ((n : Int) - 1) = (n : Int) - 1 := wrap_is rfl (by have := h.1; have := hs.len; omega) (by have := hs.len; have := h.1; omega)
    have hn8 : n ≤ 8 := by have := hP.hi; simp at this; omega
    have HS := Lib.hid (show ∀ i, i < n → stepRow (rowL L i) = true from fun i hi => hst i (by omega))
    have HE := Lib.hid (show ((ptsL L).map negP).reverse = (List.range n).map (fun j => negP (rowPt (rowL L (n - 1 - j)))) by
      apply List.ext_getElem (by simp [hl])
      intro i h1 h2
      simp at h1 h2
      have h3 : n - 1 - i < L.length := by omega
      simp [rowL, List.getD_eq_getElem?_getD, hl]
      rw [List.getElem?_eq_getElem h3]
      rfl)
    rw [HE.out]
    rw [hp] at hI
    clear hP hst hl hp
    go_enter Try.func42, Try.ntmps42
    go_wp2_with fail
    refine (hI _ B0.out).mono ?_
    rintro e w1 ⟨rfl, b1⟩
    have B1 := Lib.hid (below_then B0.out b1)
    have H1 := Lib.hid (H0.out.same b1)
    clear hI b1
    go_wp2_with fail
    go_loopw [4, 5] (fun out i wr => ∃ (k : Nat) (A' : Option Addr) (c' : Nat) (gs : List Nat), k ≤ n ∧ i = .int .i64 ((n : Int) - 1 - k) ∧ out = .slice A' k c' ∧ OwnM wr w.heap.size A' k c' gs (rowsOf ((List.range k).map fun j => negP (rowPt (rowL L (n - 1 - j))))) ∧ Below w.heap.size w wr) (fun _ i _ => (intOf i + 1).toNat)
    case atStart => exact ⟨0, _, 0, [], Nat.zero_le _, by simp, rfl, H1.out, B1.out⟩
    case round =>
      obtain ⟨k, A', c', gs, hk, rfl, rfl, ho, hb⟩ := hrel
      by_cases hlt : k < n
      · obtain ⟨b, off, rfl, hbl, hc⟩ := h.2 (by omega)
        obtain ⟨m, em⟩ : ∃ m, n - 1 - k = m := ⟨_, rfl⟩
        have eI : (n : Int) - 1 - k = (m : Int) := by omega
        have hmn : m < n := by omega
        rw [eI]
        obtain ⟨A1, c1, x1, r1⟩ := hc m hmn
        have hr2 := (stepRow_pt (HS.out m hmn))
        rw [hr2.2] at x1 r1
        obtain ⟨b1, off1, rfl, hbl1, hc1⟩ := r1.2 (by omega)
        have HO := Lib.hid (show rowsOf ((List.range (k + 1)).map fun j => negP (rowPt (rowL L (n - 1 - j)))) = rowsOf ((List.range k).map fun j => negP (rowPt (rowL L (n - 1 - j)))) ++ [[-(rowL L m).getD 0 0, -(rowL L m).getD 1 0]] by rw [rowsOf_succ (f := fun j => negP (rowPt (rowL L (n - 1 - j)))) k]; rw [em]; rfl)
        have p1 : -9 ≤ (rowL L m).getD 0 0 ∧ (rowL L m).getD 0 0 ≤ 9 := hr2.1.1
        have p2 : -9 ≤ (rowL L m).getD 1 0 ∧ (rowL L m).getD 1 0 ≤ 9 := hr2.1.2.1
        have k0 := (hb.cell (p := ⟨b, off + m, none⟩) hbl).trans x1
        have k1 := (hb.cell (p := ⟨b1, off1 + 0, none⟩) hbl1).trans (hc1 0 (by omega))
        have k2 := (hb.cell (p := ⟨b1, off1 + 1, none⟩) hbl1).trans (hc1 1 (by omega))
        rw [Nat.add_zero] at k1
        generalize (rowL L m).getD 0 0 = px at *
        generalize (rowL L m).getD 1 0 = py at *
        have v3 : IntKind.i64.wrap (0 - px) = -px := wrap_is (by omega) (by omega) (by omega)
        have v4 : IntKind.i64.wrap (-px) = -px := wrap_is rfl (by omega) (by omega)
        have v5 : IntKind.i64.wrap ((m : Int) - 1) = (m : Int) - 1 := wrap_is rfl (by omega) (by omega)
        have EM := Lib.hid (And.intro em eI)
        have v1 : IntKind.i64.wrap (0 - py) = -py := wrap_is (by omega) (by omega) (by omega)
        have v2 : IntKind.i64.wrap (-py) = -py := wrap_is rfl (by omega) (by omega)
        have HB := Lib.hid hb
        have HOW := Lib.hid ho
        clear hc h x1 r1 hc1 hr2 p1 p2 hb ho em eI
        have g1 : (m : Int) < (n : Int) := by omega
        have g2 : (0 : Int) ≤ (m : Int) := by omega
        have g3 : ((m : Int)).toNat = m := by omega
        go_wp2_with fail
        go_region_law (refine step_appRowM wr (-px) (-py) rfl (.tmp 18) (.tmp 34) rfl rfl rfl HOW.out rfl ⟨rfl, rfl, rfl⟩ (by omega) HB.out.size ?_; intro A5 c5 W5 o5 b5; have HO5 := Lib.hid o5; have HB5 := Lib.hid (HB.out.trans b5); clear o5 b5)
        all_goals
          go_wp2_with fail
          go_roundw
          case rel =>
            first
              | exact ⟨k + 1, A5, c5, _, by omega, by have := EM.out.2; congr 1; omega, rfl, by rw [HO.out]; exact HO5.out, HB5.out⟩
              | ((repeat apply Exists.intro); exact ⟨⟨k + 1, A5, c5, _, by omega, by have := EM.out.2; congr 1; omega, rfl, by rw [HO.out]; exact HO5.out, HB5.out⟩, rfl⟩)
          case measure => first | (simp [intOf]; done) | (simp [intOf]; omega)
      · obtain rfl : k = n := by omega
        have eI : (k : Int) - 1 - k = -1 := by omega
        rw [eI]
        clear h eI
        go_wp2_with fail
        refine bodyPost_ret (results_tmp2 rfl _ _ _) rfl ?_
        exact ⟨⟨A', k, c', rfl, ho.rd⟩, hb⟩
end Go.Proofs.Ythpgenkdiokpeaa
