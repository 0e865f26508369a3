/- Contracts of the program's functions of chapter 8: faces. -/
import Derived.Test.YtdnegamminhbfaaSolJ
import Derived.Test.YtdnegamminhbfaaSolJ2
namespace Go.Proofs.Ytdnegamminhbfaa
open Go.RowKit Go.Sort

/-- The lengths of all faces. -/
def fcsL (xs : List Int) : List Int := [xs.getD 3 0, xs.getD 4 0, xs.getD 5 0, xs.getD 1 0, xs.getD 2 0, xs.getD 5 0, xs.getD 0 0, xs.getD 2 0, xs.getD 4 0, xs.getD 0 0, xs.getD 1 0, xs.getD 3 0]
/-- A block of faces. -/
def FcsAt (w : World) (g : Nat) (fs : List Int) : Prop := w.heap[g]? = some (.cells (ints fs).toArray 93 (0, 0))
theorem FcsAt.cell {w : World} {g : Nat} {fs : List Int} (h : FcsAt w g fs) {j : Nat} (hj : j < fs.length) : w.cell? ⟨g, j, none⟩ = some (.int .i64 (fs.getD j 0)) := by
  unfold FcsAt at h
  rw [cell_of_row w _ j _ _ _ h]
  simpa using ints_get fs j hj
theorem facTo_step (xs : List Int) (k : Nat) (hk : k < 4) : facTo xs (k + 1) = facTo xs k + b01 (triB ((fcsL xs).getD (k * 3) 0) ((fcsL xs).getD (k * 3 + 1) 0) ((fcsL xs).getD (k * 3 + 2) 0)) := by
  match k, hk with
  | 0, _ => simp [facTo, fcsL]
  | 1, _ => rfl
  | 2, _ => rfl
  | 3, _ => rfl

theorem six6 {a b c d e f g : Prop} (h : a ∧ b ∧ c ∧ d ∧ e ∧ f ∧ g) : a ∧ b ∧ c ∧ d ∧ e ∧ f := ⟨h.1, h.2.1, h.2.2.1, h.2.2.2.1, h.2.2.2.2.1, h.2.2.2.2.2.1⟩

set_option maxRecDepth 100000 in
set_option maxHeartbeats 4000000 in
theorem faces_any (xs : List Int) (w : World) (hs : Sol xs) :
    Calls Try.prog 105 #[solV xs] w fun e w' => e = .returned (.int .i64 (facL xs)) ∧ Below w.heap.size w w' := by
  have HS := Lib.hid hs
  have hl := hs.len
  have h1 := fun W => face_any xs 1 2 3 W hl (by omega) (by omega) (by omega) (by omega) (by omega) (by omega)
  have h2 := fun W => face_any xs 0 2 3 W hl (by omega) (by omega) (by omega) (by omega) (by omega) (by omega)
  have h3 := fun W => face_any xs 0 1 3 W hl (by omega) (by omega) (by omega) (by omega) (by omega) (by omega)
  have h4 := fun W => face_any xs 0 1 2 W hl (by omega) (by omega) (by omega) (by omega) (by omega) (by omega)
  rw [show edg 1 2 = 3 by decide, show edg 1 3 = 4 by decide, show edg 2 3 = 5 by decide] at h1
  rw [show edg 0 2 = 1 by decide, show edg 0 3 = 2 by decide, show edg 2 3 = 5 by decide] at h2
  rw [show edg 0 1 = 0 by decide, show edg 0 3 = 2 by decide, show edg 1 3 = 4 by decide] at h3
  rw [show edg 0 1 = 0 by decide, show edg 0 2 = 1 by decide, show edg 1 2 = 3 by decide] at h4
  have HF := Lib.hid (show fcsL xs = [xs.getD 3 0, xs.getD 4 0, xs.getD 5 0, xs.getD 1 0, xs.getD 2 0, xs.getD 5 0, xs.getD 0 0, xs.getD 2 0, xs.getD 4 0, xs.getD 0 0, xs.getD 1 0, xs.getD 3 0] from rfl)
  obtain ⟨x0, x1, x2, x3, x4, x5, ex⟩ := six_of hl
  have EX := Lib.hid ex
  rw [ex] at h1 h2 h3 h4
  simp only [List.getD_cons_zero, List.getD_cons_succ] at h1 h2 h3 h4
  rw [show solV xs = solV [x0, x1, x2, x3, x4, x5] by rw [ex]]
  obtain ⟨W1, hW1⟩ : ∃ W1, W1 = w.alloc (solO [x0, x1, x2, x3, x4, x5]) := ⟨_, rfl⟩
  have bW : Below w.heap.size w W1 := by rw [hW1]; exact below_alloc (Below.refl _ _) _
  have s1 : SolAt W1 w.heap.size [x0, x1, x2, x3, x4, x5] := by rw [hW1]; exact SolAt.new w _
  obtain ⟨c0, c1, c2, c3, c4, c5, _⟩ := s1.cells
  have HW := Lib.hid hW1
  have HBW := Lib.hid bW
  have HK := Lib.hid (fun W' (h : Below W1.heap.size W1 W') => (s1.same h).cells)
  have k1 : ∀ W, Calls Try.prog 136 #[sixV x0 x1 x2 x3 x4 x5, .int .i64 1, .int .i64 2, .int .i64 3] W fun e w' => e = .returned (thrV x3 x4 x5) ∧ Below W.heap.size W w' := h1
  have k2 : ∀ W, Calls Try.prog 136 #[sixV x0 x1 x2 x3 x4 x5, .int .i64 0, .int .i64 2, .int .i64 3] W fun e w' => e = .returned (thrV x1 x2 x5) ∧ Below W.heap.size W w' := h2
  have k3 : ∀ W, Calls Try.prog 136 #[sixV x0 x1 x2 x3 x4 x5, .int .i64 0, .int .i64 1, .int .i64 3] W fun e w' => e = .returned (thrV x0 x2 x4) ∧ Below W.heap.size W w' := h3
  have k4 : ∀ W, Calls Try.prog 136 #[sixV x0 x1 x2 x3 x4 x5, .int .i64 0, .int .i64 1, .int .i64 2] W fun e w' => e = .returned (thrV x0 x1 x3) ∧ Below W.heap.size W w' := h4
  clear h1 h2 h3 h4 hW1 bW s1 hl ex hs
  go_enter Try.func105, Try.ntmps105
  go_wp2_with fail
  change Code.wp _ _ _ _ (w.alloc (solO [x0, x1, x2, x3, x4, x5]))
  rw [← HW.out]
  go_region_held3 (fun w' => w'.cell? ⟨w.heap.size, 0, none⟩ = some (.int .i64 x0) ∧ w'.cell? ⟨w.heap.size, 1, none⟩ = some (.int .i64 x1) ∧ w'.cell? ⟨w.heap.size, 2, none⟩ = some (.int .i64 x2) ∧ w'.cell? ⟨w.heap.size, 3, none⟩ = some (.int .i64 x3) ∧ w'.cell? ⟨w.heap.size, 4, none⟩ = some (.int .i64 x4) ∧ w'.cell? ⟨w.heap.size, 5, none⟩ = some (.int .i64 x5))
    (first | go_keep | exact six6 (HK.out _ d2) | exact six6 (HK.out _ d3) | exact six6 (HK.out _ d4) | exact six6 (HK.out _ d5))
    (first
      | (go_at_call 136; with_reducible refine (k1 _).mono ?_; rintro e w2 ⟨rfl, b2⟩; have d2 := below_then ((Below.refl W1.heap.size W1).drew) b2)
      | (go_at_call 136; with_reducible refine (k2 _).mono ?_; rintro e w3 ⟨rfl, b3⟩; have d3 := below_then d2 b3)
      | (go_at_call 136; with_reducible refine (k3 _).mono ?_; rintro e w4 ⟨rfl, b4⟩; have d4 := below_then d3 b4)
      | (go_at_call 136; with_reducible refine (k4 _).mono ?_; rintro e w5 ⟨rfl, b5⟩; have d5 := below_then d4 b5))
  have d6 : Below w.heap.size w w5 := below_then HBW.out d5
  have hF0 : FcsAt (w5.alloc (.cells #[.int .i64 x3, .int .i64 x4, .int .i64 x5, .int .i64 x1, .int .i64 x2, .int .i64 x5, .int .i64 x0, .int .i64 x2, .int .i64 x4, .int .i64 x0, .int .i64 x1, .int .i64 x3] 93)) w5.heap.size (fcsL xs) := by
    rw [HF.out, EX.out]
    exact World.alloc_heap_new w5 _
  have hB0 : Below w.heap.size w (w5.alloc (.cells #[.int .i64 x3, .int .i64 x4, .int .i64 x5, .int .i64 x1, .int .i64 x2, .int .i64 x5, .int .i64 x0, .int .i64 x2, .int .i64 x4, .int .i64 x0, .int .i64 x1, .int .i64 x3] 93)) := below_alloc d6 _
  have h56 := d6.size
  clear b2 b3 b4 b5 d2 d3 d4 d5 k1 k2 k3 k4 c0 c1 c2 c3 c4 c5
  go_wp2_with fail
  go_loopw [3, 5, 16] (fun s _ i wr => ∃ k : Nat, k ≤ 4 ∧ i = .int .i64 k ∧ s = .int .i64 (facTo xs k) ∧ FcsAt wr w5.heap.size (fcsL xs) ∧ Below w.heap.size w wr) (fun _ _ i _ => 4 - (intOf i).toNat)
  case atStart => exact ⟨0, by omega, rfl, rfl, hF0, hB0⟩
  case round =>
    clear hF0 hB0 d6
    obtain ⟨k, hk, rfl, rfl, hf, hb⟩ := hrel
    have hbd := facTo_bd xs k
    by_cases hlt : k < 4
    · have FS := Lib.hid (facTo_step xs k hlt)
      have hfl : (fcsL xs).length = 12 := rfl
      have e0 := hf.cell (j := k * 3) (by rw [hfl]; omega)
      have e1 := hf.cell (j := k * 3 + 1) (by rw [hfl]; omega)
      have e2 := hf.cell (j := k * 3 + 2) (by rw [hfl]; omega)
      have hin : ∀ j, j < 12 → 1 ≤ (fcsL xs).getD j 0 ∧ (fcsL xs).getD j 0 ≤ 12 := fun j hj => by
        have q := fun i (hi : i < 6) => HS.out.at_ hi
        rw [HF.out]
        match j, hj with
        | 0, _ => exact q 3 (by omega)
        | 1, _ => exact q 4 (by omega)
        | 2, _ => exact q 5 (by omega)
        | 3, _ => exact q 1 (by omega)
        | 4, _ => exact q 2 (by omega)
        | 5, _ => exact q 5 (by omega)
        | 6, _ => exact q 0 (by omega)
        | 7, _ => exact q 2 (by omega)
        | 8, _ => exact q 4 (by omega)
        | 9, _ => exact q 0 (by omega)
        | 10, _ => exact q 1 (by omega)
        | 11, _ => exact q 3 (by omega)
      have i0 := hin (k * 3) (by omega)
      have i1 := hin (k * 3 + 1) (by omega)
      have i2 := hin (k * 3 + 2) (by omega)
      generalize (fcsL xs).getD (k * 3) 0 = x at *
      generalize (fcsL xs).getD (k * 3 + 1) 0 = y at *
      generalize (fcsL xs).getD (k * 3 + 2) 0 = z at *
      obtain ⟨F, hF⟩ : ∃ F, F = facTo xs k := ⟨_, rfl⟩
      rw [← hF] at hbd FS ⊢
      clear hF hfl hin
      have hC := fun W => closes_any x y z W (by omega) (by omega) (by omega) (by omega) (by omega) (by omega)
      have v1 : IntKind.i64.wrap (F + 1) = F + 1 := wrap_is rfl (by omega) (by omega)
      have d0 : decide ((k : Int) < 4) = true := by rw [decide_eq_true_iff]; omega
      have d0' : decide (k < 4) = true := by rw [decide_eq_true_iff]; omega
      have T1 : ThrAt (wr.alloc (.cells #[.int .i64 x, .int .i64 y, .int .i64 z] 93)) wr.heap.size x y z := World.alloc_heap_new wr _
      obtain ⟨t0, t1, t2, _⟩ := T1.cells
      have HB := Lib.hid (below_alloc (below_alloc (Below.refl wr.heap.size wr) (.cells #[.int .i64 x, .int .i64 y, .int .i64 z] 93)))
      have HFF := Lib.hid hf
      have HBB := Lib.hid hb
      clear T1 i0 i1 i2 hf hb
      generalize triB x y z = t at *
      cases t with
      | true =>
        go_wp2_with fail
        refine (hC _).mono ?_
        rintro e w7 ⟨rfl, o, rfl⟩
        go_wp2_with fail
        go_roundw
        case rel =>
          have hq : facTo xs (k + 1) = F + 1 := FS.out
          first
            | exact ⟨k + 1, by omega, by go_num, by rw [hq], (HB.out (.cells o 93)).block _ (Array.getElem?_eq_some_iff.1 HFF.out).1 |>.trans HFF.out, HBB.out.trans ((HB.out (.cells o 93)).mono HBB.out.size)⟩
            | ((repeat apply Exists.intro); exact ⟨⟨k + 1, by omega, by go_num, by rw [hq], (HB.out (.cells o 93)).block _ (Array.getElem?_eq_some_iff.1 HFF.out).1 |>.trans HFF.out, HBB.out.trans ((HB.out (.cells o 93)).mono HBB.out.size)⟩, rfl⟩)
        case measure => simp [intOf]; omega
      | false =>
        go_wp2_with fail
        refine (hC _).mono ?_
        rintro e w7 ⟨rfl, o, rfl⟩
        go_wp2_with fail
        go_roundw
        case rel =>
          have hq : facTo xs (k + 1) = F := by rw [FS.out]; simp [b01]
          first
            | exact ⟨k + 1, by omega, by go_num, by rw [hq], (HB.out (.cells o 93)).block _ (Array.getElem?_eq_some_iff.1 HFF.out).1 |>.trans HFF.out, HBB.out.trans ((HB.out (.cells o 93)).mono HBB.out.size)⟩
            | ((repeat apply Exists.intro); exact ⟨⟨k + 1, by omega, by go_num, by rw [hq], (HB.out (.cells o 93)).block _ (Array.getElem?_eq_some_iff.1 HFF.out).1 |>.trans HFF.out, HBB.out.trans ((HB.out (.cells o 93)).mono HBB.out.size)⟩, rfl⟩)
        case measure => simp [intOf]; omega
    · obtain rfl : k = 4 := by omega
      go_wp2_with fail
      go_ret
      exact ⟨rfl, hb⟩

theorem stands_any (xs : List Int) (w : World) (hs : Sol xs) :
    Calls Try.prog 110 #[solV xs] w fun e w' => e = .returned (.bool (stdB xs)) ∧ Below w.heap.size w w' := by
  have hF := fun W => faces_any xs W hs
  have hN := fun W => number_any xs W hs
  unfold stdB
  obtain ⟨x0, x1, x2, x3, x4, x5, ex⟩ := six_of hs.len
  rw [ex] at hF hN ⊢
  generalize facL [x0, x1, x2, x3, x4, x5] = f at *
  generalize numL [x0, x1, x2, x3, x4, x5] = z at *
  have hF' : ∀ W, Calls Try.prog 105 #[sixV x0 x1 x2 x3 x4 x5] W fun e w' => e = .returned (.int .i64 f) ∧ Below W.heap.size W w' := hF
  have hN' : ∀ W, Calls Try.prog 98 #[sixV x0 x1 x2 x3 x4 x5] W fun e w' => e = .returned (.int .i64 z) ∧ Below W.heap.size W w' := hN
  have s1 := SolAt.new w [x0, x1, x2, x3, x4, x5]
  obtain ⟨c0, c1, c2, c3, c4, c5, _⟩ := s1.cells
  have b0 := below_alloc (Below.refl w.heap.size w) (solO [x0, x1, x2, x3, x4, x5])
  have HS1 := Lib.hid s1
  clear hF hN hs ex s1
  by_cases hf : f = 4
  · subst hf
    go_enter Try.func110, Try.ntmps110
    go_wp2_with fail
    refine (hF' _).mono ?_
    rintro e w1 ⟨rfl, b1⟩
    obtain ⟨c0, c1, c2, c3, c4, c5, _⟩ := (HS1.out.same b1).cells
    go_wp2_with fail
    refine (hN' _).mono ?_
    rintro e w2 ⟨rfl, b2⟩
    go_wp2_with fail
    go_ret
    exact ⟨ret_b (by simp), below_then (below_then b0 b1) b2⟩
  · have d1 : (f == 4) = false := by simpa using hf
    have d2 := Lib.hid (decide_eq_false hf)
    go_enter Try.func110, Try.ntmps110
    go_wp2_with fail
    refine (hF' _).mono ?_
    rintro e w1 ⟨rfl, b1⟩
    go_wp2_with fail
    go_ret
    exact ⟨ret_b (by rw [d2.out]; rfl), below_then b0 b1⟩
end Go.Proofs.Ytdnegamminhbfaa
