/- Contracts of the program's functions of chapter 8: solids, numbers, faces. -/
import Derived.Test.YtdnegamminhbfaaSolP
import Derived.Test.YtdnegamminhbfaaQuiTail
import Derived.RangeFuncBox
namespace Go.Proofs.Ytdnegamminhbfaa
open Go.RowKit Go.Sort

/-! A solid as a value of six. -/
abbrev solV (xs : List Int) : Value := .agg (ints xs).toArray
abbrev sixV (a b c d e f : Int) : Value := .agg #[.int .i64 a, .int .i64 b, .int .i64 c, .int .i64 d, .int .i64 e, .int .i64 f]
abbrev sixO (a b c d e f : Int) : Obj := .cells #[.int .i64 a, .int .i64 b, .int .i64 c, .int .i64 d, .int .i64 e, .int .i64 f] 81
abbrev solO (xs : List Int) : Obj := .cells (ints xs).toArray 81
/-- A block that holds the six lengths. -/
def SolAt (w : World) (g : Nat) (xs : List Int) : Prop := w.heap[g]? = some (.cells (ints xs).toArray 81 (0, 0))
theorem SolAt.lt {w : World} {g : Nat} {xs : List Int} (h : SolAt w g xs) : g < w.heap.size := (Array.getElem?_eq_some_iff.1 h).1
theorem SolAt.below {w w' : World} {g B : Nat} {xs : List Int} (h : SolAt w g xs) (hB : w.heap.size ≤ B) (hb : Below B w w') : SolAt w' g xs := (hb.block _ (by have := h.lt; omega)).trans h
theorem SolAt.same {w w' : World} {g : Nat} {xs : List Int} (h : SolAt w g xs) (hb : Below w.heap.size w w') : SolAt w' g xs := h.below (Nat.le_refl _) hb
theorem SolAt.new (w : World) (xs : List Int) : SolAt (w.alloc (solO xs)) w.heap.size xs := World.alloc_heap_new w _
theorem SolAt.cells {w : World} {g : Nat} {a b c d e f : Int} (h : SolAt w g [a, b, c, d, e, f]) :
    w.cell? ⟨g, 0, none⟩ = some (.int .i64 a) ∧ w.cell? ⟨g, 1, none⟩ = some (.int .i64 b) ∧ w.cell? ⟨g, 2, none⟩ = some (.int .i64 c) ∧ w.cell? ⟨g, 3, none⟩ = some (.int .i64 d) ∧ w.cell? ⟨g, 4, none⟩ = some (.int .i64 e) ∧ w.cell? ⟨g, 5, none⟩ = some (.int .i64 f) ∧ ∀ j, w.frozen? ⟨g, j, none⟩ = false := by
  unfold SolAt at h
  refine ⟨?_, ?_, ?_, ?_, ?_, ?_, fun j => frozen_of_row w _ j _ _ h⟩
  · rw [cell_of_row w _ 0 _ _ _ h]; rfl
  · rw [cell_of_row w _ 1 _ _ _ h]; rfl
  · rw [cell_of_row w _ 2 _ _ _ h]; rfl
  · rw [cell_of_row w _ 3 _ _ _ h]; rfl
  · rw [cell_of_row w _ 4 _ _ _ h]; rfl
  · rw [cell_of_row w _ 5 _ _ _ h]; rfl
theorem SolAt.cell {w : World} {g : Nat} {xs : List Int} (h : SolAt w g xs) {j : Nat} (hj : j < xs.length) : w.cell? ⟨g, j, none⟩ = some (.int .i64 (xs.getD j 0)) := by
  unfold SolAt at h
  rw [cell_of_row w _ j _ _ _ h]
  simpa using ints_get xs j hj
theorem SolAt.set {w : World} {g : Nat} {xs : List Int} (h : SolAt w g xs) {j : Nat} (_ : j < xs.length) (u : Int) : SolAt (w.setCell ⟨g, j, none⟩ (.int .i64 u)) g (xs.set j u) := by
  have h1 := heap_setCell_same w g j _ _ (.int .i64 u) h
  unfold SolAt
  rw [h1]
  simp [ints, List.map_set]

/-- Six lengths are stored. -/
abbrev six_put (W : World) (g : Nat) (a b c d e f : Int) : World := (((((W.setCell ⟨g, 0, none⟩ (.int .i64 a)).setCell ⟨g, 1, none⟩ (.int .i64 b)).setCell ⟨g, 2, none⟩ (.int .i64 c)).setCell ⟨g, 3, none⟩ (.int .i64 d)).setCell ⟨g, 4, none⟩ (.int .i64 e)).setCell ⟨g, 5, none⟩ (.int .i64 f)
theorem six_set {W : World} {g : Nat} {xs : List Int} (h : SolAt W g xs) (hl : xs.length = 6) (a b c d e f : Int) : SolAt (six_put W g a b c d e f) g [a, b, c, d, e, f] := by
  obtain ⟨x0, x1, x2, x3, x4, x5, rfl⟩ := six_of hl
  have h1 := h.set (j := 0) (by simp) a
  have h2 := h1.set (j := 1) (by simp) b
  have h3 := h2.set (j := 2) (by simp) c
  have h4 := h3.set (j := 3) (by simp) d
  have h5 := h4.set (j := 4) (by simp) e
  exact h5.set (j := 5) (by simp) f
theorem six_below {B : Nat} {w W : World} {g : Nat} (h : Below B w W) (hg : B ≤ g) (a b c d e f : Int) : Below B w (six_put W g a b c d e f) :=
  (((((h.setCell (p := ⟨g, 0, none⟩) hg _).setCell (p := ⟨g, 1, none⟩) hg _).setCell (p := ⟨g, 2, none⟩) hg _).setCell (p := ⟨g, 3, none⟩) hg _).setCell (p := ⟨g, 4, none⟩) hg _).setCell (p := ⟨g, 5, none⟩) hg _
theorem sol_back {f : Func} (hf : f.results = #[.cell 2 81, .tmp 3]) {W : World} {g : Nat} {xs : List Int} {R : Ending → World → Prop} {a : Act} (hl : xs.length = 6) (ht : a.defers = []) (hr : a.tmps.getD 2 undef = .pointer (some ⟨g, 0, none⟩)) {ok : Bool} (h3 : a.tmps.getD 3 undef = .bool ok) (h : SolAt W g xs) (h2 : R (.returned (.tuple #[solV xs, .bool ok])) W) :
    bodyPost Try.prog f R .ret a W := by
  obtain ⟨x0, x1, x2, x3, x4, x5, rfl⟩ := six_of hl
  obtain ⟨u0, u1, u2, u3, u4, u5, _⟩ := h.cells
  refine bodyPost_ret (v := .tuple #[solV _, .bool ok]) ?_ ht h2
  have hr' : a.tmps[2]?.getD undef = .pointer (some ⟨g, 0, none⟩) := by simpa using hr
  have h3' : a.tmps[3]?.getD undef = .bool ok := by simpa using h3
  simp [results, hf, go_sem, u0, u1, u2, u3, u4, u5, hr', h3']
theorem sol_back1 {f : Func} {k : Nat} (hf : f.results = #[.cell k 81]) {W : World} {g : Nat} {xs : List Int} {R : Ending → World → Prop} {a : Act} (hl : xs.length = 6) (ht : a.defers = []) (hr : a.tmps.getD k undef = .pointer (some ⟨g, 0, none⟩)) (h : SolAt W g xs) (h2 : R (.returned (solV xs)) W) :
    bodyPost Try.prog f R .ret a W := by
  obtain ⟨x0, x1, x2, x3, x4, x5, rfl⟩ := six_of hl
  obtain ⟨u0, u1, u2, u3, u4, u5, _⟩ := h.cells
  refine bodyPost_ret (v := solV _) ?_ ht h2
  have hr' : a.tmps[k]?.getD undef = .pointer (some ⟨g, 0, none⟩) := by simpa using hr
  simp [results, hf, go_sem, u0, u1, u2, u3, u4, u5, hr']

theorem isEdge_any (n : Int) (w : World) : Calls Try.prog 132 #[.int .i64 n] w fun e w' => e = .returned (.bool (inB n 1 12)) ∧ w = w' := by
  unfold inB
  by_cases h1 : 1 ≤ n
  · go_enter Try.func132, Try.ntmps132
    go_wp2
    go_ret
    exact ⟨by simp [h1], rfl⟩
  · go_enter Try.func132, Try.ntmps132
    go_wp2
    go_ret
    exact ⟨by simp; omega, rfl⟩
theorem isEdge_is {n : Int} {b : Bool} (h : inB n 1 12 = b) (w : World) : Calls Try.prog 132 #[.int .i64 n] w fun e w' => e = .returned (.bool b) ∧ w = w' := h ▸ isEdge_any n w

abbrev zSol : Obj := .cells #[.int .i64 0, .int .i64 0, .int .i64 0, .int .i64 0, .int .i64 0, .int .i64 0] 81
def noSol : List Int := [0, 0, 0, 0, 0, 0]
def solA (xs : List Int) : List Int := if solB xs then xs else noSol
theorem solA_yes {xs : List Int} (h : solB xs = true) : solA xs = xs := by unfold solA; rw [if_pos h]
theorem solA_no {xs : List Int} (h : solB xs = false) : solA xs = noSol := by unfold solA; rw [h]; rfl

set_option maxHeartbeats 4000000 in
theorem between_any (xs : List Int) (i j : Int) (w : World) (hl : xs.length = 6) (hi : 0 ≤ i ∧ i ≤ 3) (hj : 0 ≤ j ∧ j ≤ 3) (hne : i ≠ j) :
    Calls Try.prog 134 #[solV xs, .int .i64 i, .int .i64 j] w fun e w' => e = .returned (.int .i64 (xs.getD (edg i j) 0)) ∧ Below w.heap.size w w' := by
  obtain ⟨a, b, c, d, e, f, rfl⟩ := six_of hl
  obtain ⟨c0, c1, c2, c3, c4, c5, _⟩ := (SolAt.new w [a, b, c, d, e, f]).cells
  have hb := below_alloc (Below.refl w.heap.size w) (solO [a, b, c, d, e, f])
  have h1 : i = 0 ∨ i = 1 ∨ i = 2 ∨ i = 3 := by omega
  have h2 : j = 0 ∨ j = 1 ∨ j = 2 ∨ j = 3 := by omega
  rcases h1 with rfl | rfl | rfl | rfl <;> rcases h2 with rfl | rfl | rfl | rfl
  all_goals first
    | exact absurd rfl hne
    | (clear hi hj hne hl
       go_enter Try.func134, Try.ntmps134
       go_wp2_with fail
       go_ret
       exact ⟨rfl, hb⟩)

set_option maxHeartbeats 4000000 in
theorem solidOf_any (A : Option Addr) (n c : Nat) (xs : List Int) (w : World) (h : Rd w A n xs) (hn : n ≤ 1048576) :
    Calls Try.prog 93 #[.slice A n c] w fun e w' => e = .returned (.tuple #[solV (solA xs), .bool (solB xs)]) ∧ Below w.heap.size w w' := by
  by_cases h6 : n = 6
  · subst h6
    have HL := Lib.hid h.1
    have n0 := SolAt.new w noSol
    have b0 := below_alloc (Below.refl w.heap.size w) (solO noSol)
    have n1 : SolAt ((w.alloc (solO noSol)).alloc (solO noSol)) (w.heap.size + 1) noSol := by
      have := SolAt.new (w.alloc (solO noSol)) noSol
      rwa [World.size_alloc] at this
    have b1 := below_alloc b0 (solO noSol)
    go_enter Try.func93, Try.ntmps93
    go_wp2_with fail
    go_loopw [5, 6, 14] (fun _ _ i wr => ∃ k : Nat, k ≤ 6 ∧ i = .int .i64 k ∧ (∀ j, j < k → inB (xs.getD j 0) 1 12 = true) ∧ SolAt wr w.heap.size noSol ∧ SolAt wr (w.heap.size + 1) (xs.take k ++ noSol.drop k) ∧ Below w.heap.size w wr) (fun _ _ i _ => 6 - (intOf i).toNat)
    case atStart =>
      refine ⟨0, by omega, rfl, fun j hj => absurd hj (by omega), ?_, ?_, ?_⟩
      · exact n0.same (below_alloc (Below.refl _ _) _)
      · rw [List.take_zero, List.drop_zero, List.nil_append]; exact n1
      · exact b1
    case round =>
      clear n0 b0 n1 b1
      obtain ⟨k, hk, rfl, hup, hr, hm, hb⟩ := hrel
      have HU := Lib.hid hup
      clear hup
      by_cases hlt : k < 6
      · obtain ⟨b, off, rfl, hbl, hc⟩ := h.2 (by omega)
        have hcx : wr.cell? ⟨b, off + k, none⟩ = some (.int .i64 (xs.getD k 0)) := (hb.cell (p := ⟨b, off + k, none⟩) hbl).trans (hc k hlt)
        obtain ⟨x, ex⟩ : ∃ x, x = xs.getD k 0 := ⟨_, rfl⟩
        rw [← ex] at hcx
        have EX := Lib.hid ex
        clear ex hc h
        by_cases hin : inB x 1 12 = true
        · have HI := Lib.hid hin
          have HR := Lib.hid hr
          have hml : (xs.take k ++ noSol.drop k).length = 6 := by simp [HL.out, noSol]; omega
          have HM := Lib.hid (hm.set (j := k) (by rw [hml]; exact hlt) x)
          have hst : (xs.take k ++ noSol.drop k).set k x = xs.take (k + 1) ++ noSol.drop (k + 1) := by
            obtain ⟨a, b, c, d, e, f, rfl⟩ := six_of HL.out
            have := EX.out
            subst this
            match k, hlt with
            | 0, _ | 1, _ | 2, _ | 3, _ | 4, _ | 5, _ => rfl
          have HST := Lib.hid hst
          have hfz := frozen_of_row wr (w.heap.size + 1) k _ _ hm
          have hcy := hm.cell (j := k) (by rw [hml]; exact hlt)
          generalize (xs.take k ++ noSol.drop k).getD k 0 = y at hcy
          have hsz := hm.lt
          clear hin hm hr hst hml
          go_wp2_with (go_at_call 132; refine (isEdge_is HI.out _).mono ?_; rintro e w' ⟨rfl, rfl⟩)
          go_roundw
          case rel =>
            have hT : (∀ j, j < k + 1 → inB (xs.getD j 0) 1 12 = true) := fun j hj => by
              by_cases e : j = k
              · rw [e, ← EX.out]; exact HI.out
              · exact HU.out j (by omega)
            have hN := HM.out
            rw [HST.out] at hN
            have hO : SolAt (wr.setCell ⟨w.heap.size + 1, k, none⟩ (.int .i64 x)) w.heap.size noSol := (Below.heap_setCell _ ⟨w.heap.size + 1, k, none⟩ _ _ (by show w.heap.size ≠ w.heap.size + 1; omega)).trans HR.out
            first
              | exact ⟨k + 1, by omega, by go_num, hT, hO, hN, hb.setCell (p := ⟨w.heap.size + 1, k, none⟩) (by show w.heap.size ≤ w.heap.size + 1; omega) _⟩
              | ((repeat apply Exists.intro); exact ⟨⟨k + 1, by omega, by go_num, hT, hO, hN, hb.setCell (p := ⟨w.heap.size + 1, k, none⟩) (by show w.heap.size ≤ w.heap.size + 1; omega) _⟩, rfl⟩)
          case measure => simp [intOf]; omega
        · rw [Bool.not_eq_true] at hin
          have HI := Lib.hid hin
          have HB := Lib.hid (solB_at (k := k) (by rw [HL.out]; exact hlt) (by rw [← EX.out]; exact hin))
          have HBB := Lib.hid hb
          have HR := Lib.hid hr
          obtain ⟨r0, r1, r2, r3, r4, r5, rf⟩ := SolAt.cells (show SolAt wr w.heap.size [0, 0, 0, 0, 0, 0] from hr)
          clear hin hr hm hb
          go_wp2_with (go_at_call 132; refine (isEdge_is HI.out _).mono ?_; rintro e w' ⟨rfl, rfl⟩)
          refine sol_back (f := Try.f93) rfl (xs := noSol) rfl rfl rfl rfl (six_set HR.out rfl _ _ _ _ _ _) ?_
          exact ⟨by rw [HB.out, solA_no HB.out], six_below HBB.out (Nat.le_refl _) _ _ _ _ _ _⟩
      · obtain rfl : k = 6 := by omega
        have HS := Lib.hid ((solB_up (fun j hj => HU.out j (by rw [← HL.out]; exact hj))).trans (decide_eq_true HL.out))
        rw [show noSol.drop 6 = [] from rfl, List.append_nil, List.take_of_length_le (by rw [HL.out]; exact Nat.le_refl _)] at hm
        obtain ⟨a, b, c', d, e, f, ex⟩ := six_of HL.out
        have EX := Lib.hid ex
        rw [ex] at hm
        obtain ⟨c0, c1, c2, c3, c4, c5, _⟩ := hm.cells
        obtain ⟨r0, r1, r2, r3, r4, r5, rf⟩ := SolAt.cells (show SolAt wr w.heap.size [0, 0, 0, 0, 0, 0] from hr)
        have HR := Lib.hid hr
        have HBB := Lib.hid hb
        clear hm h ex hr hb
        go_wp2_with fail
        refine sol_back (f := Try.f93) rfl (xs := [a, b, c', d, e, f]) rfl rfl rfl rfl (six_set HR.out rfl _ _ _ _ _ _) ?_
        exact ⟨by rw [HS.out, solA_yes HS.out, EX.out], six_below HBB.out (Nat.le_refl _) _ _ _ _ _ _⟩
  · have HB := Lib.hid (show solB xs = false by cases hs : solB xs with | false => rfl | true => exact absurd ((sol_of hs).len) (by rw [h.1]; exact h6))
    have b0 : Below w.heap.size w (w.alloc (.cells #[.int .i64 0, .int .i64 0, .int .i64 0, .int .i64 0, .int .i64 0, .int .i64 0] 81)) := below_alloc (Below.refl w.heap.size w) (solO noSol)
    have n1 : SolAt ((w.alloc (.cells #[.int .i64 0, .int .i64 0, .int .i64 0, .int .i64 0, .int .i64 0, .int .i64 0] 81)).alloc (.cells #[.int .i64 0, .int .i64 0, .int .i64 0, .int .i64 0, .int .i64 0, .int .i64 0] 81)) w.heap.size [0, 0, 0, 0, 0, 0] := (SolAt.new w noSol).same (below_alloc (Below.refl _ _) (solO noSol))
    have b1 := Lib.hid (below_alloc b0 (.cells #[.int .i64 0, .int .i64 0, .int .i64 0, .int .i64 0, .int .i64 0, .int .i64 0] 81))
    have N1 := Lib.hid n1
    obtain ⟨r0, r1, r2, r3, r4, r5, rf⟩ := n1.cells
    have d1 : ((n : Int) != 6) = true := by simp; omega
    clear h n1 b0
    go_enter Try.func93, Try.ntmps93
    go_wp2_with fail
    refine sol_back (f := Try.f93) rfl (xs := noSol) rfl rfl rfl rfl N1.out ?_
    exact ⟨by rw [HB.out, solA_no HB.out], b1.out⟩

theorem solidOf_yes {A : Option Addr} {n c : Nat} {x0 x1 x2 x3 x4 x5 : Int} {w : World} (h : Rd w A n [x0, x1, x2, x3, x4, x5]) (hn : n ≤ 1048576) (hb : solB [x0, x1, x2, x3, x4, x5] = true) :
    Calls Try.prog 93 #[.slice A n c] w fun e w' => e = .returned (.tuple #[sixV x0 x1 x2 x3 x4 x5, .bool true]) ∧ Below w.heap.size w w' := by
  have := solidOf_any A n c _ w h hn
  rw [hb, solA_yes hb] at this
  exact this
theorem solidOf_no {A : Option Addr} {n c : Nat} {xs : List Int} {w : World} (h : Rd w A n xs) (hn : n ≤ 1048576) (hb : solB xs = false) :
    Calls Try.prog 93 #[.slice A n c] w fun e w' => e = .returned (.tuple #[sixV 0 0 0 0 0 0, .bool false]) ∧ Below w.heap.size w w' := by
  have := solidOf_any A n c _ w h hn
  rw [hb, solA_no hb] at this
  exact this
theorem six_new (w : World) (a b c d e f : Int) : SolAt (w.alloc (.cells #[.int .i64 a, .int .i64 b, .int .i64 c, .int .i64 d, .int .i64 e, .int .i64 f] 81)) w.heap.size [a, b, c, d, e, f] := SolAt.new w [a, b, c, d, e, f]
end Go.Proofs.Ytdnegamminhbfaa
