/- Contracts of the program's functions of chapter 8: names of corners. -/
import Derived.Test.YtdnegamminhbfaaSolI
import Derived.Laws.IdiomCopy
namespace Go.Proofs.Ytdnegamminhbfaa
open Go.RowKit Go.Sort

/-! slices.Index, slices.Contains, slices.Clone at []int. -/
set_option maxHeartbeats 1000000 in
theorem indexI_any (A : Option Addr) (n c : Nat) (l : List Int) (x : Int) (w : World) (h : Rd w A n l) (hn : n ≤ 1048576) :
    Calls Try.prog 150 #[.slice A n c, .int .i64 x] w fun e w' => (∃ r : Int, e = .returned (.int .i64 r) ∧ decide (0 ≤ r) = decide (x ∈ l)) ∧ Below w.heap.size w w' := by
  have HL := Lib.hid h.1
  go_enter Try.func150, Try.ntmps150
  go_wp2_with fail
  go_loopw [5, 8] (fun _ i wr => ∃ k : Nat, k ≤ n ∧ i = .int .i64 k ∧ (∀ j, j < k → l.getD j 0 ≠ x) ∧ Below w.heap.size w wr) (fun _ i _ => n - (intOf i).toNat)
  case atStart => exact ⟨0, Nat.zero_le _, rfl, fun j hj => absurd hj (by omega), Below.refl _ _⟩
  case round =>
    obtain ⟨k, hk, rfl, hno, hb⟩ := hrel
    have HNO := Lib.hid hno
    clear hno
    by_cases hlt : k < n
    · obtain ⟨b, off, rfl, hbl, hc⟩ := h.2 (by omega)
      have hcx : wr.cell? ⟨b, off + k, none⟩ = some (.int .i64 (l.getD k 0)) := (hb.cell (p := ⟨b, off + k, none⟩) hbl).trans (hc k hlt)
      have HMm := Lib.hid (show l.getD k 0 ∈ l by rw [List.getD_eq_getElem?_getD, List.getElem?_eq_getElem (by rw [HL.out]; exact hlt)]; exact List.getElem_mem _)
      obtain ⟨y, ey⟩ : ∃ y, y = l.getD k 0 := ⟨_, rfl⟩
      rw [← ey] at hcx
      have EY := Lib.hid ey
      clear ey hc h
      by_cases e1 : x = y
      · subst e1
        go_wp2_with fail
        go_ret
        refine ⟨⟨(k : Int), rfl, ?_⟩, hb⟩
        have hm := HMm.out
        rw [← EY.out] at hm
        rw [decide_eq_true hm]
        simp
      · have e2 : (x == y) = false := by simpa using e1
        go_wp2_with fail
        go_roundw
        case rel =>
          have hT : ∀ j, j < k + 1 → l.getD j 0 ≠ x := fun j hj => by
            by_cases e : j = k
            · rw [e, ← EY.out]; exact fun h => e1 h.symm
            · exact HNO.out j (by omega)
          first
            | exact ⟨k + 1, by omega, by go_num, hT, hb⟩
            | ((repeat apply Exists.intro); exact ⟨⟨k + 1, by omega, by go_num, hT, hb⟩, rfl⟩)
        case measure => simp [intOf]; omega
    · obtain rfl : k = n := by omega
      go_wp2_with fail
      go_ret
      refine ⟨⟨-1, rfl, ?_⟩, hb⟩
      have hm : x ∉ l := fun hm => by
        obtain ⟨j, hj, e⟩ := List.getElem_of_mem hm
        refine HNO.out j (by rw [← HL.out]; exact hj) ?_
        rw [List.getD_eq_getElem?_getD, List.getElem?_eq_getElem hj]; exact e
      rw [decide_eq_false hm]
      rfl
theorem containsI_any (A : Option Addr) (n c : Nat) (l : List Int) (x : Int) (w : World) (h : Rd w A n l) (hn : n ≤ 1048576) :
    Calls Try.prog 133 #[.slice A n c, .int .i64 x] w fun e w' => e = .returned (.bool (decide (x ∈ l))) ∧ Below w.heap.size w w' := by
  have HI := Lib.hid (indexI_any A n c l x w h hn)
  obtain ⟨bz, ebz⟩ : ∃ bz, bz = decide (x ∈ l) := ⟨_, rfl⟩
  rw [← ebz]
  rw [← ebz] at HI
  clear h ebz
  go_enter Try.func133, Try.ntmps133
  go_wp2_with fail
  refine HI.out.mono ?_
  rintro e w2 ⟨⟨r, rfl, hr⟩, b2⟩
  have HRR := Lib.hid hr
  clear hr
  go_wp2_with fail
  go_ret
  exact ⟨ret_b HRR.out, b2⟩
theorem cloneA_any (ad : Addr) (n c : Nat) (xs : List Int) (w : World) (h : Rd w (some ad) n xs) (hn : n ≤ 1048576) :
    Calls Try.prog 135 #[.slice (some ad) n c] w fun e w' => ∃ A' c', e = .returned (.slice A' n c') ∧ Own w' w.heap.size A' n c' xs ∧ Below w.heap.size w w' := by
  have hl := Own.lit w (Nat.le_refl _) [] (by simp)
  have hr := h.same (below_alloc (Below.refl _ _) (.cells #[] 3))
  have hnn := fun (W : World) => Lib.run_eql_slice_nil (P := Try.prog) W 30 3 (some ad) n c 0 0 Try.underlying30
  go_enter Try.func135, Try.ntmps135
  go_wp2_with (at_builtin; refine wpList_appT 30 Try.underlying30 rfl (.tmp 5) (.tmp 6) rfl rfl hl rfl hr (by simp; omega) (by simp) ?_; intro A' c' W' ho' hg')
  go_ret
  have hb := app_mark (below_alloc (Below.refl _ _) _) hl (Nat.le_refl _) hg'
  simp only [Nat.zero_add, List.nil_append] at ho'
  exact ⟨A', c', ret_sl (by simp), ho', hb⟩

/-! Orders of corners as values of four. -/
abbrev fouV (a b c d : Int) : Value := .agg #[.int .i64 a, .int .i64 b, .int .i64 c, .int .i64 d]
abbrev fouO (a b c d : Int) : Obj := .cells #[.int .i64 a, .int .i64 b, .int .i64 c, .int .i64 d] 85
def FouAt (w : World) (g : Nat) (a b c d : Int) : Prop := w.heap[g]? = some (.cells #[.int .i64 a, .int .i64 b, .int .i64 c, .int .i64 d] 85 (0, 0))
theorem FouAt.lt {w : World} {g : Nat} {a b c d : Int} (h : FouAt w g a b c d) : g < w.heap.size := (Array.getElem?_eq_some_iff.1 h).1
theorem FouAt.below {w w' : World} {g B : Nat} {a b c d : Int} (h : FouAt w g a b c d) (hB : w.heap.size ≤ B) (hb : Below B w w') : FouAt w' g a b c d := (hb.block _ (by have := h.lt; omega)).trans h
theorem FouAt.same {w w' : World} {g : Nat} {a b c d : Int} (h : FouAt w g a b c d) (hb : Below w.heap.size w w') : FouAt w' g a b c d := h.below (Nat.le_refl _) hb
theorem fou_new (w : World) (a b c d : Int) : FouAt (w.alloc (.cells #[.int .i64 a, .int .i64 b, .int .i64 c, .int .i64 d] 85)) w.heap.size a b c d := World.alloc_heap_new w _
theorem FouAt.cells {w : World} {g : Nat} {a b c d : Int} (h : FouAt w g a b c d) : w.cell? ⟨g, 0, none⟩ = some (.int .i64 a) ∧ w.cell? ⟨g, 1, none⟩ = some (.int .i64 b) ∧ w.cell? ⟨g, 2, none⟩ = some (.int .i64 c) ∧ w.cell? ⟨g, 3, none⟩ = some (.int .i64 d) ∧ ∀ j, w.frozen? ⟨g, j, none⟩ = false := by
  unfold FouAt at h
  refine ⟨?_, ?_, ?_, ?_, fun j => frozen_of_row w _ j _ _ h⟩
  · rw [cell_of_row w _ 0 _ _ _ h]; rfl
  · rw [cell_of_row w _ 1 _ _ _ h]; rfl
  · rw [cell_of_row w _ 2 _ _ _ h]; rfl
  · rw [cell_of_row w _ 3 _ _ _ h]; rfl
abbrev fou_put (W : World) (g : Nat) (x y z u : Int) : World := (((W.setCell ⟨g, 0, none⟩ (.int .i64 x)).setCell ⟨g, 1, none⟩ (.int .i64 y)).setCell ⟨g, 2, none⟩ (.int .i64 z)).setCell ⟨g, 3, none⟩ (.int .i64 u)
theorem FouAt.put {w : World} {g : Nat} {a b c d : Int} (h : FouAt w g a b c d) (x y z u : Int) : FouAt (fou_put w g x y z u) g x y z u := by
  have h1 := heap_setCell_same w g 0 _ _ (.int .i64 x) h
  have h2 := heap_setCell_same _ g 1 _ _ (.int .i64 y) h1
  have h3 := heap_setCell_same _ g 2 _ _ (.int .i64 z) h2
  have h4 := heap_setCell_same _ g 3 _ _ (.int .i64 u) h3
  unfold FouAt
  rw [h4]; simp
theorem fou_below {B : Nat} {w W : World} {g : Nat} (h : Below B w W) (hg : B ≤ g) (x y z u : Int) : Below B w (fou_put W g x y z u) :=
  (((h.setCell (p := ⟨g, 0, none⟩) hg _).setCell (p := ⟨g, 1, none⟩) hg _).setCell (p := ⟨g, 2, none⟩) hg _).setCell (p := ⟨g, 3, none⟩) hg _
theorem fou_back {f : Func} (hf : f.results = #[.cell 2 85, .tmp 3]) {W : World} {g : Nat} {x y z u : Int} {R : Ending → World → Prop} {a : Act} (ht : a.defers = []) (hr : a.tmps.getD 2 undef = .pointer (some ⟨g, 0, none⟩)) {ok : Bool} (h3 : a.tmps.getD 3 undef = .bool ok) (h : FouAt W g x y z u) (h2 : R (.returned (.tuple #[fouV x y z u, .bool ok])) W) :
    bodyPost Try.prog f R .ret a W := by
  obtain ⟨u0, u1, u2, u3, _⟩ := h.cells
  refine bodyPost_ret (v := .tuple #[fouV x y z u, .bool ok]) ?_ ht h2
  have hr' : a.tmps[2]?.getD undef = .pointer (some ⟨g, 0, none⟩) := by simpa using hr
  have h3' : a.tmps[3]?.getD undef = .bool ok := by simpa using h3
  simp [results, hf, go_sem, u0, u1, u2, u3, hr', h3']

theorem intSize : (Try.prog.info? 3).map (·.size) = some 1 := by kernel_rfl
theorem copy_four {W : World} {g b off c : Nat} {x y z u p q r s : Int} (hf : FouAt W g p q r s) (h : Rd W (some ⟨b, off, none⟩) 4 [x, y, z, u]) :
    (Builtin.copy_ #[30, 30] 3 #[.slice (some ⟨g, 0, none⟩) 4 4, .slice (some ⟨b, off, none⟩) 4 c]).run Try.prog W = .ok (.int .i64 4) (fou_put W g x y z u) := by
  obtain ⟨u0, u1, u2, u3, uf⟩ := hf.cells
  have hr := run_copy_cells (P := Try.prog) W 30 30 3 3 g 0 4 4 ⟨b, off, none⟩ 4 c (ints [x, y, z, u]) Try.underlying30 intSize (by rfl) (Rd.cells h.1 (by
      obtain ⟨b', off', e, _, hc⟩ := h.2 (by omega)
      simp only [Option.some.injEq, Addr.mk.injEq, and_true] at e
      obtain ⟨rfl, rfl⟩ := e
      exact hc)) (fun j hj => by
        have : j < 4 := by simpa using hj
        rw [Nat.zero_add]
        match j, this with
        | 0, _ => rw [u0]; rfl
        | 1, _ => rw [u1]; rfl
        | 2, _ => rw [u2]; rfl
        | 3, _ => rw [u3]; rfl) (fun j _ => by rw [Nat.zero_add]; exact uf j) (by intro v hv; simp at hv; rcases hv with rfl | rfl | rfl | rfl <;> rfl)
  exact hr

/-- Whether the corners up to a number are there. -/
theorem corn_up {cs : List Int} (hl : cs.length = 4) : (∀ j : Nat, j < 4 → (j : Int) ∈ cs) → cornB cs = true := by
  intro h
  unfold cornB
  rw [decide_eq_true hl, Bool.true_and, List.all_eq_true]
  intro x hx
  simp only [List.mem_cons, List.not_mem_nil, or_false] at hx
  rcases hx with rfl | rfl | rfl | rfl
  · exact decide_eq_true (h 0 (by omega))
  · exact decide_eq_true (h 1 (by omega))
  · exact decide_eq_true (h 2 (by omega))
  · exact decide_eq_true (h 3 (by omega))
theorem corn_down {cs : List Int} {j : Nat} (hj : j < 4) (h : ¬ ((j : Int) ∈ cs)) : cornB cs = false := by
  cases hc : cornB cs with
  | false => rfl
  | true =>
    exfalso
    unfold cornB at hc
    rw [Bool.and_eq_true, List.all_eq_true] at hc
    have := hc.2 (j : Int) (by match j, hj with | 0, _ | 1, _ | 2, _ | 3, _ => simp)
    exact h (of_decide_eq_true this)
theorem corn_len {cs : List Int} (h : cornB cs = true) : cs.length = 4 := by
  unfold cornB at h
  rw [Bool.and_eq_true] at h
  exact of_decide_eq_true h.1

set_option maxRecDepth 100000 in
set_option maxHeartbeats 4000000 in
theorem namingOf_any (A : Option Addr) (n c : Nat) (cs : List Int) (w : World) (h : Rd w A n cs) (hn : n ≤ 1048576) :
    Calls Try.prog 95 #[.slice A n c] w fun e w' => ((∃ x y z u, cs = [x, y, z, u] ∧ cornB cs = true ∧ e = .returned (.tuple #[fouV x y z u, .bool true])) ∨ (cornB cs = false ∧ e = .returned (.tuple #[fouV 0 0 0 0, .bool false]))) ∧ Below w.heap.size w w' := by
  have HL := Lib.hid h.1
  by_cases h4 : n = 4
  · subst h4
    have n0 := fou_new w 0 0 0 0
    have b0 := below_alloc (Below.refl w.heap.size w) (fouO 0 0 0 0)
    have n1 : FouAt ((w.alloc (fouO 0 0 0 0)).alloc (fouO 0 0 0 0)) (w.heap.size + 1) 0 0 0 0 := by
      have := fou_new (w.alloc (fouO 0 0 0 0)) 0 0 0 0
      rwa [World.size_alloc] at this
    have b1 := below_alloc b0 (fouO 0 0 0 0)
    obtain ⟨b, off, rfl, hbl, _⟩ := h.2 (by omega)
    go_enter Try.func95, Try.ntmps95
    go_wp2_with fail
    go_loopw [5, 11] (fun _ i wr => ∃ k : Nat, k ≤ 4 ∧ i = .int .i64 k ∧ (∀ j : Nat, j < k → (j : Int) ∈ cs) ∧ FouAt wr w.heap.size 0 0 0 0 ∧ FouAt wr (w.heap.size + 1) 0 0 0 0 ∧ Below w.heap.size w wr) (fun _ i _ => 4 - (intOf i).toNat)
    case atStart => exact ⟨0, by omega, rfl, fun j hj => absurd hj (by omega), n0.same (below_alloc (Below.refl _ _) _), n1, b1⟩
    case round =>
      clear n0 b0 n1 b1
      obtain ⟨k, hk, rfl, hup, hr, hm, hb⟩ := hrel
      have HU := Lib.hid hup
      have HR := Lib.hid hr
      have HM := Lib.hid hm
      have HB := Lib.hid hb
      by_cases hlt : k < 4
      · have hC := containsI_any (some ⟨b, off, none⟩) 4 c cs (k : Int) wr (h.same hb) hn
        by_cases hin : (k : Int) ∈ cs
        · rw [decide_eq_true hin] at hC
          have HI := Lib.hid hin
          clear hin hr hm hb hup h
          go_wp2_with fail
          refine hC.mono ?_
          rintro e w2 ⟨rfl, b2⟩
          go_wp2_with fail
          go_roundw
          case rel =>
            have hT : ∀ j : Nat, j < k + 1 → (j : Int) ∈ cs := fun j hj => by
              by_cases e : j = k
              · rw [e]; exact HI.out
              · exact HU.out j (by omega)
            first
              | exact ⟨k + 1, by omega, by go_num, hT, HR.out.same b2, HM.out.same b2, HB.out.trans (b2.mono HB.out.size)⟩
              | ((repeat apply Exists.intro); exact ⟨⟨k + 1, by omega, by go_num, hT, HR.out.same b2, HM.out.same b2, HB.out.trans (b2.mono HB.out.size)⟩, rfl⟩)
          case measure => simp [intOf]; omega
        · rw [decide_eq_false hin] at hC
          have HC := Lib.hid (corn_down hlt hin)
          clear hin hr hm hb hup h
          go_wp2_with fail
          refine hC.mono ?_
          rintro e w2 ⟨rfl, b2⟩
          have hr2 := HR.out.same b2
          have HR2 := Lib.hid hr2
          have HB2 := Lib.hid (HB.out.trans (b2.mono HB.out.size))
          obtain ⟨u0, u1, u2, u3, uf⟩ := hr2.cells
          clear hr2 b2
          go_wp2_with fail
          refine fou_back (f := Try.f95) rfl rfl rfl rfl (HR2.out.put 0 0 0 0) ?_
          exact ⟨.inr ⟨HC.out, rfl⟩, fou_below HB2.out (Nat.le_refl _) _ _ _ _⟩
      · obtain rfl : k = 4 := by omega
        have HC := Lib.hid (corn_up HL.out HU.out)
        obtain ⟨x, y, z, u, ex⟩ := four_of HL.out
        have EX := Lib.hid ex
        have hrd := h.same hb
        rw [ex] at hrd
        have hcp := copy_four (c := c) hm hrd
        obtain ⟨q0, q1, q2, q3, qf⟩ := (hm.put x y z u).cells
        have hr3 : FouAt (fou_put wr (w.heap.size + 1) x y z u) w.heap.size 0 0 0 0 := ((fou_below (Below.refl (w.heap.size + 1) wr) (Nat.le_refl _) x y z u).block _ (by omega)).trans hr
        have HR3 := Lib.hid hr3
        obtain ⟨r0, r1, r2, r3, rf⟩ := hr3.cells
        have HB3 := Lib.hid (fou_below hb (show w.heap.size ≤ w.heap.size + 1 by omega) x y z u)
        clear hr hm hb hup h hrd ex hr3
        go_wp2_with fail
        refine fou_back (f := Try.f95) rfl rfl rfl rfl (HR3.out.put x y z u) ?_
        exact ⟨.inl ⟨x, y, z, u, EX.out, HC.out, rfl⟩, fou_below HB3.out (Nat.le_refl _) _ _ _ _⟩
  · have HC := Lib.hid (show cornB cs = false by cases hc : cornB cs with | false => rfl | true => exact absurd (corn_len hc) (by rw [HL.out]; exact h4))
    have n0 : FouAt ((w.alloc (.cells #[.int .i64 0, .int .i64 0, .int .i64 0, .int .i64 0] 85)).alloc (.cells #[.int .i64 0, .int .i64 0, .int .i64 0, .int .i64 0] 85)) w.heap.size 0 0 0 0 := (fou_new w 0 0 0 0).same (below_alloc (Below.refl _ _) _)
    have N0 := Lib.hid n0
    have B1 := Lib.hid (below_alloc (below_alloc (Below.refl w.heap.size w) (fouO 0 0 0 0)) (fouO 0 0 0 0))
    obtain ⟨r0, r1, r2, r3, rf⟩ := n0.cells
    have d1 : ((n : Int) != 4) = true := by simp; omega
    clear h n0
    go_enter Try.func95, Try.ntmps95
    go_wp2_with fail
    refine fou_back (f := Try.f95) rfl rfl rfl rfl N0.out ?_
    exact ⟨.inr ⟨HC.out, rfl⟩, B1.out⟩
end Go.Proofs.Ytdnegamminhbfaa
