/- The program's reading of a path: the ring of its corners. -/
import Derived.Test.YtdnegamminhbfaaPathOf
import Derived.Test.YtdnegamminhbfaaRowH
namespace Go.Proofs.Ytdnegamminhbfaa
open Go.RowKit Go.Sort Go.Lib

theorem stepRow_pt {r : List Int} (h : stepRow r = true) : stepP (rowPt r) ∧ r.length = 2 := by
  simp only [stepRow, Bool.and_eq_true, decide_eq_true_eq, Bool.not_eq_true', Bool.and_eq_false_iff, decide_eq_false_iff_not] at h
  refine ⟨⟨h.1.1.2, h.1.2, fun e => ?_⟩, h.1.1.1⟩
  have e1 : r.getD 0 0 = 0 := congrArg Prod.fst e
  have e2 : r.getD 1 0 = 0 := congrArg Prod.snd e
  rcases h.2 with h | h
  · exact h e1
  · exact h e2
abbrev ptsL (L : List (List Int)) : List Pt := L.map rowPt
theorem ptsL_at {L : List (List Int)} {i : Nat} (h : i < L.length) : atP (ptsL L) i = rowPt (rowL L i) := by
  simp [atP, ptsL, rowL, List.getD_eq_getElem?_getD, h]
theorem pathB_true {L : List (List Int)} (h : pathB L = true) : IsPath (ptsL L) ∧ ∀ i, i < L.length → stepRow (rowL L i) = true := by
  simp only [pathB, Bool.and_eq_true, decide_eq_true_eq, List.all_eq_true] at h
  refine ⟨⟨by simp only [ptsL, List.length_map]; exact h.1.2.1, by simp only [ptsL, List.length_map]; exact h.1.2.2, fun s hs => ?_, h.2⟩, fun i hi => h.1.1 _ (rowL_mem hi)⟩
  obtain ⟨r, hr, rfl⟩ := List.mem_map.1 hs
  exact (stepRow_pt (h.1.1 r hr)).1
theorem pathB_row {L : List (List Int)} {k : Nat} (hk : k < L.length) (h : stepRow (rowL L k) = false) : pathB L = false := by
  cases e : pathB L with
  | false => rfl
  | true => have := (pathB_true e).2 k hk; rw [h] at this; cases this
theorem pathB_of {L : List (List Int)} (h1 : 3 ≤ L.length) (h2 : L.length ≤ 8) (h3 : ∀ i, i < L.length → stepRow (rowL L i) = true) : pathB L = decide (tot (ptsL L) = (0, 0)) := by
  unfold pathB
  have : L.all stepRow = true := List.all_eq_true.2 fun r hr => by
    obtain ⟨i, hi, rfl⟩ := List.getElem_of_mem hr
    have := h3 i hi
    simpa [rowL, List.getD_eq_getElem?_getD, hi] using this
  rw [this, decide_eq_true h1, decide_eq_true h2]
  simp
/-- The corners of a path. -/
def corL (l : List Pt) : List Pt := (List.range l.length).map (cor l)
theorem corL_len (l : List Pt) : (corL l).length = l.length := by simp [corL]
theorem corL_at {l : List Pt} {i : Nat} (h : i < l.length) : atP (corL l) i = cor l i := by
  rw [atP_lt (by rw [corL_len]; exact h)]; simp [corL]
theorem part_bd {L : List (List Int)} {k : Nat} (hk : k ≤ L.length) (h : ∀ i, i < k → stepRow (rowL L i) = true) : (-(9 * (k : Int)) ≤ (cor (ptsL L) k).1 ∧ (cor (ptsL L) k).1 ≤ 9 * k) ∧ (-(9 * (k : Int)) ≤ (cor (ptsL L) k).2 ∧ (cor (ptsL L) k).2 ≤ 9 * k) := by
  induction k with
  | zero => rw [cor_zero]; simp
  | succ k ih =>
    have h1 := ih (by omega) (fun i hi => h i (by omega))
    have h2 := (stepRow_pt (h k (by omega))).1
    rw [cor_succ (by simp; omega), ptsL_at (by omega)]
    unfold stepP at h2
    show (_ ≤ (cor (ptsL L) k).1 + (rowPt (rowL L k)).1 ∧ (cor (ptsL L) k).1 + (rowPt (rowL L k)).1 ≤ _) ∧ (_ ≤ (cor (ptsL L) k).2 + (rowPt (rowL L k)).2 ∧ (cor (ptsL L) k).2 + (rowPt (rowL L k)).2 ≤ _)
    generalize rowPt (rowL L k) = q at *
    omega

theorem nodup_map_on {f : Nat → Nat} : ∀ {l : List Nat}, l.Nodup → (∀ i ∈ l, ∀ j ∈ l, f i = f j → i = j) → (l.map f).Nodup
  | [], _, _ => by simp
  | a :: l, h, hf => by
    have h' := List.nodup_cons.1 h
    rw [List.map_cons, List.nodup_cons]
    refine ⟨fun hm => ?_, nodup_map_on h'.2 fun i hi j hj => hf i (by simp [hi]) j (by simp [hj])⟩
    obtain ⟨b, hb, e⟩ := List.mem_map.1 hm
    have := hf b (by simp [hb]) a (by simp) e
    subst this
    exact h'.1 hb
/-- A corner without a next one. -/
def CnNil (w : World) (g : Nat) (x y : Int) : Prop := w.heap[g]? = some (.cells #[.int .i64 x, .int .i64 y, .pointer none] 105 (0, 0))
theorem CnNil.lt {w : World} {g : Nat} {x y : Int} (h : CnNil w g x y) : g < w.heap.size := (Array.getElem?_eq_some_iff.1 h).1
theorem CnNil.same {w w' : World} {g : Nat} {x y : Int} (h : CnNil w g x y) (hb : Below w.heap.size w w') : CnNil w' g x y := (hb.block _ h.lt).trans h
theorem CnNil.cells {w : World} {g : Nat} {x y : Int} (h : CnNil w g x y) : w.cell? ⟨g, 0, none⟩ = some (.int .i64 x) ∧ w.cell? ⟨g, 1, none⟩ = some (.int .i64 y) ∧ w.cell? ⟨g, 2, none⟩ = some (.pointer none) ∧ w.frozen? ⟨g, 2, none⟩ = false := by
  refine ⟨?_, ?_, ?_, frozen_of_row w _ 2 _ _ h⟩
  · rw [cell_of_row w _ 0 _ _ _ h]; rfl
  · rw [cell_of_row w _ 1 _ _ _ h]; rfl
  · rw [cell_of_row w _ 2 _ _ _ h]; rfl
theorem CnNil.set {w : World} {g : Nat} {x y : Int} (h : CnNil w g x y) (g2 : Nat) : CnAt (w.setCell ⟨g, 2, none⟩ (ptrV g2)) g x y g2 := by
  have h1 := heap_setCell_same w g 2 _ _ (ptrV g2) h
  unfold CnAt
  simpa using h1

/-- The chain of corners that the loop has made. -/
structure Chn (w : World) (gs : List Nat) (l : List Pt) (k : Nat) (wr : World) : Prop where
  len : gs.length = k + 1
  nodup : gs.Nodup
  new_ : ∀ i, i ≤ k → w.heap.size ≤ gs.getD i 0
  mid : ∀ i, i < k → CnAt wr (gs.getD i 0) (cor l i).1 (cor l i).2 (gs.getD (i + 1) 0)
  last : CnNil wr (gs.getD k 0) (cor l k).1 (cor l k).2
  bel : Below w.heap.size w wr
theorem Chn.same {w wr w' : World} {gs : List Nat} {l : List Pt} {k : Nat} (h : Chn w gs l k wr) (hb : Below wr.heap.size wr w') : Chn w gs l k w' :=
  ⟨h.len, h.nodup, h.new_, fun i hi => (h.mid i hi).same hb, h.last.same hb, h.bel.trans (hb.mono h.bel.size)⟩
theorem Chn.lt {w wr : World} {gs : List Nat} {l : List Pt} {k : Nat} (h : Chn w gs l k wr) {i : Nat} (hi : i ≤ k) : gs.getD i 0 < wr.heap.size := by
  by_cases e : i = k
  · subst e; exact h.last.lt
  · exact (h.mid i (by omega)).lt
theorem Chn.inj {w wr : World} {gs : List Nat} {l : List Pt} {k : Nat} (h : Chn w gs l k wr) {i j : Nat} (hi : i ≤ k) (hj : j ≤ k) (e : gs.getD i 0 = gs.getD j 0) : i = j := by
  have hi' : i < gs.length := by rw [h.len]; omega
  have hj' : j < gs.length := by rw [h.len]; omega
  have e1 : gs.getD i 0 = gs[i] := by simp [List.getD_eq_getElem?_getD, hi']
  have e2 : gs.getD j 0 = gs[j] := by simp [List.getD_eq_getElem?_getD, hj']
  rw [e1, e2] at e
  exact (List.getElem_inj h.nodup).1 e
theorem CnAt.kept {w : World} {g g2 g' o : Nat} {x y : Int} {v : Value} (h : CnAt w g x y g2) (hne : g ≠ g') : CnAt (w.setCell ⟨g', o, none⟩ v) g x y g2 := (Below.heap_setCell w ⟨g', o, none⟩ v g hne).trans h
/-- One corner more: made in a new block, linked behind the last. -/
theorem Chn.step {w wr : World} {gs : List Nat} {l : List Pt} {k : Nat} (h : Chn w gs l k wr) (hk : k < l.length) :
    Chn w (gs ++ [wr.heap.size]) l (k + 1) ((wr.alloc (.cells #[.int .i64 (cor l (k + 1)).1, .int .i64 (cor l (k + 1)).2, .pointer none] 105)).setCell ⟨gs.getD k 0, 2, none⟩ (ptrV wr.heap.size)) := by
  have hb : Below wr.heap.size wr (wr.alloc (.cells #[.int .i64 (cor l (k + 1)).1, .int .i64 (cor l (k + 1)).2, .pointer none] 105)) := below_alloc (Below.refl _ _) _
  have h2 := h.same hb
  have hlt := h.lt (Nat.le_refl k)
  have hn : CnNil (wr.alloc (.cells #[.int .i64 (cor l (k + 1)).1, .int .i64 (cor l (k + 1)).2, .pointer none] 105)) wr.heap.size (cor l (k + 1)).1 (cor l (k + 1)).2 := World.alloc_heap_new wr _
  have eo : ∀ i, i ≤ k → (gs ++ [wr.heap.size]).getD i 0 = gs.getD i 0 := fun i hi => by
    simp only [List.getD_eq_getElem?_getD]; rw [List.getElem?_append_left (by rw [h.len]; omega)]
  have en : (gs ++ [wr.heap.size]).getD (k + 1) 0 = wr.heap.size := by
    simp only [List.getD_eq_getElem?_getD]; rw [List.getElem?_append_right (by rw [h.len]; omega), h.len]; simp
  refine ⟨by simp [h.len], ?_, fun i hi => ?_, fun i hi => ?_, ?_, h2.bel.setCell (p := ⟨gs.getD k 0, 2, none⟩) (h.new_ k (Nat.le_refl _)) _⟩
  · rw [List.nodup_append]
    refine ⟨h.nodup, by simp, fun a ha b hb' e => ?_⟩
    obtain rfl : b = wr.heap.size := by simpa using hb'
    obtain ⟨i, hi, e2⟩ := List.getElem_of_mem ha
    have := h.lt (i := i) (by have := h.len; omega)
    have e3 : gs.getD i 0 = a := by simp [List.getD_eq_getElem?_getD, hi, e2]
    omega
  · by_cases e : i ≤ k
    · rw [eo i e]; exact h.new_ i e
    · obtain rfl : i = k + 1 := by omega
      rw [en]; exact h.bel.size
  · by_cases e : i = k
    · subst e
      rw [eo i (Nat.le_refl _), en]
      exact h2.last.set _
    · rw [eo i (by omega), eo (i + 1) (by omega)]
      exact (h2.mid i (by omega)).kept (fun e2 => e (h.inj (by omega) (Nat.le_refl _) e2))
  · rw [en]
    exact (Below.heap_setCell _ ⟨gs.getD k 0, 2, none⟩ _ _ (by show wr.heap.size ≠ gs.getD k 0; omega)).trans hn
/-- The chain is closed to a ring. -/
theorem Chn.ring {w wr : World} {gs : List Nat} {l : List Pt} {k : Nat} (h : Chn w gs l k wr) (hk : k + 1 = l.length) :
    Ring (wr.setCell ⟨gs.getD k 0, 2, none⟩ (ptrV (gs.getD 0 0))) gs (corL l) := by
  refine ⟨by rw [h.len, corL_len]; omega, by rw [corL_len]; omega, h.nodup, fun i hi => ?_⟩
  rw [corL_len] at hi ⊢
  rw [corL_at hi]
  by_cases e : i = k
  · subst e
    rw [hk, Nat.mod_self]
    exact h.last.set _
  · rw [Nat.mod_eq_of_lt (by omega)]
    exact (h.mid i (by omega)).kept (fun e2 => e (h.inj (by omega) (Nat.le_refl _) e2))
end Go.Proofs.Ytdnegamminhbfaa
