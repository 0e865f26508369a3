/- The program's reading of a path: the ring of its corners. -/
import Derived.Test.YtiadnbdefcimiaaPathOf
import Derived.Test.YtiadnbdefcimiaaRowH
namespace Go.Proofs.Ytiadnbdefcimiaa
open Go.RowKit Go.Sort Go.Lib

theorem stepRow_pt {r : List Int} (h : stepRow r = true) : stepP (rowPt r) ∧ r.length = 2 := by
  simp only [stepRow, Bool.and_eq_true, decide_eq_true_eq, Bool.not_eq_true', Bool.and_eq_false_iff, decide_eq_false_iff_not] at h
  refine ⟨⟨h.1.1.2, h.1.2, fun e => ?_⟩, h.1.1.1⟩
  have e1 : r.getD 0 0 = 0 := congrArg Prod.fst e
  have e2 : r.getD 1 0 = 0 := congrArg Prod.snd e
  rcases h.2 with h | h
  · exact h e1
  · exact h e2
abbrev ptsL (L : List (List Int)) : List Pt := L.map rowPt
theorem ptsL_at {L : List (List Int)} {i : Nat} (h : i < L.length) : atP (ptsL L) i = rowPt (rowL L i) := by
  simp [atP, ptsL, rowL, List.getD_eq_getElem?_getD, h]
theorem pathB_true {L : List (List Int)} (h : pathB L = true) : IsPath (ptsL L) ∧ ∀ i, i < L.length → stepRow (rowL L i) = true := by
  simp only [pathB, Bool.and_eq_true, decide_eq_true_eq, List.all_eq_true] at h
  refine ⟨⟨by simp only [ptsL, List.length_map]; exact h.1.2.1, by simp only [ptsL, List.length_map]; exact h.1.2.2, fun s hs => ?_, h.2⟩, fun i hi => h.1.1 _ (rowL_mem hi)⟩
  obtain ⟨r, hr, rfl⟩ := List.mem_map.1 hs
  exact (stepRow_pt (h.1.1 r hr)).1
theorem pathB_row {L : List (List Int)} {k : Nat} (hk : k < L.length) (h : stepRow (rowL L k) = false) : pathB L = false := by
  cases e : pathB L with
  | false => rfl
  | true => have := (pathB_true e).2 k hk; rw [h] at this; cases this
theorem pathB_of {L : List (List Int)} (h1 : 3 ≤ L.length) (h2 : L.length ≤ 8) (h3 : ∀ i, i < L.length → stepRow (rowL L i) = true) : pathB L = decide (tot (ptsL L) = (0, 0)) := by
  unfold pathB
  have : L.all stepRow = true := List.all_eq_true.2 fun r hr => by
    obtain ⟨i, hi, rfl⟩ := List.getElem_of_mem hr
    have := h3 i hi
    simpa [rowL, List.getD_eq_getElem?_getD, hi] using this
  rw [this, decide_eq_true h1, decide_eq_true h2]
  simp
/-- The corners of a path. -/
def corL (l : List Pt) : List Pt := (List.range l.length).map (cor l)
theorem corL_len (l : List Pt) : (corL l).length = l.length := by simp [corL]
theorem corL_at {l : List Pt} {i : Nat} (h : i < l.length) : atP (corL l) i = cor l i := by
  rw [atP_lt (by rw [corL_len]; exact h)]; simp [corL]
theorem part_bd {L : List (List Int)} {k : Nat} (hk : k ≤ L.length) (h : ∀ i, i < k → stepRow (rowL L i) = true) : (-(9 * (k : Int)) ≤ (cor (ptsL L) k).1 ∧ (cor (ptsL L) k).1 ≤ 9 * k) ∧ (-(9 * (k : Int)) ≤ (cor (ptsL L) k).2 ∧ (cor (ptsL L) k).2 ≤ 9 * k) := by
  induction k with
  | zero => rw [cor_zero]; simp
  | succ k ih =>
    have h1 := ih (by omega) (fun i hi => h i (by omega))
    have h2 := (stepRow_pt (h k (by omega))).1
    rw [cor_succ (by simp; omega), ptsL_at (by omega)]
    unfold stepP at h2
    show (_ ≤ (cor (ptsL L) k).1 + (rowPt (rowL L k)).1 ∧ (cor (ptsL L) k).1 + (rowPt (rowL L k)).1 ≤ _) ∧ (_ ≤ (cor (ptsL L) k).2 + (rowPt (rowL L k)).2 ∧ (cor (ptsL L) k).2 + (rowPt (rowL L k)).2 ≤ _)
    generalize rowPt (rowL L k) = q at *
    omega

theorem nodup_map_on {f : Nat → Nat} : ∀ {l : List Nat}, l.Nodup → (∀ i ∈ l, ∀ j ∈ l, f i = f j → i = j) → (l.map f).Nodup
  | [], _, _ => by simp
  | a :: l, h, hf => by
    have h' := List.nodup_cons.1 h
    rw [List.map_cons, List.nodup_cons]
    refine ⟨fun hm => ?_, nodup_map_on h'.2 fun i hi j hj => hf i (by simp [hi]) j (by simp [hj])⟩
    obtain ⟨b, hb, e⟩ := List.mem_map.1 hm
    have := hf b (by simp [hb]) a (by simp) e
    subst this
    exact h'.1 hb
end Go.Proofs.Ytiadnbdefcimiaa
