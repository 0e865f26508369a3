/- The model's part lists: l9Lists, l9Best. -/
import Derived.Test.YtaffdppmpfgghaaParS
import Derived.Test.YtaffdppmpfgghaaRowX
namespace Go.Proofs.Ytaffdppmpfgghaa
open Go.RowKit Go.Sort Go.Lib

/-- Rows that are known by their values, each the call's own. -/
def RowsO (w : World) (B : Nat) (vs : List Value) (L : List (List Int)) : Prop :=
  vs.length = L.length ∧ ∀ i, i < L.length → ∃ A c, vs[i]? = some (.slice A (rowL L i).length c) ∧ Own w B A (rowL L i).length c (rowL L i)
theorem RowsO.nil_ (w : World) (B : Nat) : RowsO w B [] [] := ⟨rfl, fun i hi => absurd hi (by simp)⟩
theorem RowsO.same {w w' : World} {B : Nat} {vs : List Value} {L : List (List Int)} (h : RowsO w B vs L) (hb : Below w.heap.size w w') : RowsO w' B vs L :=
  ⟨h.1, fun i hi => by
    obtain ⟨A, c, e, ho⟩ := h.2 i hi
    exact ⟨A, c, e, ho.same hb⟩⟩
theorem RowsO.lower {w : World} {B B' : Nat} {vs : List Value} {L : List (List Int)} (h : RowsO w B vs L) (hB : B' ≤ B) : RowsO w B' vs L :=
  ⟨h.1, fun i hi => by
    obtain ⟨A, c, e, ho⟩ := h.2 i hi
    exact ⟨A, c, e, ho.lower hB⟩⟩
/-- What turns a slice of rows turns none of them. -/
theorem RowsO.app {w w' : World} {B B2 n c : Nat} {A : Option Addr} {vs us : List Value} {L : List (List Int)} (h : RowsO w B vs L) (ho : OwnW w B2 A n c us) (hg : w.grownBy w' (Value.slice A n c).ownBlock) : RowsO w' B vs L :=
  ⟨h.1, fun i hi => by
    obtain ⟨A1, c1, e, h1⟩ := h.2 i hi
    refine ⟨A1, c1, e, World.ownsRow.kept h1 hg ?_⟩
    rcases h1.2 with ⟨e1, _⟩ | ⟨g, cap, cur, e1, _, hh, _⟩
    · rw [e1]; exact .inl rfl
    · refine .inr ?_
      rw [e1]
      rcases ho.1.2 with ⟨e', _⟩ | ⟨g', cap', cur', e', _, hh', _⟩
      · rw [e']; simp [Value.ownBlock]
      · rw [e']
        intro hgg
        simp only [Value.ownBlock, Option.some.injEq] at hgg
        subst hgg
        rw [hh] at hh'
        simp only [Option.some.injEq, Obj.cells.injEq] at hh'
        exact absurd hh'.2.1 (by decide)⟩
theorem RowsO.cat {w : World} {B : Nat} {vs us : List Value} {L M : List (List Int)} (h : RowsO w B vs L) (k : RowsO w B us M) : RowsO w B (vs ++ us) (L ++ M) := by
  refine ⟨by simp [h.1, k.1], fun i hi => ?_⟩
  by_cases hlt : i < L.length
  · have e1 : (vs ++ us)[i]? = vs[i]? := List.getElem?_append_left (by rw [h.1]; exact hlt)
    have e2 : rowL (L ++ M) i = rowL L i := by unfold rowL; simp [List.getD_eq_getElem?_getD, List.getElem?_append_left hlt]
    rw [e1, e2]
    exact h.2 i hlt
  · have e1 : (vs ++ us)[i]? = us[i - L.length]? := by rw [List.getElem?_append_right (by rw [h.1]; omega), h.1]
    have e2 : rowL (L ++ M) i = rowL M (i - L.length) := by unfold rowL; simp [List.getD_eq_getElem?_getD, List.getElem?_append_right (show L.length ≤ i by omega)]
    rw [e1, e2]
    exact k.2 (i - L.length) (by simp at hi; omega)
theorem RowsO.slices {w : World} {B : Nat} {vs : List Value} {L : List (List Int)} (h : RowsO w B vs L) : ∀ v ∈ vs, ∃ A m c, v = .slice A m c := fun v hv => by
  obtain ⟨i, hi, e⟩ := List.getElem_of_mem hv
  obtain ⟨A, c, e1, _⟩ := h.2 i (by rw [← h.1]; exact hi)
  rw [List.getElem?_eq_getElem hi, e] at e1
  injection e1 with e1
  exact ⟨A, _, c, e1⟩

/-! How many there are at most. -/
def bdL : Nat → Nat → Nat
  | 0, _ => 1
  | r + 1, M => (M + 2) * bdL r (M + 1)
theorem bdL_mono : ∀ (r : Nat) {M M' : Nat}, M ≤ M' → bdL r M ≤ bdL r M'
  | 0, _, _, _ => Nat.le_refl _
  | r + 1, M, M', h => Nat.mul_le_mul (by omega) (bdL_mono r (by omega))
theorem lisF_bd {rec : List Int → Nat → List (List Int)} {Q : Tri → Bool} {l : List Int} {M b : Nat} (h : ∀ l' M', M' ≤ M + 1 → (rec l' M').length ≤ b) : ∀ c, c ≤ M + 1 → (lisF rec Q l M c).length ≤ (c + 1) * b
  | 0, _ => by rw [lisF, Nat.zero_add, Nat.one_mul]; exact h _ _ (by omega)
  | c + 1, hc => by
    rw [lisF, List.length_append, Nat.succ_mul]
    refine Nat.add_le_add (lisF_bd h c (by omega)) ?_
    split
    · exact Nat.zero_le _
    · exact h _ _ (by omega)
theorem lis_bd {Q : Tri → Bool} : ∀ (r : Nat) (l : List Int) (M : Nat), (lisP Q r l M).length ≤ bdL r M
  | 0, l, M => by rw [lisP]; split <;> simp [bdL]
  | r + 1, l, M => by
    rw [lisP, bdL]
    exact lisF_bd (fun l' M' h => Nat.le_trans (lis_bd r l' M') (bdL_mono r h)) (M + 1) (Nat.le_refl _)
theorem bdL_few : ∀ r, r < 10 → ∀ M, M < 10 → r + M ≤ 9 → bdL r M ≤ 3628800 := by decide
theorem lisF_few {Q : Tri → Bool} {r M : Nat} (l : List Int) (h : r + 1 + M ≤ 9) {c : Nat} (hc : c ≤ M + 1) : (lisF (lisP Q r) Q l M c).length ≤ 3628800 := by
  have h1 := lisF_bd (Q := Q) (l := l) (fun l' M' h => Nat.le_trans (lis_bd (Q := Q) r l' M') (bdL_mono r h)) c hc
  have h2 := bdL_few (r + 1) (by omega) M (by omega) (by omega)
  rw [bdL] at h2
  exact Nat.le_trans h1 (Nat.le_trans (Nat.mul_le_mul_right _ (by omega)) h2)

/-- What a call for lists gives. -/
def GotL (w : World) (L : List (List Int)) (e : Ending) (w' : World) : Prop :=
  ∃ A c vs, e = .returned (.slice A L.length c) ∧ OwnW w' w.heap.size A L.length c vs ∧ RowsO w' w.heap.size vs L ∧ Below w.heap.size w w'
/-- The lists so far. -/
def LstL (w : World) (L : List (List Int)) (v : Value) (wr : World) : Prop :=
  ∃ A c vs, v = .slice A L.length c ∧ OwnW wr w.heap.size A L.length c vs ∧ RowsO wr w.heap.size vs L ∧ Below w.heap.size w wr
theorem allThree_step {l : List Int} {M k : Nat} (hk : k < M) (_ : ∀ s : Nat, s < k → (ofP l (s : Int)).length = 3) (hn : (ofP l (k : Int)).length ≠ 3) : allThree l M = false := by
  cases hc : allThree l M with
  | false => rfl
  | true => exact absurd (allThree_iff.1 hc k hk) hn
end Go.Proofs.Ytaffdppmpfgghaa
