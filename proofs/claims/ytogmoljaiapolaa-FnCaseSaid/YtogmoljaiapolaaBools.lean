/- A slice of bools of the call's own. -/
import Derived.Test.YtogmoljaiapolaaApp
namespace Go.Proofs.Ytogmoljaiapolaa
open Go.RowKit

def boolsV (bs : List Bool) : List Value := bs.map .bool
def OwnL (w : World) (B : Nat) (g n : Nat) (bs : List Bool) : Prop := w.ownsRow B 4 1 (.slice (some ⟨g, 0, none⟩) n n) n (boolsV bs)
theorem boolInfo : (Try.prog.info? 4).map (fun i => (i.zero, i.size, i.bytes)) = some (some (.bool false), 1, 1) := by kernel_rfl
theorem OwnL.len {w : World} {B g n : Nat} {bs : List Bool} (h : OwnL w B g n bs) : bs.length = n := by
  have := h.1
  unfold boolsV at this
  simpa using this
theorem OwnL.cell {w : World} {B g n : Nat} {bs : List Bool} (h : OwnL w B g n bs) (j : Nat) (hj : j < n) : w.cell? ⟨g, j, none⟩ = some (.bool (bs.getD j false)) := by
  have := World.ownsRow.cellAt h j (by omega)
  rw [this]
  have hl := h.len
  simp [boolsV, hl, hj]
theorem OwnL.free {w : World} {B g n : Nat} {bs : List Bool} (h : OwnL w B g n bs) (j : Nat) : w.frozen? ⟨g, j, none⟩ = false := World.ownsRow.frozenAt h j
theorem OwnL.lt {w : World} {B g n : Nat} {bs : List Bool} (h : OwnL w B g n bs) : B ≤ g ∧ g < w.heap.size := World.ownsRow.lt h g rfl
theorem OwnL.stored {w : World} {B g n : Nat} {bs : List Bool} (h : OwnL w B g n bs) (j : Nat) (u : Bool) : OwnL (w.setCell ⟨g, j, none⟩ (.bool u)) B g n (bs.set j u) := by
  have := (World.ownsRow.stored h j (.bool u)).1
  have e : (boolsV bs).set j (.bool u) = boolsV (bs.set j u) := by simp [boolsV, List.map_set]
  unfold OwnL
  rw [← e]
  exact this
theorem OwnL.far {w w' : World} {B g n : Nat} {bs : List Bool} {row : Option Nat} (h : OwnL w B g n bs) (hg : w.grownBy w' row) (hr : ∀ k, row = some k → k ≠ g) : OwnL w' B g n bs :=
  World.ownsRow.kept h hg (.inr fun e => hr g e.symm rfl)
theorem OwnL.same {w w' : World} {B g n : Nat} {bs : List Bool} (h : OwnL w B g n bs) (hb : Below w.heap.size w w') : OwnL w' B g n bs := h.far (grown_of_below hb) (fun k e => by cases e)
theorem OwnL.set_other {w : World} {B g n j k : Nat} {bs : List Bool} {u : Value} (h : OwnL w B g n bs) (hk : k ≠ g) : OwnL (w.setCell ⟨k, j, none⟩ u) B g n bs :=
  h.far (row := some k) ⟨rfl, rfl, rfl, by simp, fun i _ hi => heap_setCell_other w ⟨k, j, none⟩ i u (fun e => hi (by simp [e]))⟩ (fun i e => by cases e; exact hk)
theorem made_bools (n : Nat) : (madeCells (Value.bool false).cells (n * 1)).toList = boolsV (List.replicate n false) := by
  rw [show (Value.bool false).cells = #[.bool false] from rfl, toList_madeCells_one]
  simp [boolsV]
theorem OwnL.made {w : World} {B g n : Nat} (h : w.ownsRow B 4 1 (.slice (some ⟨g, 0, none⟩) n n) n (madeCells (Value.bool false).cells (n * 1)).toList) : OwnL w B g n (List.replicate n false) := by
  rw [made_bools] at h
  exact h
theorem getD_setB (bs : List Bool) (k j : Nat) (u : Bool) (hk : k < bs.length) : (bs.set k u).getD j false = if j = k then u else bs.getD j false := by
  by_cases h : j = k
  · subst h; simp [hk]
  · simp [h, Ne.symm h, List.getD_eq_getElem?_getD]
/-- A row of ints of the call's own lies apart from a row of bools. -/
theorem own_apart {w : World} {B B' n c g m : Nat} {A : Option Addr} {xs : List Int} {bs : List Bool} (h : Own w B A n c xs) (k : OwnL w B' g m bs) : ∀ j, (Value.slice A n c).ownBlock = some j → j ≠ g := by
  intro j hj e
  subst e
  rcases h.2 with ⟨hv, _⟩ | ⟨g1, cap1, cur1, hv, _, hh1, _⟩
  · rw [hv] at hj
    cases hj
  · rw [hv] at hj
    have e1 : g1 = j := by simpa [Value.ownBlock] using hj
    subst e1
    rcases k.2 with ⟨hv2, _⟩ | ⟨g2, cap2, cur2, hv2, _, hh2, _⟩
    · cases hv2
    · have e2 : g1 = g2 := by
        injection hv2 with h1
        injection h1 with h1
        injection h1
      subst e2
      rw [hh1] at hh2
      injection hh2 with h3
      injection h3 with _ h4
      exact absurd h4 (by decide)
end Go.Proofs.Ytogmoljaiapolaa
