/- Joined: Ring, Around. -/
import Derived.Test.YtiadnbdefcimiaaDiv
import Derived.RangeFuncNested
import Derived.RangeFuncBound
import Derived.RangeFuncCalls
import Derived.RangeFuncLeaves
import Derived.RangeFuncBox
import Derived.Shelf.Abstract
import Derived.Shelf.RegionOpen
import Derived.OwnWalkIn
import Derived.TacticsInMore
import Derived.LoopNIn
import Derived.LoopIn
import Derived.BigRegionIn
import Derived.Stop.RegionWithIn
import Derived.LaidEqlPtr
/- Corners: a ring of blocks; the step of a corner. -/
namespace Go.Proofs.Ytiadnbdefcimiaa
open Go.RowKit Go.Sort Go.Lib

abbrev ptrV (g : Nat) : Value := .pointer (some ⟨g, 0, none⟩)
end Go.Proofs.Ytiadnbdefcimiaa

/- The iterator of corners: it gives each of the ring once, or stops where a round has said so. -/
namespace Go.Proofs.Ytiadnbdefcimiaa
open Go.RowKit Go.Sort Go.Lib Go.Shelf
attribute [local go_sem] Oper.semAt_some

/-- What is there below B, and the box of the iterator, lies as it lay. -/
def KpC (B cb : Nat) (W W' : World) : Prop := (∀ k, k < B → W'.heap[k]? = W.heap[k]?) ∧ W'.heap[cb]? = W.heap[cb]?
theorem KpC.refl (B cb : Nat) (W : World) : KpC B cb W W := ⟨fun _ _ => rfl, rfl⟩
theorem KpC.trans {B cb : Nat} {X Y Z : World} (h : KpC B cb X Y) (k : KpC B cb Y Z) : KpC B cb X Z := ⟨fun i hi => (k.1 i hi).trans (h.1 i hi), k.2.trans h.2⟩
theorem KpC.put {B cb M : Nat} (hB : B ≤ M) (hcb : cb < M) (W : World) (l : Nat) (o o' : Obj) (h : M ≤ l) (_ : W.heap[l]? = some o) (_ : o.isCells = false) (_ : o.isWalk = false) : KpC B cb W (W.putObj l o') := by
  have hg := grownBy_putObj' W l o'
  have hsz : (W.putObj l o').heap.size = W.heap.size := by unfold World.putObj; simp
  have key : ∀ k, k ≠ l → (W.putObj l o').heap[k]? = W.heap[k]? := fun k hk => by
    rcases Nat.lt_or_ge k W.heap.size with h1 | h1
    · exact hg.block k h1 (fun e => by injection e; omega)
    · rw [Array.getElem?_eq_none h1]; exact Array.getElem?_eq_none (by rw [hsz]; exact h1)
  exact ⟨fun k hk => key k (by omega), key cb (by omega)⟩
theorem KpC.of {B cb : Nat} {W W' : World} {row : Option Nat} (hg : W.grownBy W' row) (hB : B ≤ W.heap.size) (hcb : cb < W.heap.size) (h1 : ∀ k, row = some k → B ≤ k ∧ k ≠ cb) : KpC B cb W W' :=
  ⟨fun k hk => hg.block k (by omega) (fun e => by have := (h1 k e.symm).1; omega), hg.block cb hcb (fun e => (h1 cb e.symm).2 rfl)⟩
theorem KpC.below {B cb M : Nat} {W W' : World} (h : Below M W W') (hB : B ≤ M) (hcb : cb < M) : KpC B cb W W' := ⟨fun k hk => h.block k (by omega), h.block cb hcb⟩
theorem KpC.cell {B cb : Nat} {W W' : World} (h : KpC B cb W W') (o : Nat) : W'.cell? ⟨cb, o, none⟩ = W.cell? ⟨cb, o, none⟩ := World.cell?_of_block (a := ⟨cb, o, none⟩) h.2
theorem jdrew {β : Type} {B : Nat} {J : β → World → Prop} (h : AbidesFrom B J) {s : β} {W : World} (hj : J s W) : J s W.drew := h s W W.drew none hj ⟨rfl, rfl, rfl, Nat.le_refl _, fun _ _ _ => rfl⟩ (fun r e => by cases e)

def encC (gs : List Nat) {n : Nat} (i : Fin n) : Array Value := #[ptrV (gs.getD i.1 0)]
def fz {n : Nat} (h : 0 < n) (i : Nat) : Fin n := ⟨i % n, Nat.mod_lt _ h⟩
def firsts {n : Nat} (h : 0 < n) (k : Nat) : List (Fin n) := (List.range k).map (fz h)
theorem firsts_succ {n : Nat} (h : 0 < n) (k : Nat) : firsts h (k + 1) = firsts h k ++ [fz h k] := by simp [firsts, List.range_succ]
theorem firsts_len {n : Nat} (h : 0 < n) (k : Nat) : (firsts h k).length = k := by simp [firsts]
theorem fz_val {n : Nat} (h : 0 < n) {i : Nat} (hi : i < n) : (fz h i).1 = i := Nat.mod_eq_of_lt hi

/-- Which place of the ring a pointer is. -/
def posOf (gs : List Nat) : Value → Nat
  | .pointer (some a) => gs.idxOf a.block
  | _ => 0
theorem idx_nodup : ∀ {l : List Nat} {k : Nat}, l.Nodup → k < l.length → l.idxOf (l.getD k 0) = k
  | a :: l, 0, _, _ => by simp
  | a :: l, k + 1, h, hk => by
    have h' := List.nodup_cons.1 h
    have hk' : k < l.length := by simpa using hk
    have e : (a :: l).getD (k + 1) 0 = l.getD k 0 := by simp
    have hm : l.getD k 0 ∈ l := by simp [List.getD_eq_getElem?_getD, hk']
    have hne : a ≠ l.getD k 0 := fun e => h'.1 (e ▸ hm)
    rw [e, List.idxOf_cons, beq_eq_false_iff_ne.2 hne, idx_nodup h'.2 hk']
    rfl
/-- What a round has answered. -/
def SaidC (B cb : Nat) {n : Nat} (J Jx : List (Fin n) → World → Prop) (l : List (Fin n)) (W1 : World) (v : Bool) (W' : World) : Prop := (v = true ∧ J l W' ∧ KpC B cb W1 W') ∨ (v = false ∧ Jx l W')

end Go.Proofs.Ytiadnbdefcimiaa
