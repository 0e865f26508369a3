/- What a sort of a slice of rows leaves. Nothing of the program but its words on memory. -/
import Derived.Test.YtcfmnjkgebopcaaTriRows
import Derived.Shelf.SlSortCmp.NoneTotal
namespace Go.Proofs.Ytcfmnjkgebopcaa
open Go.RowKit Go.Sort Go.Lib

/-- A row of a list of rows. -/
abbrev RowOf (Z : List (Nat × T3)) := {p : Nat × T3 // p ∈ Z}
abbrev encR (Z : List (Nat × T3)) (p : RowOf Z) : Value := rowV p.1.1
abbrev cmpR (Z : List (Nat × T3)) (p q : RowOf Z) : Int := cmp3 p.1.2 q.1.2
theorem ltR (Z : List (Nat × T3)) (p q : RowOf Z) : ltOf (cmpR Z) p q = true ↔ lex3 p.1.2 q.1.2 := by
  unfold ltOf
  rw [decide_eq_true_eq]
  exact cmp3_lt _ _
theorem ltR_no (Z : List (Nat × T3)) (p q : RowOf Z) : ltOf (cmpR Z) p q = false ↔ ¬ lex3 p.1.2 q.1.2 := by rw [← ltR]; simp
theorem swoR (Z : List (Nat × T3)) : SWO (ltOf (cmpR Z)) where
  irrefl x := by rw [ltR_no]; unfold lex3; omega
  trans x y z h1 h2 := by rw [ltR] at *; unfold lex3 at *; omega
  ntrans x y z h1 h2 := by rw [ltR_no] at *; unfold lex3 at *; omega

section
variable {α : Type} [Inhabited α] (enc : α → Value)
theorem sortW_other {w : World} {blk m : Nat} {d : Array α} {os : Array Obj} {g : Nat} (hg : g < w.heap.size) (hne : g ≠ blk) : (sortWorld enc w blk 0 m d os).heap[g]? = w.heap[g]? := by
  unfold sortWorld
  rw [heap_grow_old _ _ (by simpa using hg)]
  have : blk ≠ g := Ne.symm hne
  simp [putRow, mapBlock, Sort.ahead, Array.getElem?_modify, this]
theorem sortW_row {w : World} {blk m : Nat} {d : Array α} {os : Array Obj} {cur : Array Value} {e : TypeId} {fr : Nat × Nat} (hb : w.heap[blk]? = some (.cells cur e fr)) :
    (sortWorld enc w blk 0 m d os).heap[blk]? = some (.cells (putCells enc 0 d cur) e fr) := by
  have hg : blk < w.heap.size := (Array.getElem?_eq_some_iff.1 hb).1
  unfold sortWorld
  rw [heap_grow_old _ _ (by simpa using hg)]
  simp [putRow, mapBlock, Sort.ahead, Array.getElem?_modify, hb, onCells]
theorem sortW_grown (w : World) (blk m : Nat) (d : Array α) (os : Array Obj) : w.grownBy (sortWorld enc w blk 0 m d os) (some blk) :=
  ⟨rfl, rfl, rfl, by unfold sortWorld; simp, fun k hk hne => sortW_other enc hk fun e => hne (by rw [e])⟩
theorem putCells_take {cur : Array Value} {d : Array α} {vs : List Value} (hv : vs = d.toList.map enc) (h : d.size ≤ cur.size) : (putCells enc 0 d cur).toList.take d.size = vs := by
  subst hv
  apply List.ext_getElem?
  intro j
  by_cases hj : j < d.size
  · rw [List.getElem?_take_of_lt hj, Array.getElem?_toList]
    simp [putCells, hj, show j < cur.size by omega]
  · rw [List.getElem?_take_eq_none (by omega), List.getElem?_eq_none (by simp; omega)]
end

theorem zip_getD {gs : List Nat} {L : List T3} (hl : gs.length = L.length) {i : Nat} (hi : i < L.length) : (gs.zip L)[i]? = some (gs.getD i 0, L.getD i t0) := by
  have h1 : i < gs.length := by omega
  simp [List.getElem?_zip_eq_some, List.getD_eq_getElem?_getD, h1, hi]

/-- What the rows are behind the sort. -/
theorem OwnT.sorted {w w' : World} {B n c : Nat} {A : Option Addr} {gs : List Nat} {L : List T3} (h : OwnT w B A n c gs L) {blk : Nat} (hA : A = some ⟨blk, 0, none⟩) [Inhabited (RowOf (gs.zip L))]
    {d d' : Array (RowOf (gs.zip L))} (hd : d = (gs.zip L).attach.toArray) {m : Nat} {os : Array Obj} (hp : PermIn 0 d.size d d') (hs : SortedIn (ltOf (cmpR (gs.zip L))) 0 d.size d')
    (hw : w' = sortWorld (encR (gs.zip L)) w blk 0 m d' os) : ∃ gs' L', OwnT w' B A n c gs' L' ∧ L'.Perm L ∧ (∀ i j, i < j → j < L'.length → ¬ lex3 (L'.getD j t0) (L'.getD i t0)) := by
  subst hA hw
  have hn := h.n
  have hzl : (gs.zip L).length = n := by simp [h.len, hn]
  have hds : d.size = n := by rw [hd]; simp [h.len, hn]
  have hds' : d'.size = n := by rw [hp.1, hds]
  have hperm : d'.toList.Perm d.toList := by
    have := hp.2.2
    rw [hds] at this
    have e1 : d'.extract 0 n = d' := by rw [← hds']; exact Array.extract_size
    have e2 : d.extract 0 n = d := by rw [← hds]; exact Array.extract_size
    rwa [e1, e2] at this
  have hperm2 : (d'.toList.map Subtype.val).Perm (gs.zip L) := by
    have := hperm.map Subtype.val
    rw [hd] at this
    have e : ((gs.zip L).attach.toArray).toList.map Subtype.val = gs.zip L := List.attach_map_subtype_val _
    rwa [e] at this
  have hfst : ((d'.toList.map Subtype.val).map Prod.fst).Perm gs := by
    have := hperm2.map Prod.fst
    rwa [List.map_fst_zip (by rw [h.len]; exact Nat.le_refl _)] at this
  have hsnd : ((d'.toList.map Subtype.val).map Prod.snd).Perm L := by
    have := hperm2.map Prod.snd
    rwa [List.map_snd_zip (by rw [h.len]; exact Nat.le_refl _)] at this
  refine ⟨(d'.toList.map Subtype.val).map Prod.fst, (d'.toList.map Subtype.val).map Prod.snd, ⟨?_, by simp, hfst.nodup_iff.2 h.nodup, ?_⟩, hsnd, ?_⟩
  · rcases h.row.2 with ⟨e, _⟩ | ⟨g', cap, cur, e, hb, hh, h1, h2, h3, _⟩
    · cases e
    · simp only [Value.slice.injEq, Option.some.injEq, Addr.mk.injEq, and_true, true_and] at e
      obtain ⟨rfl, rfl⟩ := e
      refine ⟨by simp [hds'], .inr ⟨blk, c, _, rfl, hb, sortW_row _ hh, h1, h2, by simp [putCells, h3], ?_⟩⟩
      rw [Nat.mul_one, ← hds']
      exact putCells_take _ (by simp [Function.comp_def]) (by rw [h3, hds']; omega)
  · intro i hi
    simp at hi
    have hi' : i < d'.size := hi
    have e1 : ((d'.toList.map Subtype.val).map Prod.fst).getD i 0 = d'[i].1.1 := by simp [List.getD_eq_getElem?_getD, hi']
    have e2 : ((d'.toList.map Subtype.val).map Prod.snd).getD i t0 = d'[i].1.2 := by simp [List.getD_eq_getElem?_getD, hi']
    rw [e1, e2]
    obtain ⟨j, hj, ej⟩ := List.getElem_of_mem d'[i].2
    have hjL : j < L.length := by rw [hn, ← hzl]; exact hj
    have := zip_getD h.len hjL
    rw [List.getElem?_eq_getElem hj, ej] at this
    have e3 : d'[i].1 = (gs.getD j 0, L.getD j t0) := by simpa using this
    rw [e3]
    obtain ⟨r1, r2⟩ := h.rows j hjL
    have hne := h.ne r2
    simp only [Value.ownBlock, ne_eq, Option.some.injEq] at hne
    exact ⟨r1, (sortW_other _ r2.lt (Ne.symm hne)).trans r2⟩
  · intro i j hij hj
    simp at hj
    have hi' : i < d'.size := by omega
    have hj' : j < d'.size := hj
    have e1 : ((d'.toList.map Subtype.val).map Prod.snd).getD i t0 = d'[i].1.2 := by simp [List.getD_eq_getElem?_getD, hi']
    have e2 : ((d'.toList.map Subtype.val).map Prod.snd).getD j t0 = d'[j].1.2 := by simp [List.getD_eq_getElem?_getD, hj']
    rw [e1, e2]
    have := hs i j (Nat.zero_le _) hij (by rw [hds]; omega)
    rw [getElem!_pos d' i hi', getElem!_pos d' j hj'] at this
    exact (ltR_no _ _ _).1 this
/-- The row holds them ahead of the sort. -/
theorem OwnT.holds {w : World} {B n c blk : Nat} {gs : List Nat} {L : List T3} (h : OwnT w B (some ⟨blk, 0, none⟩) n c gs L) [Inhabited (RowOf (gs.zip L))] : Holds (encR (gs.zip L)) w blk 0 (gs.zip L).attach.toArray := by
  intro j hj
  have hn := h.n
  have hjn : j < n := by simp [h.len, hn] at hj; exact hj
  refine ⟨?_, World.ownsRow.frozenAt h.row _⟩
  rw [Nat.zero_add, World.ownsRow.cellAt h.row j (by omega), map_getD_rowV (by rw [h.len]; omega)]
  rw [getElem!_pos _ j hj]
  have hjL : j < L.length := by omega
  have hz := zip_getD h.len hjL
  have hjz : j < (gs.zip L).length := by simp [h.len]; omega
  rw [List.getElem?_eq_getElem hjz] at hz
  have e : ((gs.zip L).attach.toArray[j]).1 = (gs.getD j 0, L.getD j t0) := by simpa using hz
  show some (rowV (gs.getD j 0)) = some (rowV ((gs.zip L).attach.toArray[j]).1.1)
  rw [e]
end Go.Proofs.Ytcfmnjkgebopcaa
