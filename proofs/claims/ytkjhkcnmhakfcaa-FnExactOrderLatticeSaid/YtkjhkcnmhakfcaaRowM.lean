/- Slices of rows of ints: read, owned, appended to. -/
import Derived.Test.YtkjhkcnmhakfcaaKit
import Derived.Test.YtkjhkcnmhakfcaaApp
import Derived.RangeFuncRecord
namespace Go.Proofs.Ytkjhkcnmhakfcaa
open Go.RowKit

theorem rowsInfo : (Try.prog.info? 39).map (fun i => (i.zero, i.size, i.bytes)) = some (some (.slice none 0 0), 1, 24) := by kernel_rfl
theorem rows_far : (3 : TypeId) ≠ 39 := by decide
abbrev rowL (L : List (List Int)) (i : Nat) : List Int := L.getD i []
abbrev rowW (g : Nat) (r : List Int) : Value := .slice (some ⟨g, 0, none⟩) r.length r.length
theorem rowL_mem {L : List (List Int)} {i : Nat} (h : i < L.length) : rowL L i ∈ L := by
  unfold rowL
  rw [List.getD_eq_getElem?_getD, List.getElem?_eq_getElem h]
  exact List.getElem_mem h
theorem rowL_take {L : List (List Int)} {i : Nat} (h : i < L.length) : L.take (i + 1) = L.take i ++ [rowL L i] := by
  rw [List.take_succ_eq_append_getElem h]
  unfold rowL
  simp [List.getD_eq_getElem?_getD, h]

/-- A slice of rows of ints that reads as a list. -/
def RdM (w : World) (A : Option Addr) (n : Nat) (L : List (List Int)) : Prop :=
  L.length = n ∧ (0 < n → ∃ b off, A = some ⟨b, off, none⟩ ∧ b < w.heap.size ∧ ∀ j, j < n → ∃ A' c', w.cell? ⟨b, off + j, none⟩ = some (.slice A' (rowL L j).length c') ∧ Rd w A' (rowL L j).length (rowL L j))
theorem RdM.below {w w' : World} {A : Option Addr} {n B : Nat} {L : List (List Int)} (h : RdM w A n L) (hB : w.heap.size ≤ B) (hb : Below B w w') : RdM w' A n L :=
  ⟨h.1, fun hn => by
    obtain ⟨b, off, rfl, hlt, hc⟩ := h.2 hn
    refine ⟨b, off, rfl, Nat.lt_of_lt_of_le hlt hb.size, fun j hj => ?_⟩
    obtain ⟨A', c', h1, h2⟩ := hc j hj
    exact ⟨A', c', (hb.cell (p := ⟨b, off + j, none⟩) (by show b < B; omega)).trans h1, h2.below hB hb⟩⟩
theorem RdM.same {w w' : World} {A : Option Addr} {n : Nat} {L : List (List Int)} (h : RdM w A n L) (hb : Below w.heap.size w w') : RdM w' A n L := h.below (Nat.le_refl _) hb
theorem RdM.nil_ (w : World) (A : Option Addr) : RdM w A 0 [] := ⟨rfl, fun h => absurd h (by omega)⟩

/-- The block of a row. -/
def RowBlk (w : World) (g : Nat) (r : List Int) : Prop := w.heap[g]? = some (.cells (ints r).toArray 3 (0, 0)) ∧ r.length ≤ 16777216
theorem RowBlk.lt {w : World} {g : Nat} {r : List Int} (h : RowBlk w g r) : g < w.heap.size := (Array.getElem?_eq_some_iff.1 h.1).1
theorem RowBlk.kept {w w' : World} {g : Nat} {r : List Int} {row : Option Nat} (h : RowBlk w g r) (hg : w.grownBy w' row) (hr : some g ≠ row) : RowBlk w' g r := ⟨(hg.block g h.lt hr).trans h.1, h.2⟩
theorem RowBlk.own {w : World} {g B : Nat} {r : List Int} (h : RowBlk w g r) (hB : B ≤ g) : Own w B (some ⟨g, 0, none⟩) r.length r.length r :=
  ⟨by simp, .inr ⟨g, r.length, _, rfl, hB, h.1, Nat.le_refl _, by have := h.2; unfold maxLen; omega, by simp, List.take_of_length_le (by simp)⟩⟩
theorem RowBlk.rd {w : World} {g : Nat} {r : List Int} (h : RowBlk w g r) : Rd w (some ⟨g, 0, none⟩) r.length r := (h.own (Nat.zero_le _)).rd
theorem RowBlk.made (w : World) (r : List Int) (h : r.length ≤ 16777216) : RowBlk (w.alloc (.cells (ints r).toArray 3)) w.heap.size r := ⟨World.alloc_heap_new w _, h⟩
theorem RowBlk.of_own {w : World} {B g n : Nat} {r : List Int} (h : Own w B (some ⟨g, 0, none⟩) n n r) (hn : n ≤ 16777216) : RowBlk w g r := by
  have hl := h.len
  rcases h.2 with ⟨e, _⟩ | ⟨g', cap, cur, e, hb, hh, h1, h2, h3, h4⟩
  · cases e
  · simp only [Value.slice.injEq, Option.some.injEq, Addr.mk.injEq, and_true, true_and] at e
    obtain ⟨rfl, rfl⟩ := e
    have e3 : cur.toList = ints r := by
      rw [← h4, List.take_of_length_le (by rw [Array.length_toList, h3]; omega)]
    have e4 : cur = (ints r).toArray := by rw [← e3]
    rw [e4] at hh
    exact ⟨hh, by omega⟩

/-- The call's own slice of rows, each in a block of its own. -/
structure OwnM (w : World) (B : Nat) (A : Option Addr) (n c : Nat) (gs : List Nat) (L : List (List Int)) : Prop where
  row : w.ownsRow B 39 1 (.slice A n c) n ((gs.zip L).map fun p => rowW p.1 p.2)
  len : gs.length = L.length
  nodup : gs.Nodup
  rows : ∀ i, i < L.length → B ≤ gs.getD i 0 ∧ RowBlk w (gs.getD i 0) (rowL L i)

theorem OwnM.n {w : World} {B n c : Nat} {A : Option Addr} {gs : List Nat} {L : List (List Int)} (h : OwnM w B A n c gs L) : L.length = n := by
  have := h.row.1
  simp [h.len] at this
  exact this
theorem OwnM.ne {w : World} {B n c : Nat} {A : Option Addr} {gs : List Nat} {L : List (List Int)} (h : OwnM w B A n c gs L) {g : Nat} {r : List Int} (ht : RowBlk w g r) : (Value.slice A n c).ownBlock ≠ some g := by
  rcases h.row.2 with ⟨e, _⟩ | ⟨g', cap, cur, e, _, hh, _⟩
  · rw [e]; simp [Value.ownBlock]
  · rw [e]
    intro hg
    simp only [Value.ownBlock, Option.some.injEq] at hg
    subst hg
    have ht := ht.1
    rw [hh] at ht
    simp only [Option.some.injEq, Obj.cells.injEq] at ht
    exact absurd ht.2.1.symm rows_far
theorem OwnM.kept {w w' : World} {B n c : Nat} {A : Option Addr} {gs : List Nat} {L : List (List Int)} {row : Option Nat} (h : OwnM w B A n c gs L) (hg : w.grownBy w' row) (hr : ∀ k, row = some k → k < B ∨ w.heap.size ≤ k) : OwnM w' B A n c gs L := by
  refine ⟨h.row.kept hg ?_, h.len, h.nodup, fun i hi => ⟨(h.rows i hi).1, (h.rows i hi).2.kept hg fun e => ?_⟩⟩
  · cases hb : (Value.slice A n c).ownBlock with
    | none => exact .inl rfl
    | some k =>
      refine .inr fun e => ?_
      have h1 := h.row.lt k hb
      have h2 := hr k e.symm
      omega
  · have h1 := (h.rows i hi).1
    have h3 := (h.rows i hi).2.lt
    have h2 := hr _ e.symm
    omega
/-- A step that turns one block which is none of these. -/
theorem OwnM.off {w w' : World} {B n c : Nat} {A : Option Addr} {gs : List Nat} {L : List (List Int)} {row : Option Nat} (h : OwnM w B A n c gs L) (hg : w.grownBy w' row) (h1 : ∀ k, row = some k → (Value.slice A n c).ownBlock ≠ some k) (h2 : ∀ k, row = some k → ∀ i, i < L.length → gs.getD i 0 ≠ k) : OwnM w' B A n c gs L := by
  refine ⟨h.row.kept hg ?_, h.len, h.nodup, fun i hi => ⟨(h.rows i hi).1, (h.rows i hi).2.kept hg fun e => ?_⟩⟩
  · cases hb : (Value.slice A n c).ownBlock with
    | none => exact .inl rfl
    | some k => exact .inr fun e => h1 k e.symm hb
  · exact h2 _ e.symm i hi rfl
theorem OwnM.same {w w' : World} {B n c : Nat} {A : Option Addr} {gs : List Nat} {L : List (List Int)} (h : OwnM w B A n c gs L) (hb : Below w.heap.size w w') : OwnM w' B A n c gs L := h.kept (grown_of_below hb) (fun k e => by cases e)
theorem OwnM.al {w : World} {B n c : Nat} {A : Option Addr} {gs : List Nat} {L : List (List Int)} (h : OwnM w B A n c gs L) (o : Obj) : OwnM (w.alloc o) B A n c gs L := h.same (below_alloc (Below.refl _ _) o)
theorem OwnM.lower {w : World} {B B' n c : Nat} {A : Option Addr} {gs : List Nat} {L : List (List Int)} (h : OwnM w B A n c gs L) (hB : B' ≤ B) : OwnM w B' A n c gs L := by
  refine ⟨⟨h.row.1, ?_⟩, h.len, h.nodup, fun i hi => ⟨Nat.le_trans hB (h.rows i hi).1, (h.rows i hi).2⟩⟩
  rcases h.row.2 with e | ⟨g, cap, cur, e, hb, r⟩
  · exact .inl e
  · exact .inr ⟨g, cap, cur, e, Nat.le_trans hB hb, r⟩
theorem OwnM.nil_ (w : World) (B : Nat) : OwnM w B none 0 0 [] [] := ⟨World.ownsRow_nil w B _ _, rfl, List.nodup_nil, fun i hi => absurd hi (by simp)⟩
theorem OwnM.empty (w : World) {B : Nat} (hB : B ≤ w.heap.size) : OwnM (w.alloc (.cells #[] 39)) B (some ⟨w.heap.size, 0, none⟩) 0 0 [] [] :=
  ⟨World.ownsRow_lit (e := 39) (size := 1) w #[] 0 hB (by unfold maxLen; omega) (by simp), rfl, List.nodup_nil, fun i hi => absurd hi (by simp)⟩
theorem zipW_at {gs : List Nat} {L : List (List Int)} {i : Nat} (h : i < L.length) (hl : gs.length = L.length) : ((gs.zip L).map fun p => rowW p.1 p.2)[i]? = some (rowW (gs.getD i 0) (rowL L i)) := by
  have h1 : i < gs.length := by omega
  rw [List.getElem?_map, List.getElem?_eq_getElem (by rw [List.length_zip]; omega), List.getElem_zip]
  simp [h, h1, List.getD_eq_getElem?_getD, rowL]
theorem OwnM.at_ {w : World} {B n c i : Nat} {A : Option Addr} {gs : List Nat} {L : List (List Int)} (h : OwnM w B A n c gs L) (hi : i < n) :
    ∃ g, A = some ⟨g, 0, none⟩ ∧ B ≤ g ∧ g < w.heap.size ∧ w.cell? ⟨g, i, none⟩ = some (rowW (gs.getD i 0) (rowL L i)) := by
  have hn := h.n
  have hrow := h.row
  rcases h.row.2 with ⟨e, e0⟩ | ⟨g, cap, cur, e, hb, hh, _⟩
  · omega
  · obtain ⟨rfl, rfl⟩ : A = some ⟨g, 0, none⟩ ∧ c = cap := by injection e with a b c; exact ⟨a, c⟩
    exact ⟨g, rfl, hb, (Array.getElem?_eq_some_iff.1 hh).1, by rw [World.ownsRow.cellAt hrow i (by omega), zipW_at (by omega) h.len]⟩
theorem OwnM.rd {w : World} {B n c : Nat} {A : Option Addr} {gs : List Nat} {L : List (List Int)} (h : OwnM w B A n c gs L) : RdM w A n L := by
  have hn := h.n
  refine ⟨hn, fun h0 => ?_⟩
  obtain ⟨g, rfl, _, hlt, _⟩ := h.at_ h0
  refine ⟨g, 0, rfl, hlt, fun j hj => ⟨some ⟨gs.getD j 0, 0, none⟩, (rowL L j).length, ?_, (h.rows j (by omega)).2.rd⟩⟩
  obtain ⟨g', e, _, _, hc⟩ := h.at_ hj
  cases e
  rw [Nat.zero_add]; exact hc
theorem OwnM.blk {w : World} {B n c : Nat} {A : Option Addr} {gs : List Nat} {L : List (List Int)} (h : OwnM w B A n c gs L) : ∀ k, (Value.slice A n c).ownBlock = some k → B ≤ k ∧ k < w.heap.size := fun k e => h.row.lt k e

/-- append of one row. -/
theorem wpList_appRowM {ops : Array Oper} {rest : List Oper} {o : Oper} {a : Act} {Q : Exit → Act → World → Prop} {W : World} (hgd : o.guard = none) (s x : Operand)
    (ho : o.op = .call { callee := .builtin .append, args := #[s, x], argTypes := #[22, 22] })
    {B n c : Nat} {A : Option Addr} {gs : List Nat} {L : List (List Int)} (hs : a.eval s = .slice A n c) (hown : OwnM W B A n c gs L) {b g c2 : Nat} {r : List Int} (hx : a.eval x = .slice (some ⟨b, 0, none⟩) 1 c2) (hc : W.cell? ⟨b, 0, none⟩ = some (rowW g r)) (ht : RowBlk W g r) (hg : B ≤ g) (hni : g ∉ gs)
    (hn : n ≤ 1000000) (hB : B ≤ W.heap.size)
    (h : ∀ A' c' W', OwnM W' B A' (n + 1) c' (gs ++ [g]) (L ++ [r]) → W.grownBy W' (Value.slice A n c).ownBlock → ((Value.slice A' (n + 1) c').ownBlock = (Value.slice A n c).ownBlock ∨ (Value.slice A' (n + 1) c').ownBlock = some W.heap.size) → wpList Try.prog ops Q rest (a.put o.dst (.slice A' (n + 1) c')) W') : wpList Try.prog ops Q (o :: rest) a W := by
  obtain ⟨i0, hi, hz0, hz1, hz2⟩ := info_parts rowsInfo
  refine wpList_append_own_at W hgd s x 22 ho B 39 i0 (.slice none 0 0) 1 24 Try.underlying22 hi hz0 hz1 hz2 rfl (by decide) _ n ((gs.zip L).map fun p => rowW p.1 p.2) hs hown.row ⟨b, 0, none⟩ 1 c2 [rowW g r] hx rfl (fun j u hu => ?_) (fun u hu => ?_) (by unfold maxLen; omega) (by omega) hB fun v' w' r1 g1 _ at1 => ?_
  · match j, hu with
    | 0, hu =>
      obtain rfl : rowW g r = u := by simpa using hu
      simpa [Addr.add] using hc
  · obtain rfl : u = rowW g r := by simpa using hu
    rfl
  · have hL := hown.n
    have hgl : gs.length = n := by rw [hown.len]; exact hL
    have e1 : (gs.zip L).map (fun p => rowW p.1 p.2) ++ [rowW g r] = ((gs ++ [g]).zip (L ++ [r])).map fun p => rowW p.1 p.2 := by
      rw [List.zip_append hown.len, List.map_append]; rfl
    rw [e1] at r1
    obtain ⟨A', c', rfl⟩ : ∃ A' c', v' = .slice A' (n + 1) c' := by
      rcases r1.2 with ⟨_, e⟩ | ⟨g', cap, cur, e, _⟩
      · omega
      · exact ⟨_, _, e⟩
    refine h A' c' w' ⟨r1, by simp [hown.len], ?_, fun i hi => ?_⟩ g1 at1
    · rw [List.nodup_append]
      exact ⟨hown.nodup, by simp, fun a ha b hb e => by
        obtain rfl : b = g := by simpa using hb
        subst e; exact hni ha⟩
    · by_cases hlt : i < n
      · have e2 : (gs ++ [g]).getD i 0 = gs.getD i 0 := by simp [List.getD_eq_getElem?_getD, List.getElem?_append_left (show i < gs.length by omega)]
        have e3 : rowL (L ++ [r]) i = rowL L i := by unfold rowL; simp [List.getD_eq_getElem?_getD, List.getElem?_append_left (show i < L.length by omega)]
        rw [e2, e3]
        obtain ⟨q1, q2⟩ := hown.rows i (by omega)
        exact ⟨q1, q2.kept g1 (hown.ne q2).symm⟩
      · obtain rfl : i = n := by simp at hi; omega
        have e2 : (gs ++ [g]).getD i 0 = g := by simp [List.getD_eq_getElem?_getD, ← hgl]
        have e3 : rowL (L ++ [r]) i = r := by unfold rowL; simp [List.getD_eq_getElem?_getD, ← hL]
        rw [e2, e3]
        exact ⟨hg, ht.kept g1 (hown.ne ht).symm⟩
end Go.Proofs.Ytkjhkcnmhakfcaa
