/- Joined: RowM, RowH, RowH2, RowF, SameM. -/
import Derived.Test.YtiadnbdefcimiaaKit
import Derived.RangeFuncRecord
import Derived.Lib.QuietBelow
import Derived.Deep.Matrix
/- Slices of rows of ints: read, owned, appended to. -/
namespace Go.Proofs.Ytiadnbdefcimiaa
open Go.RowKit

theorem rowsInfo : (Try.prog.info? 23).map (fun i => (i.zero, i.size, i.bytes)) = some (some (.slice none 0 0), 1, 24) := by kernel_rfl
theorem rows_far : (3 : TypeId) ≠ 23 := by decide
abbrev rowL (L : List (List Int)) (i : Nat) : List Int := L.getD i []
abbrev rowW (g : Nat) (r : List Int) : Value := .slice (some ⟨g, 0, none⟩) r.length r.length
theorem rowL_mem {L : List (List Int)} {i : Nat} (h : i < L.length) : rowL L i ∈ L := by
  unfold rowL
  rw [List.getD_eq_getElem?_getD, List.getElem?_eq_getElem h]
  exact List.getElem_mem h
theorem rowL_take {L : List (List Int)} {i : Nat} (h : i < L.length) : L.take (i + 1) = L.take i ++ [rowL L i] := by
  rw [List.take_succ_eq_append_getElem h]
  unfold rowL
  simp [List.getD_eq_getElem?_getD, h]

/-- A slice of rows of ints that reads as a list. -/
def RdM (w : World) (A : Option Addr) (n : Nat) (L : List (List Int)) : Prop :=
  L.length = n ∧ (0 < n → ∃ b off, A = some ⟨b, off, none⟩ ∧ b < w.heap.size ∧ ∀ j, j < n → ∃ A' c', w.cell? ⟨b, off + j, none⟩ = some (.slice A' (rowL L j).length c') ∧ Rd w A' (rowL L j).length (rowL L j))
theorem RdM.below {w w' : World} {A : Option Addr} {n B : Nat} {L : List (List Int)} (h : RdM w A n L) (hB : w.heap.size ≤ B) (hb : Below B w w') : RdM w' A n L :=
  ⟨h.1, fun hn => by
    obtain ⟨b, off, rfl, hlt, hc⟩ := h.2 hn
    refine ⟨b, off, rfl, Nat.lt_of_lt_of_le hlt hb.size, fun j hj => ?_⟩
    obtain ⟨A', c', h1, h2⟩ := hc j hj
    exact ⟨A', c', (hb.cell (p := ⟨b, off + j, none⟩) (by show b < B; omega)).trans h1, h2.below hB hb⟩⟩
theorem RdM.same {w w' : World} {A : Option Addr} {n : Nat} {L : List (List Int)} (h : RdM w A n L) (hb : Below w.heap.size w w') : RdM w' A n L := h.below (Nat.le_refl _) hb
theorem RdM.nil_ (w : World) (A : Option Addr) : RdM w A 0 [] := ⟨rfl, fun h => absurd h (by omega)⟩

/-- The block of a row. -/
def RowBlk (w : World) (g : Nat) (r : List Int) : Prop := w.heap[g]? = some (.cells (ints r).toArray 3 (0, 0)) ∧ r.length ≤ 16777216
theorem RowBlk.lt {w : World} {g : Nat} {r : List Int} (h : RowBlk w g r) : g < w.heap.size := (Array.getElem?_eq_some_iff.1 h.1).1
theorem RowBlk.kept {w w' : World} {g : Nat} {r : List Int} {row : Option Nat} (h : RowBlk w g r) (hg : w.grownBy w' row) (hr : some g ≠ row) : RowBlk w' g r := ⟨(hg.block g h.lt hr).trans h.1, h.2⟩
theorem RowBlk.own {w : World} {g B : Nat} {r : List Int} (h : RowBlk w g r) (hB : B ≤ g) : Own w B (some ⟨g, 0, none⟩) r.length r.length r :=
  ⟨by simp, .inr ⟨g, r.length, _, rfl, hB, h.1, Nat.le_refl _, by have := h.2; unfold maxLen; omega, by simp, List.take_of_length_le (by simp)⟩⟩
theorem RowBlk.rd {w : World} {g : Nat} {r : List Int} (h : RowBlk w g r) : Rd w (some ⟨g, 0, none⟩) r.length r := (h.own (Nat.zero_le _)).rd
theorem RowBlk.made (w : World) (r : List Int) (h : r.length ≤ 16777216) : RowBlk (w.alloc (.cells (ints r).toArray 3)) w.heap.size r := ⟨World.alloc_heap_new w _, h⟩
theorem RowBlk.of_own {w : World} {B g n : Nat} {r : List Int} (h : Own w B (some ⟨g, 0, none⟩) n n r) (hn : n ≤ 16777216) : RowBlk w g r := by
  have hl := h.len
  rcases h.2 with ⟨e, _⟩ | ⟨g', cap, cur, e, hb, hh, h1, h2, h3, h4⟩
  · cases e
  · simp only [Value.slice.injEq, Option.some.injEq, Addr.mk.injEq, and_true, true_and] at e
    obtain ⟨rfl, rfl⟩ := e
    have e3 : cur.toList = ints r := by
      rw [← h4, List.take_of_length_le (by rw [Array.length_toList, h3]; omega)]
    have e4 : cur = (ints r).toArray := by rw [← e3]
    rw [e4] at hh
    exact ⟨hh, by omega⟩

/-- The call's own slice of rows, each in a block of its own. -/
structure OwnM (w : World) (B : Nat) (A : Option Addr) (n c : Nat) (gs : List Nat) (L : List (List Int)) : Prop where
  row : w.ownsRow B 23 1 (.slice A n c) n ((gs.zip L).map fun p => rowW p.1 p.2)
  len : gs.length = L.length
  nodup : gs.Nodup
  rows : ∀ i, i < L.length → B ≤ gs.getD i 0 ∧ RowBlk w (gs.getD i 0) (rowL L i)

theorem OwnM.n {w : World} {B n c : Nat} {A : Option Addr} {gs : List Nat} {L : List (List Int)} (h : OwnM w B A n c gs L) : L.length = n := by
  have := h.row.1
  simp [h.len] at this
  exact this
theorem OwnM.ne {w : World} {B n c : Nat} {A : Option Addr} {gs : List Nat} {L : List (List Int)} (h : OwnM w B A n c gs L) {g : Nat} {r : List Int} (ht : RowBlk w g r) : (Value.slice A n c).ownBlock ≠ some g := by
  rcases h.row.2 with ⟨e, _⟩ | ⟨g', cap, cur, e, _, hh, _⟩
  · rw [e]; simp [Value.ownBlock]
  · rw [e]
    intro hg
    simp only [Value.ownBlock, Option.some.injEq] at hg
    subst hg
    have ht := ht.1
    rw [hh] at ht
    simp only [Option.some.injEq, Obj.cells.injEq] at ht
    exact absurd ht.2.1.symm rows_far
theorem OwnM.kept {w w' : World} {B n c : Nat} {A : Option Addr} {gs : List Nat} {L : List (List Int)} {row : Option Nat} (h : OwnM w B A n c gs L) (hg : w.grownBy w' row) (hr : ∀ k, row = some k → k < B ∨ w.heap.size ≤ k) : OwnM w' B A n c gs L := by
  refine ⟨h.row.kept hg ?_, h.len, h.nodup, fun i hi => ⟨(h.rows i hi).1, (h.rows i hi).2.kept hg fun e => ?_⟩⟩
  · cases hb : (Value.slice A n c).ownBlock with
    | none => exact .inl rfl
    | some k =>
      refine .inr fun e => ?_
      have h1 := h.row.lt k hb
      have h2 := hr k e.symm
      omega
  · have h1 := (h.rows i hi).1
    have h3 := (h.rows i hi).2.lt
    have h2 := hr _ e.symm
    omega
/-- A step that turns one block which is none of these. -/
theorem OwnM.off {w w' : World} {B n c : Nat} {A : Option Addr} {gs : List Nat} {L : List (List Int)} {row : Option Nat} (h : OwnM w B A n c gs L) (hg : w.grownBy w' row) (h1 : ∀ k, row = some k → (Value.slice A n c).ownBlock ≠ some k) (h2 : ∀ k, row = some k → ∀ i, i < L.length → gs.getD i 0 ≠ k) : OwnM w' B A n c gs L := by
  refine ⟨h.row.kept hg ?_, h.len, h.nodup, fun i hi => ⟨(h.rows i hi).1, (h.rows i hi).2.kept hg fun e => ?_⟩⟩
  · cases hb : (Value.slice A n c).ownBlock with
    | none => exact .inl rfl
    | some k => exact .inr fun e => h1 k e.symm hb
  · exact h2 _ e.symm i hi rfl
theorem OwnM.same {w w' : World} {B n c : Nat} {A : Option Addr} {gs : List Nat} {L : List (List Int)} (h : OwnM w B A n c gs L) (hb : Below w.heap.size w w') : OwnM w' B A n c gs L := h.kept (grown_of_below hb) (fun k e => by cases e)
theorem OwnM.al {w : World} {B n c : Nat} {A : Option Addr} {gs : List Nat} {L : List (List Int)} (h : OwnM w B A n c gs L) (o : Obj) : OwnM (w.alloc o) B A n c gs L := h.same (below_alloc (Below.refl _ _) o)
theorem OwnM.lower {w : World} {B B' n c : Nat} {A : Option Addr} {gs : List Nat} {L : List (List Int)} (h : OwnM w B A n c gs L) (hB : B' ≤ B) : OwnM w B' A n c gs L := by
  refine ⟨⟨h.row.1, ?_⟩, h.len, h.nodup, fun i hi => ⟨Nat.le_trans hB (h.rows i hi).1, (h.rows i hi).2⟩⟩
  rcases h.row.2 with e | ⟨g, cap, cur, e, hb, r⟩
  · exact .inl e
  · exact .inr ⟨g, cap, cur, e, Nat.le_trans hB hb, r⟩
theorem OwnM.nil_ (w : World) (B : Nat) : OwnM w B none 0 0 [] [] := ⟨World.ownsRow_nil w B _ _, rfl, List.nodup_nil, fun i hi => absurd hi (by simp)⟩
theorem OwnM.empty (w : World) {B : Nat} (hB : B ≤ w.heap.size) : OwnM (w.alloc (.cells #[] 23)) B (some ⟨w.heap.size, 0, none⟩) 0 0 [] [] :=
  ⟨World.ownsRow_lit (e := 23) (size := 1) w #[] 0 hB (by unfold maxLen; omega) (by simp), rfl, List.nodup_nil, fun i hi => absurd hi (by simp)⟩
theorem zipW_at {gs : List Nat} {L : List (List Int)} {i : Nat} (h : i < L.length) (hl : gs.length = L.length) : ((gs.zip L).map fun p => rowW p.1 p.2)[i]? = some (rowW (gs.getD i 0) (rowL L i)) := by
  have h1 : i < gs.length := by omega
  rw [List.getElem?_map, List.getElem?_eq_getElem (by rw [List.length_zip]; omega), List.getElem_zip]
  simp [h, h1, List.getD_eq_getElem?_getD, rowL]
theorem OwnM.at_ {w : World} {B n c i : Nat} {A : Option Addr} {gs : List Nat} {L : List (List Int)} (h : OwnM w B A n c gs L) (hi : i < n) :
    ∃ g, A = some ⟨g, 0, none⟩ ∧ B ≤ g ∧ g < w.heap.size ∧ w.cell? ⟨g, i, none⟩ = some (rowW (gs.getD i 0) (rowL L i)) := by
  have hn := h.n
  have hrow := h.row
  rcases h.row.2 with ⟨e, e0⟩ | ⟨g, cap, cur, e, hb, hh, _⟩
  · omega
  · obtain ⟨rfl, rfl⟩ : A = some ⟨g, 0, none⟩ ∧ c = cap := by injection e with a b c; exact ⟨a, c⟩
    exact ⟨g, rfl, hb, (Array.getElem?_eq_some_iff.1 hh).1, by rw [World.ownsRow.cellAt hrow i (by omega), zipW_at (by omega) h.len]⟩
theorem OwnM.rd {w : World} {B n c : Nat} {A : Option Addr} {gs : List Nat} {L : List (List Int)} (h : OwnM w B A n c gs L) : RdM w A n L := by
  have hn := h.n
  refine ⟨hn, fun h0 => ?_⟩
  obtain ⟨g, rfl, _, hlt, _⟩ := h.at_ h0
  refine ⟨g, 0, rfl, hlt, fun j hj => ⟨some ⟨gs.getD j 0, 0, none⟩, (rowL L j).length, ?_, (h.rows j (by omega)).2.rd⟩⟩
  obtain ⟨g', e, _, _, hc⟩ := h.at_ hj
  cases e
  rw [Nat.zero_add]; exact hc
theorem OwnM.blk {w : World} {B n c : Nat} {A : Option Addr} {gs : List Nat} {L : List (List Int)} (h : OwnM w B A n c gs L) : ∀ k, (Value.slice A n c).ownBlock = some k → B ≤ k ∧ k < w.heap.size := fun k e => h.row.lt k e

/-- append of one row. -/
theorem wpList_appRowM {ops : Array Oper} {rest : List Oper} {o : Oper} {a : Act} {Q : Exit → Act → World → Prop} {W : World} (hgd : o.guard = none) (s x : Operand)
    (ho : o.op = .call { callee := .builtin .append, args := #[s, x], argTypes := #[60, 60] })
    {B n c : Nat} {A : Option Addr} {gs : List Nat} {L : List (List Int)} (hs : a.eval s = .slice A n c) (hown : OwnM W B A n c gs L) {b g c2 : Nat} {r : List Int} (hx : a.eval x = .slice (some ⟨b, 0, none⟩) 1 c2) (hc : W.cell? ⟨b, 0, none⟩ = some (rowW g r)) (ht : RowBlk W g r) (hg : B ≤ g) (hni : g ∉ gs)
    (hn : n ≤ 1000000) (hB : B ≤ W.heap.size)
    (h : ∀ A' c' W', OwnM W' B A' (n + 1) c' (gs ++ [g]) (L ++ [r]) → W.grownBy W' (Value.slice A n c).ownBlock → ((Value.slice A' (n + 1) c').ownBlock = (Value.slice A n c).ownBlock ∨ (Value.slice A' (n + 1) c').ownBlock = some W.heap.size) → wpList Try.prog ops Q rest (a.put o.dst (.slice A' (n + 1) c')) W') : wpList Try.prog ops Q (o :: rest) a W := by
  obtain ⟨i0, hi, hz0, hz1, hz2⟩ := info_parts rowsInfo
  refine wpList_append_own_at W hgd s x 60 ho B 23 i0 (.slice none 0 0) 1 24 Try.underlying60 hi hz0 hz1 hz2 rfl (by decide) _ n ((gs.zip L).map fun p => rowW p.1 p.2) hs hown.row ⟨b, 0, none⟩ 1 c2 [rowW g r] hx rfl (fun j u hu => ?_) (fun u hu => ?_) (by unfold maxLen; omega) (by omega) hB fun v' w' r1 g1 _ at1 => ?_
  · match j, hu with
    | 0, hu =>
      obtain rfl : rowW g r = u := by simpa using hu
      simpa [Addr.add] using hc
  · obtain rfl : u = rowW g r := by simpa using hu
    rfl
  · have hL := hown.n
    have hgl : gs.length = n := by rw [hown.len]; exact hL
    have e1 : (gs.zip L).map (fun p => rowW p.1 p.2) ++ [rowW g r] = ((gs ++ [g]).zip (L ++ [r])).map fun p => rowW p.1 p.2 := by
      rw [List.zip_append hown.len, List.map_append]; rfl
    rw [e1] at r1
    obtain ⟨A', c', rfl⟩ : ∃ A' c', v' = .slice A' (n + 1) c' := by
      rcases r1.2 with ⟨_, e⟩ | ⟨g', cap, cur, e, _⟩
      · omega
      · exact ⟨_, _, e⟩
    refine h A' c' w' ⟨r1, by simp [hown.len], ?_, fun i hi => ?_⟩ g1 at1
    · rw [List.nodup_append]
      exact ⟨hown.nodup, by simp, fun a ha b hb e => by
        obtain rfl : b = g := by simpa using hb
        subst e; exact hni ha⟩
    · by_cases hlt : i < n
      · have e2 : (gs ++ [g]).getD i 0 = gs.getD i 0 := by simp [List.getD_eq_getElem?_getD, List.getElem?_append_left (show i < gs.length by omega)]
        have e3 : rowL (L ++ [r]) i = rowL L i := by unfold rowL; simp [List.getD_eq_getElem?_getD, List.getElem?_append_left (show i < L.length by omega)]
        rw [e2, e3]
        obtain ⟨q1, q2⟩ := hown.rows i (by omega)
        exact ⟨q1, q2.kept g1 (hown.ne q2).symm⟩
      · obtain rfl : i = n := by simp at hi; omega
        have e2 : (gs ++ [g]).getD i 0 = g := by simp [List.getD_eq_getElem?_getD, ← hgl]
        have e3 : rowL (L ++ [r]) i = r := by unfold rowL; simp [List.getD_eq_getElem?_getD, ← hL]
        rw [e2, e3]
        exact ⟨hg, ht.kept g1 (hown.ne ht).symm⟩
end Go.Proofs.Ytiadnbdefcimiaa

/- The laws' helpers over slices of rows of ints: sizes, copies, comparisons, marks. -/
namespace Go.Proofs.Ytiadnbdefcimiaa
open Go.RowKit Go.Sort Go.Lib

/-- How many numbers the first i rows hold. -/
def lenTo (L : List (List Int)) (i : Nat) : Nat := ((L.take i).map List.length).sum
theorem lenTo_zero (L : List (List Int)) : lenTo L 0 = 0 := rfl
theorem lenTo_succ {L : List (List Int)} {i : Nat} (h : i < L.length) : lenTo L (i + 1) = lenTo L i + (rowL L i).length := by
  unfold lenTo; rw [rowL_take h]; simp
theorem lenTo_mono {L : List (List Int)} {i j : Nat} (hij : i ≤ j) (hj : j ≤ L.length) : lenTo L i ≤ lenTo L j := by
  induction j with
  | zero => obtain rfl : i = 0 := by omega
            exact Nat.le_refl _
  | succ j ih =>
    by_cases e : i = j + 1
    · subst e; exact Nat.le_refl _
    · have := ih (by omega) (by omega)
      rw [lenTo_succ (by omega)]; omega
/-- All rows together are not too long. -/
def SmallM (L : List (List Int)) : Prop := L.length + lenTo L L.length ≤ 1048576
theorem SmallM.len {L : List (List Int)} (h : SmallM L) : L.length ≤ 1048576 := by unfold SmallM at h; omega
theorem SmallM.row {L : List (List Int)} (h : SmallM L) {i : Nat} (hi : i < L.length) : (rowL L i).length ≤ 1048576 := by
  have h1 := lenTo_succ hi
  have h2 := lenTo_mono (L := L) (i := i + 1) (j := L.length) (by omega) (Nat.le_refl _)
  unfold SmallM at h; omega

/-- What the copy's loop keeps: the first k rows are there. -/
def CpM (w : World) (n : Nat) (L : List (List Int)) (k : Nat) (wr : World) : Prop :=
  ∃ gs : List Nat, gs.length = k ∧ gs.Nodup ∧ wr.ownsRow w.heap.size 23 1 (.slice (some ⟨w.heap.size, 0, none⟩) n n) n ((gs.zip (L.take k)).map (fun p => rowW p.1 p.2) ++ List.replicate (n - k) (.slice none 0 0)) ∧
    (∀ i, i < k → w.heap.size < gs.getD i 0 ∧ RowBlk wr (gs.getD i 0) (rowL L i)) ∧ Below w.heap.size w wr ∧ w.heap.size < wr.heap.size
theorem CpM.step {w wr w' : World} {n k g : Nat} {L : List (List Int)} (h : CpM w n L k wr) (hL : L.length = n) (hk : k < n) (ho : Own w' wr.heap.size (some ⟨g, 0, none⟩) (rowL L k).length (rowL L k).length (rowL L k)) (hb : Below wr.heap.size wr w') (hs : (rowL L k).length ≤ 16777216) :
    CpM w n L (k + 1) (w'.setCell ⟨w.heap.size, k, none⟩ (rowW g (rowL L k))) := by
  obtain ⟨gs, h1, h2, h3, h4, h5, h6⟩ := h
  have hg := ho.blk
  have g0 := grown_of_below hb
  have h3' : w'.ownsRow w.heap.size 23 1 (.slice (some ⟨w.heap.size, 0, none⟩) n n) n ((gs.zip (L.take k)).map (fun p => rowW p.1 p.2) ++ List.replicate (n - k) (.slice none 0 0)) := h3.kept g0 (.inr (by simp [Value.ownBlock]))
  have hst := World.ownsRow.stored h3' k (rowW g (rowL L k))
  have hz : ((gs.zip (L.take k)).map (fun p => rowW p.1 p.2)).length = k := by simp [h1]; omega
  have e1 : ((gs.zip (L.take k)).map (fun p => rowW p.1 p.2) ++ List.replicate (n - k) (Value.slice none 0 0)).set k (rowW g (rowL L k)) = ((gs ++ [g]).zip (L.take (k + 1))).map (fun p => rowW p.1 p.2) ++ List.replicate (n - (k + 1)) (.slice none 0 0) := by
    rw [rowL_take (by omega), List.zip_append (by simp [h1]; omega), List.map_append, List.set_append_right _ _ (by omega), hz, Nat.sub_self, show n - k = (n - (k + 1)) + 1 by omega, List.replicate_succ]
    simp
  rw [e1] at hst
  have hne : ∀ (i : Nat), g ≠ w.heap.size := fun _ => by omega
  refine ⟨gs ++ [g], by simp [h1], ?_, hst.1, fun i hi => ?_, (h5.trans (hb.mono h5.size)).setCell (p := ⟨w.heap.size, k, none⟩) (Nat.le_refl _) _, ?_⟩
  · rw [List.nodup_append]
    refine ⟨h2, by simp, fun a ha b hbm e => ?_⟩
    obtain rfl : b = g := by simpa using hbm
    subst e
    obtain ⟨i, hi, e2⟩ := List.getElem_of_mem ha
    have := (h4 i (by omega)).2.lt
    have e3 : gs.getD i 0 = a := by simp [List.getD_eq_getElem?_getD, hi, e2]
    rw [e3] at this
    omega
  · by_cases hlt : i < k
    · have e2 : (gs ++ [g]).getD i 0 = gs.getD i 0 := by simp [List.getD_eq_getElem?_getD, List.getElem?_append_left (show i < gs.length by omega)]
      rw [e2]
      obtain ⟨q1, q2⟩ := h4 i hlt
      exact ⟨q1, (q2.kept g0 (by simp)).kept hst.2 (by intro e; injection e; omega)⟩
    · obtain rfl : i = k := by omega
      have e2 : (gs ++ [g]).getD i 0 = g := by simp [List.getD_eq_getElem?_getD, ← h1]
      rw [e2]
      exact ⟨by omega, (RowBlk.of_own ho hs).kept hst.2 (by intro e; injection e; omega)⟩
  · have := hb.size
    simp only [World.setCell, Array.size_modify]
    omega
theorem CpM.done {w wr : World} {n : Nat} {L : List (List Int)} (h : CpM w n L n wr) (hL : L.length = n) : ∃ gs, OwnM wr w.heap.size (some ⟨w.heap.size, 0, none⟩) n n gs L := by
  obtain ⟨gs, h1, h2, h3, h4, h5, h6⟩ := h
  rw [List.take_of_length_le (by omega), Nat.sub_self, List.replicate_zero, List.append_nil] at h3
  exact ⟨gs, h3, by omega, h2, fun i hi => ⟨Nat.le_of_lt (h4 i (by omega)).1, (h4 i (by omega)).2⟩⟩

end Go.Proofs.Ytiadnbdefcimiaa

/- The laws' helpers over slices of rows of ints: marks. -/
namespace Go.Proofs.Ytiadnbdefcimiaa
open Go.RowKit Go.Sort Go.Lib

/-- L with its first k rows marked from q on. -/
def mkRow (q : Int) (L : List (List Int)) (i : Nat) : List Int := marks (q + lenTo L i) (rowL L i).length
def mkM (q : Int) (L : List (List Int)) (k : Nat) : List (List Int) := (List.range k).map (mkRow q L) ++ L.drop k
theorem marks_len (q : Int) (n : Nat) : (marks q n).length = n := by simp [marks]
theorem len_mkM (q : Int) {L : List (List Int)} {k : Nat} (h : k ≤ L.length) : (mkM q L k).length = L.length := by simp [mkM]; omega
theorem mkM_zero (q : Int) (L : List (List Int)) : mkM q L 0 = L := by simp [mkM]
theorem mkM_at {q : Int} {L : List (List Int)} {k i : Nat} (_hk : k ≤ L.length) (_hi : i < L.length) : rowL (mkM q L k) i = if i < k then mkRow q L i else rowL L i := by
  unfold mkM rowL
  by_cases h : i < k
  · rw [if_pos h, List.getD_eq_getElem?_getD, List.getElem?_append_left (by simpa using h)]
    simp [h]
  · rw [if_neg h, List.getD_eq_getElem?_getD, List.getElem?_append_right (by simp; omega)]
    simp only [List.length_map, List.length_range, List.getElem?_drop]
    rw [show k + (i - k) = i by omega, List.getD_eq_getElem?_getD]
theorem mkM_row_len {q : Int} {L : List (List Int)} {k i : Nat} (hk : k ≤ L.length) (hi : i < L.length) : (rowL (mkM q L k) i).length = (rowL L i).length := by
  rw [mkM_at hk hi]
  split
  · unfold mkRow; rw [marks_len]
  · rfl
theorem zip_row_eq {gs : List Nat} {L M : List (List Int)} (hl : L.length = M.length) (h : ∀ i, i < L.length → (rowL L i).length = (rowL M i).length) : (gs.zip L).map (fun p => rowW p.1 p.2) = (gs.zip M).map fun p => rowW p.1 p.2 := by
  apply List.ext_getElem
  · simp [hl]
  · intro i h1 h2
    simp only [List.length_map, List.length_zip] at h1 h2
    have h3 := h i (by omega)
    simp only [rowL, List.getD_eq_getElem?_getD, List.getElem?_eq_getElem (show i < L.length by omega), List.getElem?_eq_getElem (show i < M.length by omega), Option.getD_some] at h3
    simp [rowW, h3]

/-- One row marked. -/
theorem OwnM.marked {w w' : World} {B n c : Nat} {A : Option Addr} {gs : List Nat} {L : List (List Int)} {q : Int} {k : Nat} (h : OwnM w B A n c gs (mkM q L k)) (hk : k < L.length) (hs : (rowL L k).length ≤ 16777216)
    (ho : Own w' B (some ⟨gs.getD k 0, 0, none⟩) (rowL L k).length (rowL L k).length (mkRow q L k)) (hg : w.grownBy w' (some (gs.getD k 0))) : OwnM w' B A n c gs (mkM q L (k + 1)) := by
  have hlen := len_mkM q (L := L) (k := k) (by omega)
  have hlen' := len_mkM q (L := L) (k := k + 1) (by omega)
  have hgl : gs.length = L.length := by rw [h.len, hlen]
  have hrow := h.row.kept hg (.inr (h.ne (h.rows k (by omega)).2))
  rw [zip_row_eq (M := mkM q L (k + 1)) (by omega) (fun i hi => by rw [mkM_row_len (by omega) (by omega), mkM_row_len (by omega) (by omega)])] at hrow
  refine ⟨hrow, by rw [hlen', hgl], h.nodup, fun i hi => ?_⟩
  rw [hlen'] at hi
  rw [mkM_at (by omega) hi]
  have hr := h.rows i (by omega)
  rw [mkM_at (by omega) hi] at hr
  refine ⟨hr.1, ?_⟩
  by_cases e : i = k
  · subst e
    rw [if_pos (by omega)]
    exact RowBlk.of_own ho hs
  · have hne : gs.getD i 0 ≠ gs.getD k 0 := by
      have hi' : i < gs.length := by omega
      have hk' : k < gs.length := by omega
      have e1 : gs.getD i 0 = gs[i] := by simp [List.getD_eq_getElem?_getD, hi']
      have e2 : gs.getD k 0 = gs[k] := by simp [List.getD_eq_getElem?_getD, hk']
      rw [e1, e2]
      intro e3
      exact e ((List.getElem_inj h.nodup).1 e3)
    have hk2 := hr.2.kept hg (fun e4 => hne (by injection e4))
    by_cases h5 : i < k
    · rw [if_pos (by omega)]; rwa [if_pos h5] at hk2
    · rw [if_neg (by omega)]; rwa [if_neg h5] at hk2

/-- Of the blocks that were there, only some have turned. -/
structure Turned (gs : List Nat) (w w' : World) : Prop where
  os : w'.os = w.os
  tape : w'.tape = w.tape
  output : w'.output = w.output
  size : w.heap.size ≤ w'.heap.size
  block : ∀ k, k < w.heap.size → k ∉ gs → w'.heap[k]? = w.heap[k]?
theorem Turned.refl (gs : List Nat) (w : World) : Turned gs w w := ⟨rfl, rfl, rfl, Nat.le_refl _, fun _ _ _ => rfl⟩
theorem Turned.grown {gs : List Nat} {a w w' : World} {g : Nat} (h : Turned gs a w) (hg : w.grownBy w' (some g)) (hm : g ∈ gs) : Turned gs a w' :=
  ⟨hg.os.trans h.os, hg.tape.trans h.tape, hg.output.trans h.output, Nat.le_trans h.size hg.size, fun k hk hn => (hg.block k (Nat.lt_of_lt_of_le hk h.size) (fun e => hn (by cases e; exact hm))).trans (h.block k hk hn)⟩
theorem Turned.below {gs : List Nat} {w w' : World} {B : Nat} (h : Turned gs w w') (hB : B ≤ w.heap.size) (hg : ∀ g ∈ gs, B ≤ g) : Below B w w' :=
  ⟨h.os, h.tape, h.output, h.size, fun k hk => h.block k (by omega) (fun hm => by have := hg k hm; omega)⟩
theorem OwnM.mem {w : World} {B n c : Nat} {A : Option Addr} {gs : List Nat} {L : List (List Int)} (h : OwnM w B A n c gs L) {g : Nat} (hm : g ∈ gs) : B ≤ g ∧ g < w.heap.size := by
  obtain ⟨i, hi, e⟩ := List.getElem_of_mem hm
  have hi' : i < L.length := by rw [← h.len]; exact hi
  have e2 : gs.getD i 0 = g := by simp [List.getD_eq_getElem?_getD, hi, e]
  rw [← e2]
  exact ⟨(h.rows i hi').1, (h.rows i hi').2.lt⟩
/-- What turns blocks below B alone turns nothing of what lies from B on. -/
theorem OwnM.apart {w w' : World} {B n c : Nat} {A : Option Addr} {gs ks : List Nat} {L : List (List Int)} (h : OwnM w B A n c gs L) (ht : Turned ks w w') (hk : ∀ k ∈ ks, k < B) : OwnM w' B A n c gs L := by
  have keep : ∀ k, B ≤ k → k < w.heap.size → w'.heap[k]? = w.heap[k]? := fun k h1 h2 => ht.block k h2 (fun hm => by have := hk k hm; omega)
  refine ⟨⟨h.row.1, ?_⟩, h.len, h.nodup, fun i hi => ?_⟩
  · rcases h.row.2 with e | ⟨g, cap, cur, e, hb, hh, r⟩
    · exact .inl e
    · exact .inr ⟨g, cap, cur, e, hb, (keep g hb (Array.getElem?_eq_some_iff.1 hh).1).trans hh, r⟩
  · obtain ⟨h1, h2⟩ := h.rows i hi
    exact ⟨h1, (keep _ h1 h2.lt).trans h2.1, h2.2⟩

end Go.Proofs.Ytiadnbdefcimiaa

/- An argument that is a slice of rows of ints, opened. -/
namespace Go.Proofs.Ytiadnbdefcimiaa
open Go.RowKit Go.Sort Go.Lib Go.ChangeShapes Go.WideShapes

theorem row_open {w : World} {A : Option Addr} {n c : Nat} {zs : List Int} (h1 : n ≤ c) (h2 : zs.length = c) (h3 : A = none → c = 0) (h4 : ∀ a', A = some a' → ∀ i, i < c → w.cell? (a'.add i) = some (.int .i64 (zs.getD i 0))) : Rd w A n (zs.take n) := by
  cases A with
  | none =>
    have := h3 rfl
    obtain rfl : n = 0 := by omega
    rw [List.take_zero]
    exact Rd.nil_ _ _
  | some a => exact Rd.of_row (by omega) (fun i hi => h4 a rfl i (by omega))
theorem add_at (a : Addr) (hs : a.spot = none) (r : Nat) : a.add r = ⟨a.block, a.off + r, none⟩ := by
  obtain ⟨b, off, spot⟩ := a
  subst hs
  unfold Addr.add
  by_cases h : r = 0
  · subst h; simp
  · simp [h]
theorem rows_open {w : World} {a : Addr} {len cap : Nat} (hl : len ≤ cap) {A : Nat → Option Addr} {L C : Nat → Nat} {Z : Nat → List Int} {base : Nat}
    (h : ∀ r, r < cap → w.cell? (a.add r) = some (.slice (A r) (L r) (C r)) ∧ L r ≤ C r ∧ C r ≤ maxLen ∧ (Z r).length = C r ∧ (∀ n ∈ Z r, (Lit.int .i64 n).wf = true) ∧ (A r = none → C r = 0) ∧
        ∀ a', A r = some a' → base ≤ a'.block ∧ ∀ c, c < C r → w.cell? (a'.add c) = some (.int .i64 ((Z r).getD c 0))) :
    ∃ zs, RdM w (some a) len zs ∧ ∀ i, i < len → (rowL zs i).length ≤ 9223372036854775807 := by
  have hrow : ∀ r, r < len → rowL ((List.range len).map fun r => (Z r).take (L r)) r = (Z r).take (L r) := fun r hr => by simp [rowL, List.getD_eq_getElem?_getD, hr]
  have hlen : ∀ r, r < len → ((Z r).take (L r)).length = L r := fun r hr => by
    obtain ⟨_, h1, _, h2, _⟩ := h r (by omega)
    rw [List.length_take]; omega
  refine ⟨(List.range len).map fun r => (Z r).take (L r), ⟨by simp, fun hn => ?_⟩, fun i hi => ?_⟩
  · have h0 := (h 0 (by omega)).1
    have hs : a.spot = none := by
      obtain ⟨b, off, spot⟩ := a
      simpa [Addr.add] using World.cell?_spot h0
    refine ⟨a.block, a.off, ?_, ?_, fun j hj => ?_⟩
    · obtain ⟨b, off, spot⟩ := a; simp at hs; rw [hs]
    · have := World.block_lt_of_cell? _ _ h0
      rwa [add_at a hs] at this
    · obtain ⟨h1, h2, h3, h4, _, h5, h6⟩ := h j (by omega)
      rw [hrow j hj, hlen j hj]
      rw [add_at a hs] at h1
      exact ⟨A j, C j, h1, row_open h2 h4 h5 (fun a' e => (h6 a' e).2)⟩
  · rw [hrow i hi, hlen i hi]
    obtain ⟨_, h1, h2, _⟩ := h i (by omega)
    unfold maxLen at h2
    omega
end Go.Proofs.Ytiadnbdefcimiaa

/- Two slices of rows of ints that read the same. -/
namespace Go.Proofs.Ytiadnbdefcimiaa
open Go.RowKit Go.Sort Go.Lib

set_option maxHeartbeats 400000 in
theorem sameIntsM_any (A A2 : Option Addr) (n n2 c c2 : Nat) (xs : List Int) (w : World) (h : Rd w A n xs) (h2 : Rd w A2 n2 xs) (hn : n ≤ 1048576) :
    Calls Try.prog 32 #[.slice A n c, .slice A2 n2 c2] w fun e w' => e = .returned (.bool true) ∧ Below w.heap.size w w' := by
  obtain rfl : n2 = n := h2.1.symm.trans h.1
  go_enter Try.func32, Try.ntmps32
  go_wp2
  go_loopw [5] (fun i wr => ∃ k : Nat, k ≤ n2 ∧ i = .int .i64 k ∧ Below w.heap.size w wr) (fun i _ => n2 - (intOf i).toNat)
  case atStart => exact ⟨0, Nat.zero_le _, rfl, Below.refl _ _⟩
  case round =>
    obtain ⟨k, hk, rfl, hb⟩ := hrel
    by_cases hlt : k < n2
    · obtain ⟨b, off, rfl, hbl, hc⟩ := h.2 (by omega)
      obtain ⟨b2, off2, rfl, hbl2, hc2⟩ := h2.2 (by omega)
      have hcx : wr.cell? ⟨b, off + k, none⟩ = some (.int .i64 (xs.getD k 0)) := (hb.cell (p := ⟨b, off + k, none⟩) hbl).trans (hc k hlt)
      have hcy : wr.cell? ⟨b2, off2 + k, none⟩ = some (.int .i64 (xs.getD k 0)) := (hb.cell (p := ⟨b2, off2 + k, none⟩) hbl2).trans (hc2 k hlt)
      obtain ⟨x, ex⟩ : ∃ x, x = xs.getD k 0 := ⟨_, rfl⟩
      rw [← ex] at hcx hcy
      clear ex hc hc2 h h2
      go_wp2
      go_quiet (fail)
      go_wp2
      go_roundw
      case rel => exact ⟨k + 1, by omega, by go_num, below_drewN hb _⟩
      case measure => simp [intOf]; omega
    · obtain rfl : k = n2 := by omega
      go_wp2
      go_ret
      exact ⟨rfl, hb⟩

end Go.Proofs.Ytiadnbdefcimiaa
