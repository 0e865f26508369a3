/- A slice of rows of three ints that the call itself made: appended to, read. -/
import Derived.Test.YtcfmnjkgebopcaaMapP
import Derived.Test.YtcfmnjkgebopcaaKit
import Derived.Test.YtcfmnjkgebopcaaApp
namespace Go.Proofs.Ytcfmnjkgebopcaa
open Go.RowKit

def trip (t : T3) : List Int := [t.1, t.2.1, t.2.2]
abbrev rowV (g : Nat) : Value := .slice (some ⟨g, 0, none⟩) 3 3
abbrev t0 : T3 := (0, 0, 0)
theorem sliceInfo : (Try.prog.info? 23).map (fun i => (i.zero, i.size, i.bytes)) = some (some (.slice none 0 0), 1, 24) := by kernel_rfl
theorem types_apart : (3 : TypeId) ≠ 23 := by decide

/-- The block of a row of three. -/
def TripAt (w : World) (g : Nat) (t : T3) : Prop := w.heap[g]? = some (.cells #[.int .i64 t.1, .int .i64 t.2.1, .int .i64 t.2.2] 3 (0, 0))
theorem TripAt.lt {w : World} {g : Nat} {t : T3} (h : TripAt w g t) : g < w.heap.size := (Array.getElem?_eq_some_iff.1 h).1
theorem TripAt.kept {w w' : World} {g : Nat} {t : T3} {row : Option Nat} (h : TripAt w g t) (hg : w.grownBy w' row) (hr : some g ≠ row) : TripAt w' g t := (hg.block g h.lt hr).trans h
theorem TripAt.rd {w : World} {g : Nat} {t : T3} (h : TripAt w g t) : Rd w (some ⟨g, 0, none⟩) 3 (trip t) := by
  refine ⟨rfl, fun _ => ⟨g, 0, rfl, h.lt, fun j hj => ?_⟩⟩
  rw [Nat.zero_add, cell_of_row w g j _ _ _ h]
  match j, hj with
  | 0, _ => rfl
  | 1, _ => rfl
  | 2, _ => rfl
theorem TripAt.own {w : World} {g B : Nat} {t : T3} (h : TripAt w g t) (hB : B ≤ g) : Own w B (some ⟨g, 0, none⟩) 3 3 (trip t) :=
  ⟨rfl, .inr ⟨g, 3, _, rfl, hB, h, Nat.le_refl _, by unfold maxLen; omega, rfl, rfl⟩⟩
theorem TripAt.made (w : World) (t : T3) : TripAt (w.alloc (.cells #[.int .i64 t.1, .int .i64 t.2.1, .int .i64 t.2.2] 3)) w.heap.size t := World.alloc_heap_new w _

structure OwnT (w : World) (B : Nat) (A : Option Addr) (n c : Nat) (gs : List Nat) (L : List T3) : Prop where
  row : w.ownsRow B 23 1 (.slice A n c) n (gs.map rowV)
  len : gs.length = L.length
  nodup : gs.Nodup
  rows : ∀ i, i < L.length → B ≤ gs.getD i 0 ∧ TripAt w (gs.getD i 0) (L.getD i t0)

theorem OwnT.n {w : World} {B n c : Nat} {A : Option Addr} {gs : List Nat} {L : List T3} (h : OwnT w B A n c gs L) : L.length = n := by
  have := h.row.1
  simp at this
  rw [← h.len]; exact this
theorem OwnT.ne {w : World} {B n c : Nat} {A : Option Addr} {gs : List Nat} {L : List T3} (h : OwnT w B A n c gs L) {g : Nat} {t : T3} (ht : TripAt w g t) : (Value.slice A n c).ownBlock ≠ some g := by
  rcases h.row.2 with ⟨e, _⟩ | ⟨g', cap, cur, e, _, hh, _⟩
  · rw [e]; simp [Value.ownBlock]
  · rw [e]
    intro hg
    simp only [Value.ownBlock, Option.some.injEq] at hg
    subst hg
    unfold TripAt at ht
    rw [hh] at ht
    simp only [Option.some.injEq, Obj.cells.injEq] at ht
    exact absurd ht.2.1.symm types_apart
theorem OwnT.kept {w w' : World} {B n c : Nat} {A : Option Addr} {gs : List Nat} {L : List T3} {row : Option Nat} (h : OwnT w B A n c gs L) (hg : w.grownBy w' row) (hr : ∀ k, row = some k → k < B) : OwnT w' B A n c gs L := by
  refine ⟨h.row.kept hg ?_, h.len, h.nodup, fun i hi => ⟨(h.rows i hi).1, (h.rows i hi).2.kept hg fun e => ?_⟩⟩
  · cases hb : (Value.slice A n c).ownBlock with
    | none => exact .inl rfl
    | some k =>
      refine .inr fun e => ?_
      have h1 := (h.row.lt k hb).1
      have h2 := hr k e.symm
      omega
  · have h1 := (h.rows i hi).1
    have h2 := hr _ e.symm
    omega
theorem OwnT.same {w w' : World} {B n c : Nat} {A : Option Addr} {gs : List Nat} {L : List T3} (h : OwnT w B A n c gs L) (hb : Below w.heap.size w w') : OwnT w' B A n c gs L := h.kept (grown_of_below hb) (fun k e => by cases e)
theorem OwnT.al {w : World} {B n c : Nat} {A : Option Addr} {gs : List Nat} {L : List T3} (h : OwnT w B A n c gs L) (o : Obj) : OwnT (w.alloc o) B A n c gs L := h.same (below_alloc (Below.refl _ _) o)
theorem OwnT.lower {w : World} {B B' n c : Nat} {A : Option Addr} {gs : List Nat} {L : List T3} (h : OwnT w B A n c gs L) (hB : B' ≤ B) : OwnT w B' A n c gs L := by
  refine ⟨⟨h.row.1, ?_⟩, h.len, h.nodup, fun i hi => ⟨Nat.le_trans hB (h.rows i hi).1, (h.rows i hi).2⟩⟩
  rcases h.row.2 with e | ⟨g, cap, cur, e, hb, r⟩
  · exact .inl e
  · exact .inr ⟨g, cap, cur, e, Nat.le_trans hB hb, r⟩
theorem OwnT.nil_ (w : World) (B : Nat) : OwnT w B none 0 0 [] [] := ⟨World.ownsRow_nil w B _ _, rfl, List.nodup_nil, fun i hi => absurd hi (by simp)⟩

theorem map_getD_rowV {gs : List Nat} {i : Nat} (h : i < gs.length) : (gs.map rowV)[i]? = some (rowV (gs.getD i 0)) := by simp [h, List.getD_eq_getElem?_getD]

/-- A slice of rows of three that reads as a list. -/
def RdT (w : World) (A : Option Addr) (n : Nat) (L : List T3) : Prop :=
  L.length = n ∧ (0 < n → ∃ b off, A = some ⟨b, off, none⟩ ∧ b < w.heap.size ∧ ∀ j, j < n → ∃ A' c', w.cell? ⟨b, off + j, none⟩ = some (.slice A' 3 c') ∧ Rd w A' 3 (trip (L.getD j t0)))
theorem OwnT.rd {w : World} {B n c : Nat} {A : Option Addr} {gs : List Nat} {L : List T3} (h : OwnT w B A n c gs L) : RdT w A n L := by
  have hn := h.n
  refine ⟨hn, fun h0 => ?_⟩
  have hrow := h.row
  rcases h.row.2 with ⟨e, e0⟩ | ⟨g, cap, cur, e, hb, hh, _⟩
  · omega
  · obtain ⟨rfl, rfl⟩ : A = some ⟨g, 0, none⟩ ∧ c = cap := by injection e with a b c; exact ⟨a, c⟩
    refine ⟨g, 0, rfl, (Array.getElem?_eq_some_iff.1 hh).1, fun j hj => ⟨some ⟨gs.getD j 0, 0, none⟩, 3, ?_, (h.rows j (by omega)).2.rd⟩⟩
    rw [Nat.zero_add, World.ownsRow.cellAt hrow j (by omega), map_getD_rowV (by rw [h.len]; omega)]
theorem RdT.below {w w' : World} {A : Option Addr} {n B : Nat} {L : List T3} (h : RdT w A n L) (hB : w.heap.size ≤ B) (hb : Below B w w') : RdT w' A n L :=
  ⟨h.1, fun hn => by
    obtain ⟨b, off, rfl, hlt, hc⟩ := h.2 hn
    refine ⟨b, off, rfl, Nat.lt_of_lt_of_le hlt hb.size, fun j hj => ?_⟩
    obtain ⟨A', c', h1, h2⟩ := hc j hj
    exact ⟨A', c', (hb.cell (p := ⟨b, off + j, none⟩) (by show b < B; omega)).trans h1, h2.below hB hb⟩⟩
theorem RdT.same {w w' : World} {A : Option Addr} {n : Nat} {L : List T3} (h : RdT w A n L) (hb : Below w.heap.size w w') : RdT w' A n L := h.below (Nat.le_refl _) hb

/-- append of one row. -/
theorem wpList_appRow {ops : Array Oper} {rest : List Oper} {o : Oper} {a : Act} {Q : Exit → Act → World → Prop} {W : World} (hgd : o.guard = none) (s x : Operand)
    (ho : o.op = .call { callee := .builtin .append, args := #[s, x], argTypes := #[40, 40] })
    {B n c : Nat} {A : Option Addr} {gs : List Nat} {L : List T3} (hs : a.eval s = .slice A n c) (hown : OwnT W B A n c gs L) {b g c2 : Nat} {t : T3} (hx : a.eval x = .slice (some ⟨b, 0, none⟩) 1 c2) (hc : W.cell? ⟨b, 0, none⟩ = some (rowV g)) (ht : TripAt W g t) (hg : B ≤ g) (hni : g ∉ gs)
    (hn : n ≤ 1000000) (hB : B ≤ W.heap.size)
    (h : ∀ A' c' W', OwnT W' B A' (n + 1) c' (gs ++ [g]) (L ++ [t]) → W.grownBy W' (Value.slice A n c).ownBlock → wpList Try.prog ops Q rest (a.put o.dst (.slice A' (n + 1) c')) W') : wpList Try.prog ops Q (o :: rest) a W := by
  obtain ⟨i0, hi, hz0, hz1, hz2⟩ := info_parts sliceInfo
  refine wpList_append_own W hgd s x 40 ho B 23 i0 (.slice none 0 0) 1 24 Try.underlying40 hi hz0 hz1 hz2 rfl (by decide) _ n (gs.map rowV) hs hown.row ⟨b, 0, none⟩ 1 c2 [rowV g] hx rfl (fun j u hu => ?_) (fun u hu => ?_) (by unfold maxLen; omega) (by omega) hB fun v' w' r1 g1 _ => ?_
  · match j, hu with
    | 0, hu =>
      obtain rfl : rowV g = u := by simpa using hu
      simpa [Addr.add] using hc
  · obtain rfl : u = rowV g := by simpa using hu
    rfl
  · have hL := hown.n
    have hgl : gs.length = n := by rw [hown.len]; exact hL
    have e1 : gs.map rowV ++ [rowV g] = (gs ++ [g]).map rowV := by simp
    rw [e1] at r1
    obtain ⟨A', c', rfl⟩ : ∃ A' c', v' = .slice A' (n + 1) c' := by
      rcases r1.2 with ⟨_, e⟩ | ⟨g', cap, cur, e, _⟩
      · omega
      · exact ⟨_, _, e⟩
    refine h A' c' w' ⟨r1, by simp [hown.len], ?_, fun i hi => ?_⟩ g1
    · rw [List.nodup_append]
      exact ⟨hown.nodup, by simp, fun a ha b hb e => by
        obtain rfl : b = g := by simpa using hb
        subst e; exact hni ha⟩
    · by_cases hlt : i < n
      · have e2 : (gs ++ [g]).getD i 0 = gs.getD i 0 := by simp [List.getD_eq_getElem?_getD, List.getElem?_append_left (show i < gs.length by omega)]
        have e3 : (L ++ [t]).getD i t0 = L.getD i t0 := by simp [List.getD_eq_getElem?_getD, List.getElem?_append_left (show i < L.length by omega)]
        rw [e2, e3]
        obtain ⟨q1, q2⟩ := hown.rows i (by omega)
        exact ⟨q1, q2.kept g1 (hown.ne q2).symm⟩
      · obtain rfl : i = n := by simp at hi; omega
        have e2 : (gs ++ [g]).getD i 0 = g := by simp [List.getD_eq_getElem?_getD, ← hgl]
        have e3 : (L ++ [t]).getD i t0 = t := by simp [List.getD_eq_getElem?_getD, ← hL]
        rw [e2, e3]
        exact ⟨hg, ht.kept g1 (hown.ne ht).symm⟩
end Go.Proofs.Ytcfmnjkgebopcaa
