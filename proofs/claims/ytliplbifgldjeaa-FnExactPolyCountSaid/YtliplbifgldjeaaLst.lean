/- Slices of rows of ints that the call itself made: appended to, read. -/
import Derived.Test.YtliplbifgldjeaaPoly2
import Derived.Maps.AppendAt
namespace Go.Proofs.Ytliplbifgldjeaa
open Go.RowKit

theorem rowInfo : (Try.prog.info? 23).map (fun i => (i.zero, i.size, i.bytes)) = some (some (.slice none 0 0), 1, 24) := by kernel_rfl
theorem rows_apart : (3 : TypeId) ≠ 23 := by decide
abbrev rowAt (L : List (List Int)) (i : Nat) : List Int := L.getD i []

/-- The slice value '.slice A n c' is the call's own slice of rows, each the call's own, that reads as L. -/
structure OwnL (w : World) (B : Nat) (A : Option Addr) (n c : Nat) (vs : List Value) (L : List (List Int)) : Prop where
  row : w.ownsRow B 23 1 (.slice A n c) n vs
  len : vs.length = L.length
  rows : ∀ i, i < L.length → ∃ A' c', vs[i]? = some (.slice A' (rowAt L i).length c') ∧ Own w B A' (rowAt L i).length c' (rowAt L i)

/-- A row of ints lies in no block of a slice of rows. -/
theorem own_ne {w : World} {B B' n c m d : Nat} {A A' : Option Addr} {vs : List Value} {xs : List Int} (h : w.ownsRow B 23 1 (.slice A n c) n vs) (ho : Own w B' A' m d xs) : (Value.slice A' m d).ownBlock = none ∨ (Value.slice A' m d).ownBlock ≠ (Value.slice A n c).ownBlock := by
  rcases ho.2 with ⟨e, _⟩ | ⟨g, cap, cur, e, _, hh, _⟩
  · rw [e]; exact .inl rfl
  · refine .inr ?_
    rw [e]
    rcases h.2 with ⟨e', _⟩ | ⟨g', cap', cur', e', _, hh', _⟩
    · rw [e']; simp [Value.ownBlock]
    · rw [e']
      intro hg
      simp only [Value.ownBlock, Option.some.injEq] at hg
      subst hg
      rw [hh] at hh'
      simp only [Option.some.injEq, Obj.cells.injEq] at hh'
      exact absurd hh'.2.1 rows_apart
theorem Own.kept_ {w w' : World} {B n c : Nat} {A : Option Addr} {xs : List Int} {row : Option Nat} (h : Own w B A n c xs) (hg : w.grownBy w' row) (hne : (Value.slice A n c).ownBlock = none ∨ (Value.slice A n c).ownBlock ≠ row) : Own w' B A n c xs := World.ownsRow.kept h hg hne
theorem OwnL.n {w : World} {B n c : Nat} {A : Option Addr} {vs : List Value} {L : List (List Int)} (h : OwnL w B A n c vs L) : L.length = n := by
  have := h.row.1
  rw [Nat.mul_one] at this
  rw [← h.len]; exact this
/-- What turns one row alone, of some other slice of rows, turns none of these. -/
theorem OwnL.other {w w' : World} {B B' n c n2 c2 : Nat} {A A2 : Option Addr} {vs vs2 : List Value} {L : List (List Int)} (h : OwnL w B A n c vs L) (h2 : w.ownsRow B' 23 1 (.slice A2 n2 c2) n2 vs2) (hg : w.grownBy w' (Value.slice A2 n2 c2).ownBlock) (hne : (Value.slice A n c).ownBlock = none ∨ (Value.slice A n c).ownBlock ≠ (Value.slice A2 n2 c2).ownBlock) : OwnL w' B A n c vs L :=
  ⟨h.row.kept hg hne, h.len, fun i hi => by
    obtain ⟨A', c', e, ho⟩ := h.rows i hi
    exact ⟨A', c', e, ho.kept_ hg (own_ne h2 ho)⟩⟩
theorem OwnL.same {w w' : World} {B n c : Nat} {A : Option Addr} {vs : List Value} {L : List (List Int)} (h : OwnL w B A n c vs L) (hb : Below w.heap.size w w') : OwnL w' B A n c vs L :=
  ⟨h.row.kept (grown_of_below hb) (by cases (Value.slice A n c).ownBlock with | none => exact .inl rfl | some k => exact .inr (by simp)), h.len, fun i hi => by
    obtain ⟨A', c', e, ho⟩ := h.rows i hi
    exact ⟨A', c', e, ho.same hb⟩⟩
theorem OwnL.al {w : World} {B n c : Nat} {A : Option Addr} {vs : List Value} {L : List (List Int)} (h : OwnL w B A n c vs L) (o : Obj) : OwnL (w.alloc o) B A n c vs L := h.same (below_alloc (Below.refl _ _) o)
theorem OwnL.lower {w : World} {B B' n c : Nat} {A : Option Addr} {vs : List Value} {L : List (List Int)} (h : OwnL w B A n c vs L) (hB : B' ≤ B) : OwnL w B' A n c vs L := by
  refine ⟨⟨h.row.1, ?_⟩, h.len, fun i hi => ?_⟩
  · rcases h.row.2 with e | ⟨g, cap, cur, e, hb, r⟩
    · exact .inl e
    · exact .inr ⟨g, cap, cur, e, Nat.le_trans hB hb, r⟩
  · obtain ⟨A', c', e, ho⟩ := h.rows i hi
    exact ⟨A', c', e, ho.lower hB⟩
/-- The cell of one row. -/
theorem OwnL.at_ {w : World} {B n c i : Nat} {A : Option Addr} {vs : List Value} {L : List (List Int)} (h : OwnL w B A n c vs L) (hi : i < n) :
    ∃ g A' c', A = some ⟨g, 0, none⟩ ∧ w.cell? ⟨g, i, none⟩ = some (.slice A' (rowAt L i).length c') ∧ Own w B A' (rowAt L i).length c' (rowAt L i) := by
  have hrow := h.row
  rcases h.row.2 with ⟨e, e0⟩ | ⟨g, cap, cur, e, hb, hh, _⟩
  · omega
  · obtain ⟨rfl, rfl⟩ : A = some ⟨g, 0, none⟩ ∧ c = cap := by injection e with a b c; exact ⟨a, c⟩
    obtain ⟨A', c', e', ho⟩ := h.rows i (by rw [h.n]; exact hi)
    exact ⟨g, A', c', rfl, by rw [World.ownsRow.cellAt hrow i (by omega), e'], ho⟩
theorem OwnL.empty (w : World) : OwnL (w.alloc (.cells #[] 23)) w.heap.size (some ⟨w.heap.size, 0, none⟩) 0 0 [] [] :=
  ⟨World.ownsRow_lit (e := 23) (size := 1) w #[] 0 (Nat.le_refl _) (by unfold maxLen; omega) (by simp), rfl, fun i hi => absurd hi (by simp)⟩
/-- One row without a number. -/
theorem OwnL.unit (w : World) : OwnL ((w.alloc (.cells #[] 3)).alloc (.cells #[.slice (some ⟨w.heap.size, 0, none⟩) 0 0] 23)) w.heap.size (some ⟨w.heap.size + 1, 0, none⟩) 1 1 [.slice (some ⟨w.heap.size, 0, none⟩) 0 0] [[]] := by
  have h1 := World.ownsRow_lit (e := 23) (size := 1) (base := w.heap.size) (w.alloc (.cells #[] 3)) #[.slice (some ⟨w.heap.size, 0, none⟩) 0 0] 1 (by rw [World.size_alloc]; omega) (by unfold maxLen; omega) (by simp)
  rw [World.size_alloc] at h1
  refine ⟨h1, rfl, fun i hi => ?_⟩
  obtain rfl : i = 0 := by simpa using hi
  exact ⟨_, _, rfl, (Own.lit w (Nat.le_refl _) [] (by simp)).al _⟩

/-- append of one row. -/
theorem wpList_appRowL {ops : Array Oper} {rest : List Oper} {o : Oper} {a : Act} {Q : Exit → Act → World → Prop} {W : World} (hgd : o.guard = none) (s x : Operand)
    (ho : o.op = .call { callee := .builtin .append, args := #[s, x], argTypes := #[48, 48] })
    {B n c : Nat} {A : Option Addr} {vs : List Value} {L : List (List Int)} (hs : a.eval s = .slice A n c) (hown : OwnL W B A n c vs L) {b c2 m cr : Nat} {A2 : Option Addr} (r : List Int) (hx : a.eval x = .slice (some ⟨b, 0, none⟩) 1 c2) (hc : W.cell? ⟨b, 0, none⟩ = some (.slice A2 m cr)) (hr : Own W B A2 m cr r)
    (hn : n ≤ 2147483648) (hB : B ≤ W.heap.size)
    (h : ∀ A' c' vs' W', OwnL W' B A' (n + 1) c' vs' (L ++ [r]) → W.grownBy W' (Value.slice A n c).ownBlock → ((Value.slice A' (n + 1) c').ownBlock = (Value.slice A n c).ownBlock ∨ (Value.slice A' (n + 1) c').ownBlock = some W.heap.size) → wpList Try.prog ops Q rest (a.put o.dst (.slice A' (n + 1) c')) W') : wpList Try.prog ops Q (o :: rest) a W := by
  obtain ⟨i0, hi, hz0, hz1, hz2⟩ := info_parts rowInfo
  refine wpList_append_own_at W hgd s x 48 ho B 23 i0 (.slice none 0 0) 1 24 Try.underlying48 hi hz0 hz1 hz2 rfl (by decide) _ n vs hs hown.row ⟨b, 0, none⟩ 1 c2 [.slice A2 m cr] hx rfl (fun j u hu => ?_) (fun u hu => ?_) (by unfold maxLen; omega) (by omega) hB fun v' w' r1 g1 _ at1 => ?_
  · match j, hu with
    | 0, hu =>
      obtain rfl : Value.slice A2 m cr = u := by simpa using hu
      simpa [Addr.add] using hc
  · obtain rfl : u = Value.slice A2 m cr := by simpa using hu
    rfl
  · have hL := hown.n
    have hvl : vs.length = n := by rw [hown.len]; exact hL
    obtain ⟨A', c', rfl⟩ : ∃ A' c', v' = .slice A' (n + 1) c' := by
      rcases r1.2 with ⟨_, e⟩ | ⟨g', cap, cur, e, _⟩
      · omega
      · exact ⟨_, _, e⟩
    refine h A' c' (vs ++ [.slice A2 m cr]) w' ⟨r1, by simp [hown.len], fun i hi => ?_⟩ g1 at1
    by_cases hlt : i < n
    · have e2 : (vs ++ [.slice A2 m cr])[i]? = vs[i]? := List.getElem?_append_left (by omega)
      have e3 : rowAt (L ++ [r]) i = rowAt L i := by unfold rowAt; simp [List.getD_eq_getElem?_getD, List.getElem?_append_left (show i < L.length by omega)]
      rw [e2, e3]
      obtain ⟨A3, c3, e4, h4⟩ := hown.rows i (by omega)
      exact ⟨A3, c3, e4, h4.kept_ g1 (own_ne hown.row h4)⟩
    · obtain rfl : i = n := by simp at hi; omega
      have e2 : (vs ++ [.slice A2 m cr])[i]? = some (.slice A2 m cr) := by simp [← hvl]
      have e3 : rowAt (L ++ [r]) i = r := by unfold rowAt; simp [List.getD_eq_getElem?_getD, ← hL]
      rw [e2, e3]
      have hm : r.length = m := hr.len
      exact ⟨A2, cr, by rw [hm], by rw [hm]; exact hr.kept_ g1 (own_ne hown.row hr)⟩
end Go.Proofs.Ytliplbifgldjeaa
