/- What is told of each corner of a ring, as rows. -/
import Derived.Test.YtiadnbdefcimiaaArea
import Derived.Test.YtiadnbdefcimiaaFloat
import Derived.Test.YtiadnbdefcimiaaPathS
import Derived.Test.YtiadnbdefcimiaaRowH
namespace Go.Proofs.Ytiadnbdefcimiaa
open Go.RowKit Go.Sort Go.Lib Go.Shelf
attribute [local go_sem] Oper.semAt_some

theorem listC_step {F : Fence} {n : Nat} {P : Program} {ops : Array Oper} {C : World → Prop} {Q : Exit → Act → World → Prop} {m k : Nat} {o : Oper} {rest : List Oper} {a : Act} {w : World}
    (h : ∀ K : Act → World → Prop, (∀ a' w', (k < m → C w') → wpListC F n P ops C m Q rest (k + 1) a' w' → K a' w') → if Region.wanted o (yielded ops a.tmps) then o.wpIn F n P a w K Q else (∀ f, o.about P w a.eval = some f → F.fn f) ∧ K (a.put o.dst undef) w) :
    wpListC F n P ops C m Q (o :: rest) k a w := by
  have := h (fun a' w' => (k < m → C w') ∧ wpListC F n P ops C m Q rest (k + 1) a' w') (fun _ _ h1 h2 => ⟨h1, h2⟩)
  unfold wpListC
  exact this
theorem box_far {W : World} {bx : Nat} {t : TypeId} {v : Value} {B n c : Nat} {A : Option Addr} {gs : List Nat} {L : List (List Int)} (hb : Boxed W bx t v) (h : OwnM W B A n c gs L) (h1 : t ≠ 23) (h2 : t ≠ 3) :
    (Value.slice A n c).ownBlock ≠ some bx ∧ ∀ i, i < L.length → gs.getD i 0 ≠ bx := by
  constructor
  · rcases h.row.2 with ⟨e, _⟩ | ⟨g', cap, cur, e, _, hh, _⟩
    · rw [e]; simp [Value.ownBlock]
    · rw [e]
      intro hg
      simp only [Value.ownBlock, Option.some.injEq] at hg
      subst hg
      have hb' := hb
      unfold Boxed at hb'
      rw [hh] at hb'
      simp only [Option.some.injEq, Obj.cells.injEq] at hb'
      exact h1 hb'.2.1.symm
  · intro i hi e
    have h3 := (h.rows i hi).2.1
    rw [e] at h3
    have hb' := hb
    unfold Boxed at hb'
    rw [h3] at hb'
    simp only [Option.some.injEq, Obj.cells.injEq] at hb'
    exact h2 hb'.2.1.symm
theorem OwnM.round {W W' : World} {B n c : Nat} {A : Option Addr} {gs : List Nat} {L : List (List Int)} {row : Option Nat} (h : OwnM W B A n c gs L) (hg : W.grownBy W' row) (hr : ∀ r, row = some r → ∃ o : Obj, W.heap[r]? = some o ∧ o.isCells = false) : OwnM W' B A n c gs L := by
  refine h.off hg (fun k e he => ?_) (fun k e i hi he => ?_)
  · obtain ⟨o, ho, hc⟩ := hr k e
    rcases h.row.2 with ⟨e', _⟩ | ⟨g', cap, cur, e', _, hh, _⟩
    · rw [e'] at he; simp [Value.ownBlock] at he
    · rw [e'] at he
      simp only [Value.ownBlock, Option.some.injEq] at he
      subst he
      rw [hh] at ho
      cases ho
      cases hc
  · obtain ⟨o, ho, hc⟩ := hr k e
    have h3 := (h.rows i hi).2.1
    rw [he, ho] at h3
    cases h3
    cases hc

/-- append of one row, inside a fence. -/
theorem wpListIn_appRowM {F : Fence} {r : Nat} {ops : Array Oper} {rest : List Oper} {o : Oper} {a : Act} {Q : Exit → Act → World → Prop} {W : World} (hgd : o.guard = none) (s x : Operand)
    (ho : o.op = .call { callee := .builtin .append, args := #[s, x], argTypes := #[60, 60] })
    {B n c : Nat} {A : Option Addr} {gs : List Nat} {L : List (List Int)} (hs : a.eval s = .slice A n c) (hown : OwnM W B A n c gs L) {b g c2 : Nat} {q : List Int} (hx : a.eval x = .slice (some ⟨b, 0, none⟩) 1 c2) (hc : W.cell? ⟨b, 0, none⟩ = some (rowW g q)) (ht : RowBlk W g q) (hg : B ≤ g) (hni : g ∉ gs)
    (hn : n ≤ 1000000) (hB : B ≤ W.heap.size)
    (h : ∀ A' c' W', OwnM W' B A' (n + 1) c' (gs ++ [g]) (L ++ [q]) → W.grownBy W' (Value.slice A n c).ownBlock → wpListIn F r Try.prog ops Q rest (a.put o.dst (.slice A' (n + 1) c')) W') : wpListIn F r Try.prog ops Q (o :: rest) a W := by
  obtain ⟨i0, hi, hz0, hz1, hz2⟩ := info_parts rowsInfo
  refine wpListIn_append_own W hgd s x 60 ho B 23 i0 (.slice none 0 0) 1 24 Try.underlying60 hi hz0 hz1 hz2 rfl (by decide) _ n ((gs.zip L).map fun p => rowW p.1 p.2) hs hown.row ⟨b, 0, none⟩ 1 c2 [rowW g q] hx rfl (fun j u hu => ?_) (fun u hu => ?_) (by unfold maxLen; omega) (by omega) hB fun v' w' r1 g1 _ => ?_
  · match j, hu with
    | 0, hu =>
      obtain rfl : rowW g q = u := by simpa using hu
      simpa [Addr.add] using hc
  · obtain rfl : u = rowW g q := by simpa using hu
    rfl
  · have hL := hown.n
    have hgl : gs.length = n := by rw [hown.len]; exact hL
    have e1 : (gs.zip L).map (fun p => rowW p.1 p.2) ++ [rowW g q] = ((gs ++ [g]).zip (L ++ [q])).map fun p => rowW p.1 p.2 := by
      rw [List.zip_append hown.len, List.map_append]; rfl
    rw [e1] at r1
    obtain ⟨A', c', rfl⟩ : ∃ A' c', v' = .slice A' (n + 1) c' := by
      rcases r1.2 with ⟨_, e⟩ | ⟨g', cap, cur, e, _⟩
      · omega
      · exact ⟨_, _, e⟩
    refine h A' c' w' ⟨r1, by simp [hown.len], ?_, fun i hi => ?_⟩ g1
    · rw [List.nodup_append]
      exact ⟨hown.nodup, by simp, fun a ha b hb e => by
        obtain rfl : b = g := by simpa using hb
        subst e; exact hni ha⟩
    · by_cases hlt : i < n
      · have e2 : (gs ++ [g]).getD i 0 = gs.getD i 0 := by simp [List.getD_eq_getElem?_getD, List.getElem?_append_left (show i < gs.length by omega)]
        have e3 : rowL (L ++ [q]) i = rowL L i := by unfold rowL; simp [List.getD_eq_getElem?_getD, List.getElem?_append_left (show i < L.length by omega)]
        rw [e2, e3]
        obtain ⟨q1, q2⟩ := hown.rows i (by omega)
        exact ⟨q1, q2.kept g1 (hown.ne q2).symm⟩
      · obtain rfl : i = n := by simp at hi; omega
        have e2 : (gs ++ [g]).getD i 0 = g := by simp [List.getD_eq_getElem?_getD, ← hgl]
        have e3 : rowL (L ++ [q]) i = q := by unfold rowL; simp [List.getD_eq_getElem?_getD, ← hL]
        rw [e2, e3]
        exact ⟨hg, ht.kept g1 (hown.ne ht).symm⟩

/-- The list so far. -/
def LstI (w : World) (T : Nat → Pt) {n : Nat} (pre : List (Fin n)) (W : World) : Prop :=
  ∃ A c gs, Boxed W (w.heap.size + 1 + 1) 60 (.slice A pre.length c) ∧ OwnM W w.heap.size A pre.length c gs (rowsOf (pre.map fun i => T i.1))
theorem LstI.from (w : World) (T : Nat → Pt) (n B : Nat) : OwnFrom B (LstI w T (n := n)) := fun pre W W' row hs hg hr => by
  obtain ⟨A, c, gs, h1, h2⟩ := hs
  refine ⟨A, c, gs, ?_, h2.round hg (fun r e => (hr r e).2)⟩
  refine h1.kept hg fun e => ?_
  obtain ⟨_, o, ho, hc⟩ := hr _ e.symm
  unfold Boxed at h1
  rw [h1] at ho
  cases ho
  cases hc

end Go.Proofs.Ytiadnbdefcimiaa
