/- A map that is a set of triples: made, cleared, stored into, counted, ranged over. -/
import Derived.Test.YtliplbifgldjeaaMapP
import Derived.Test.YtliplbifgldjeaaKit
import Derived.Maps.OwnSet
import Derived.Maps.RangeWalk
import Derived.DeepKeys4
namespace Go.Proofs.Ytliplbifgldjeaa
open Go.RowKit Go.Maps

theorem laid_out : laidOutB Try.prog = true := by kernel_rfl
theorem three_row : (66 : TypeId) < Try.prog.types.size := of_decide_eq_true (by kernel_rfl)
theorem three_key : Try.prog.keyTypeAt 2 66 = true := by kernel_rfl
theorem three_law : Keyed Try.prog 66 := Keyed.of_law (deep_law_laid laid_out (m := 2) (by omega) three_row three_key (by rw [Try.underlying66]))
theorem three_deep : Try.prog.keyType 66 = true := by kernel_rfl
theorem three_cells_of : Try.prog.cellsOf 66 = 3 := by kernel_rfl
theorem int_cells_of : Try.prog.cellsOf 3 = 1 := by kernel_rfl
theorem types_size : Try.prog.types.size = Try.prog.types.size - 1 + 1 := by kernel_rfl
theorem types_deep : ∃ d, Try.prog.types.size + 1 = d + 2 := ⟨Try.prog.types.size - 1, congrArg (· + 1) types_size⟩

theorem key_any {P : Program} {K I : TypeId} {f0 f1 f2 : Field} (d : Nat) (hd : P.types.size + 1 = d + 2) (hK : P.underlying K = some (.struct #[f0, f1, f2])) (hk : P.keyType K = true) (hc : P.cellsOf K = 3) (hI : P.underlying I = some (.int .i64)) (hci : P.cellsOf I = 1)
    (h0 : f0.type = I ∧ f0.offset = 0 ∧ (f0.name != "_") = true) (h1 : f1.type = I ∧ f1.offset = 1 ∧ (f1.name != "_") = true) (h2 : f2.type = I ∧ f2.offset = 2 ∧ (f2.name != "_") = true)
    {a b c : Int} (wa : (Lit.int .i64 a).wf = true) (wb : (Lit.int .i64 b).wf = true) (wc : (Lit.int .i64 c).wf = true) : ∃ l, keyOf P K (.agg #[.int .i64 a, .int .i64 b, .int .i64 c]) = some l := by
  obtain ⟨a0, b0, c0⟩ := h0
  obtain ⟨a1, b1, c1⟩ := h1
  obtain ⟨a2, b2, c2⟩ := h2
  have e : P.keyLits (d + 2) K [.int .i64 a, .int .i64 b, .int .i64 c] = some [.int .i64 a, .int .i64 b, .int .i64 c] := by
    simp [Program.keyLits, hK, hc, hI, hci, a0, b0, c0, a1, b1, c1, a2, b2, c2, wa, wb, wc]
  refine ⟨.string (keyBytes [.int .i64 a, .int .i64 b, .int .i64 c]), ?_⟩
  simp [keyOf, hK, hk, Value.formed, hc, Value.cells, hd, e]

/-- The value of three lengths. -/
abbrev val3 (t : T3) : Value := .agg #[.int .i64 t.1, .int .i64 t.2.1, .int .i64 t.2.2]
def wf3 (t : T3) : Prop := (Lit.int .i64 t.1).wf = true ∧ (Lit.int .i64 t.2.1).wf = true ∧ (Lit.int .i64 t.2.2).wf = true

theorem key_ex {t : T3} (h : wf3 t) : ∃ l, keyOf Try.prog 66 (val3 t) = some l := by
  obtain ⟨h1, h2, h3⟩ := h
  obtain ⟨d, hd⟩ := types_deep
  exact key_any d hd Try.underlying66 three_deep three_cells_of Try.underlying3 int_cells_of ⟨rfl, rfl, rfl⟩ ⟨rfl, rfl, rfl⟩ ⟨rfl, rfl, rfl⟩ h1 h2 h3
noncomputable def lit3 (t : T3) : Lit := @Classical.epsilon Lit ⟨.bool true⟩ fun l => keyOf Try.prog 66 (val3 t) = some l
theorem lit3_key {t : T3} (h : wf3 t) : keyOf Try.prog 66 (val3 t) = some (lit3 t) := Classical.epsilon_spec (key_ex h)
theorem lit3_isKey {t : T3} (h : wf3 t) : WideAt.IsKeyLit (lit3 t) := three_law.key (v := val3 t) (l := lit3 t) (lit3_key h)
theorem val3_inj {s t : T3} (h : val3 s = val3 t) : s = t := by
  obtain ⟨a, b, c⟩ := s
  obtain ⟨x, y, z⟩ := t
  simpa [val3] using h
theorem key_val {v : Value} {t : T3} (h : wf3 t) (hv : keyOf Try.prog 66 v = some (lit3 t)) : v = val3 t := three_law.inj (a := v) (b := val3 t) (l := lit3 t) hv (lit3_key h)
theorem lit3_inj {s t : T3} (hs : wf3 s) (ht : wf3 t) (h : lit3 s = lit3 t) : s = t := val3_inj (key_val ht (by rw [lit3_key hs, h]))

noncomputable abbrev elemB : Value → Option (DataW Unit × List MemPlace) := plainElem (H := Unit) Try.prog 4
/-- The datum holds just the triples of a list. -/
structure Holds3 (D : DataW Unit) (L : List T3) : Prop where
  size : Maps.size D = L.length
  nodup : L.Nodup
  wf : ∀ t ∈ L, wf3 t
  has : ∀ kl, Maps.has D kl = true ↔ ∃ t ∈ L, lit3 t = kl
/-- Block b is a map that holds just the triples of a list. -/
def SetT (w : World) (b : Nat) (L : List T3) : Prop := ∃ D, w.ownsMap Try.prog 66 elemB b L.length D ∧ Holds3 D L

def addT (L : List T3) (t : T3) : List T3 := if t ∈ L then L else L ++ [t]
theorem mem_addT {L : List T3} {s t : T3} : s ∈ addT L t ↔ s ∈ L ∨ s = t := by
  unfold addT
  split
  · exact ⟨.inl, fun h => by rcases h with h | rfl <;> assumption⟩
  · simp
theorem len_addT (L : List T3) (t : T3) : L.length ≤ (addT L t).length ∧ (addT L t).length ≤ L.length + 1 := by
  unfold addT
  split <;> simp

theorem owns_tight {w : World} {b n : Nat} {D : DataW Unit} (h : w.ownsMap Try.prog 66 elemB b n D) : w.ownsMap Try.prog 66 elemB b (Maps.size D) D := by
  obtain ⟨es, clock, hb, F, hs, rfl⟩ := h
  exact ⟨es, clock, hb, F, by simp [Maps.size, length_sorted], rfl⟩

theorem holds_empty : Holds3 (.map []) [] := ⟨rfl, List.nodup_nil, by simp, by simp [Maps.has]⟩
theorem SetT.made (w : World) : SetT (w.alloc (.map #[] 0)) w.heap.size [] := ⟨_, World.ownsMap_made w _ _ _, holds_empty⟩
theorem SetT.lt {w : World} {b : Nat} {L : List T3} (h : SetT w b L) : b < w.heap.size := by obtain ⟨D, h1, _⟩ := h; exact h1.lt
theorem SetT.kept {w w' : World} {b : Nat} {L : List T3} {row : Option Nat} (h : SetT w b L) (hg : w.grownBy w' row) (hr : some b ≠ row) : SetT w' b L := by
  obtain ⟨D, h1, h2⟩ := h
  exact ⟨D, h1.kept hg hr, h2⟩
theorem SetT.same {w w' : World} {b : Nat} {L : List T3} (h : SetT w b L) (hb : Below w.heap.size w w') : SetT w' b L := h.kept (grown_of_below hb) (by simp)
theorem SetT.nodup {w : World} {b : Nat} {L : List T3} (h : SetT w b L) : L.Nodup := by obtain ⟨D, _, h2⟩ := h; exact h2.nodup
theorem SetT.len {w : World} {b : Nat} {L : List T3} (h : SetT w b L) (ty : TypeId) : (Builtin.len_ #[51] ty #[.map (some b)]).run Try.prog w = .ok (.int .i64 (L.length : Int)) w := by
  obtain ⟨D, h1, h2⟩ := h
  rw [h1.len Try.underlying51 ty, h2.size]

theorem holds_put {D : DataW Unit} {L : List T3} (h : Holds3 D L) (ht : Tidy D) {t : T3} (hw : wf3 t) (d : DataW Unit) : Holds3 (D.put (lit3 t) d) (addT L t) := by
  have hin : Maps.has D (lit3 t) = true ↔ t ∈ L := by
    rw [h.has]
    exact ⟨fun ⟨s, hs, e⟩ => lit3_inj (h.wf s hs) hw e ▸ hs, fun hm => ⟨t, hm, rfl⟩⟩
  refine ⟨?_, ?_, ?_, fun kl => ?_⟩
  · rw [size_put ht]
    unfold addT
    by_cases hm : t ∈ L
    · rw [if_pos (hin.2 hm), if_pos hm, h.size]
    · rw [if_neg (fun e => hm (hin.1 e)), if_neg hm, h.size]; simp
  · unfold addT
    split
    · exact h.nodup
    · rename_i hm
      rw [List.nodup_append]
      exact ⟨h.nodup, by simp, fun a ha b hb e => hm (by simp at hb; subst hb; subst e; exact ha)⟩
  · intro s hs
    rcases mem_addT.1 hs with hs | rfl
    · exact h.wf s hs
    · exact hw
  · by_cases e : kl = lit3 t
    · subst e
      rw [has_put_same ht.isMap (lit3_isKey hw)]
      exact ⟨fun _ => ⟨t, mem_addT.2 (.inr rfl), rfl⟩, fun _ => rfl⟩
    · rw [has_put_other e, h.has]
      constructor
      · rintro ⟨s, hs, rfl⟩; exact ⟨s, mem_addT.2 (.inl hs), rfl⟩
      · rintro ⟨s, hs, rfl⟩
        rcases mem_addT.1 hs with hs | rfl
        · exact ⟨s, hs, rfl⟩
        · exact absurd rfl e

/-- 'clear(s)'. -/
theorem SetT.clear {w : World} {b : Nat} {L : List T3} (h : SetT w b L) : ∃ w', (∀ ty, (Builtin.clear_ #[51] ty #[.map (some b)]).run Try.prog w = .ok (.tuple #[]) w') ∧ SetT w' b [] ∧ w.grownBy w' (some b) := by
  obtain ⟨D, ⟨es, clock, hb, F, _, _⟩, _⟩ := h
  refine ⟨ChangeMaps.setBlock w b (.map #[] clock), fun ty => ?_, ⟨.map [], ⟨#[], clock, ChangeMaps.heap_setBlock_same hb _, ⟨by simp, MapKept.stamped_empty clock, by simp⟩, by simp, rfl⟩, holds_empty⟩, ⟨rfl, rfl, rfl, by simp [ChangeMaps.setBlock], fun i _ hi => ChangeMaps.heap_setBlock_other hb _ (fun e => hi (by rw [e]))⟩⟩
  simp [Builtin.clear_, run_underlying Try.underlying51, MapKept.run_getObj_map hb, MapKept.run_setObj_map _ hb, Result.andThen, ChangeMaps.setBlock]

section
variable (w : World) {ops : Array Oper} {rest : List Oper} {o : Oper} {a : Act} {Q : Exit → Act → World → Prop}
/-- 's[t] = true' at the operation. -/
theorem wp_set_store (hg : o.guard = none) (m x v : Operand) (hop : o.op = Op.mapUpdate 51 m x v) (b : Nat) (L : List T3) (hm : a.eval m = .map (some b)) (h : SetT w b L) (hn : L.length < maxLen)
    (t : T3) (hx : a.eval x = val3 t) (c : Bool) (hv : a.eval v = .bool c) (hw : wf3 t)
    (hK : ∀ w', SetT w' b (addT L t) → w.grownBy w' (some b) → wpList Try.prog ops Q rest (a.put o.dst undef) w') : wpList Try.prog ops Q (o :: rest) a w := by
  obtain ⟨D, h1, h2⟩ := h
  refine wpList_mapUpdate_own w hg m x v 51 hop 66 4 three_law Try.underlying51 elemB b L.length D hm h1 hn _ _ (lit3 t) hx hv (lit3_key hw) (.lit (.bool c)) [] (plainElem_bool Try.underlying4 c) fun w' o1 g1 => hK w' ?_ g1
  have hh := holds_put h2 (h1.tidy three_law) hw (.lit (.bool c))
  exact ⟨_, hh.size ▸ owns_tight o1, hh⟩

/-- A range over the set: block r is its iterator; S: the triples still to come. -/
def RangeT (w : World) (b r : Nat) (L S : List T3) (cnt : Nat) : Prop :=
  ∃ D left, w.ranges Try.prog 66 elemB b r L.length D left cnt ∧ Holds3 D L ∧ S.Nodup ∧ (∀ t ∈ S, t ∈ L) ∧ ∀ kl, left kl = true ↔ ∃ t ∈ S, lit3 t = kl
theorem RangeT.set {w : World} {b r : Nat} {L S : List T3} {cnt : Nat} (h : RangeT w b r L S cnt) : SetT w b L := by obtain ⟨D, left, h1, h2, _⟩ := h; exact ⟨D, h1.owns, h2⟩
theorem RangeT.left_eq {w : World} {b r : Nat} {L S : List T3} {cnt : Nat} (h : RangeT w b r L S cnt) : w.rangeLeft b r = cnt := by obtain ⟨D, left, h1, _⟩ := h; exact h1.left_eq
theorem RangeT.lt {w : World} {b r : Nat} {L S : List T3} {cnt : Nat} (h : RangeT w b r L S cnt) : r < w.heap.size := by obtain ⟨D, left, h1, _⟩ := h; exact h1.lt
theorem RangeT.ne {w : World} {b r : Nat} {L S : List T3} {cnt : Nat} (h : RangeT w b r L S cnt) : r ≠ b := by obtain ⟨D, left, h1, _⟩ := h; exact h1.ne
theorem RangeT.kept {w w' : World} {b r : Nat} {L S : List T3} {cnt : Nat} {row : Option Nat} (h : RangeT w b r L S cnt) (hg : w.grownBy w' row) (hb : some b ≠ row) (hr : some r ≠ row) : RangeT w' b r L S cnt := by
  obtain ⟨D, left, h1, h2⟩ := h
  exact ⟨D, left, h1.kept hg hb hr, h2⟩

/-- 'range s' at the operation. -/
theorem wp_set_range (hg : o.guard = none) (m : Operand) (hop : o.op = Op.range 51 m) (b : Nat) (L : List T3) (hm : a.eval m = .map (some b)) (h : SetT w b L)
    (hK : ∀ w', RangeT w' b w.heap.size L L L.length → w.grownBy w' none → w'.heap.size = w.heap.size + 1 → wpList Try.prog ops Q rest (a.put o.dst (.pointer (some ⟨w.heap.size, 0, none⟩))) w') :
    wpList Try.prog ops Q (o :: rest) a w := by
  obtain ⟨D, h1, h2⟩ := h
  refine wpList_range_own w hg m 51 hop 66 4 three_law Try.underlying51 elemB b L.length D hm h1 fun w' r1 g1 s1 => hK w' ⟨D, Maps.has D, h2.size ▸ r1, h2, h2.nodup, fun _ ht => ht, h2.has⟩ g1 s1

/-- A step of the range. -/
theorem wp_set_next (hg : o.guard = none) (it : Operand) (hop : o.op = Op.next it false) (b r : Nat) (L S : List T3) (cnt : Nat) (hit : a.eval it = .pointer (some ⟨r, 0, none⟩)) (h : RangeT w b r L S cnt)
    (hDone : S = [] → wpList Try.prog ops Q rest (a.put o.dst (.tuple #[.bool false])) w)
    (hMore : ∀ (t : T3) (c : Value) (w' : World) (cnt' : Nat), t ∈ S → t ∈ L → wf3 t → RangeT w' b r L (S.erase t) cnt' → cnt' < cnt → w.grownBy w' (some r) → w'.heap.size = w.heap.size →
      (Instr.entry (.pointer (some ⟨r, 0, none⟩))).run Try.prog w' = .ok (.tuple #[val3 t, c]) w' → wpList Try.prog ops Q rest (a.put o.dst (.tuple #[.bool true, val3 t, c])) w') :
    wpList Try.prog ops Q (o :: rest) a w := by
  obtain ⟨D, left, h1, h2, h3, h4, h5⟩ := h
  refine wpList_next_ranges w hg it hop 66 three_law elemB (fun v : Value => v) (fun v : Value => v) (fun key _ _ => ⟨key, rfl⟩) (fun v _ _ => ⟨v, rfl⟩) b r L.length D left cnt hit h1 (fun _ hl => hDone ?_) ?_
  · rw [List.eq_nil_iff_forall_not_mem]
    intro t ht
    have := (h5 (lit3 t)).2 ⟨t, ht, rfl⟩
    rw [hl] at this
    cases this
  · intro x c kl y w' cnt' hkey hlk hv hat hrg hlt hgr hsz hen
    obtain ⟨t, ht, rfl⟩ := (h5 kl).1 hlk
    have hw := h2.wf t (h4 t ht)
    obtain rfl := key_val hw hkey
    refine hMore t c w' cnt' ht (h4 t ht) hw ⟨D, _, hrg, h2, h3.erase t, fun s hs => h4 s (List.mem_of_mem_erase hs), fun kl => ?_⟩ hlt hgr hsz hen
    have hk := lit3_isKey hw
    constructor
    · intro hh
      simp only [Bool.and_eq_true, Bool.not_eq_true'] at hh
      obtain ⟨s, hs, rfl⟩ := (h5 kl).1 hh.1
      refine ⟨s, (List.mem_erase_of_ne ?_).2 hs, rfl⟩
      rintro rfl
      rw [WideAt.sameKey_self hk] at hh
      cases hh.2
    · rintro ⟨s, hs, rfl⟩
      have hs' := List.mem_of_mem_erase hs
      have hne : s ≠ t := by
        rintro rfl
        exact (h3.not_mem_erase) hs
      simp only [Bool.and_eq_true, Bool.not_eq_true']
      exact ⟨(h5 _).2 ⟨s, hs', rfl⟩, sameKey_ne fun e => hne (lit3_inj (h2.wf s (h4 s hs')) hw e)⟩
end
end Go.Proofs.Ytliplbifgldjeaa
