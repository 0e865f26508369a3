/- A map from what a bundle lacks to a count: made, cleared, looked up, stored into. -/
import Derived.Test.YtliplbifgldjeaaMap
import Derived.Test.YtliplbifgldjeaaPolyP
import Derived.Maps.OwnOps
import Derived.Laws.EntriesVeiled
namespace Go.Proofs.Ytliplbifgldjeaa
open Go.RowKit Go.Maps

theorem miss_row : (57 : TypeId) < Try.prog.types.size := of_decide_eq_true (by kernel_rfl)
theorem miss_key : Try.prog.keyTypeAt 2 57 = true := by kernel_rfl
theorem miss_law : Keyed Try.prog 57 := Keyed.of_law (deep_law_laid laid_out (m := 2) (by omega) miss_row miss_key (by rw [Try.underlying57]))
theorem miss_deep : Try.prog.keyType 57 = true := by kernel_rfl
theorem miss_cells_of : Try.prog.cellsOf 57 = 3 := by kernel_rfl
theorem zero_int (w : World) : (zeroValue 3).run Try.prog w = .ok (.int .i64 0) w := by kernel_rfl
theorem mkey_ex {t : T3} (h : wf3 t) : ∃ l, keyOf Try.prog 57 (val3 t) = some l := by
  obtain ⟨h1, h2, h3⟩ := h
  obtain ⟨d, hd⟩ := types_deep
  exact key_any d hd Try.underlying57 miss_deep miss_cells_of Try.underlying3 int_cells_of ⟨rfl, rfl, rfl⟩ ⟨rfl, rfl, rfl⟩ ⟨rfl, rfl, rfl⟩ h1 h2 h3
noncomputable def litM (t : T3) : Lit := @Classical.epsilon Lit ⟨.bool true⟩ fun l => keyOf Try.prog 57 (val3 t) = some l
theorem litM_key {t : T3} (h : wf3 t) : keyOf Try.prog 57 (val3 t) = some (litM t) := Classical.epsilon_spec (mkey_ex h)
theorem litM_isKey {t : T3} (h : wf3 t) : WideAt.IsKeyLit (litM t) := miss_law.key (v := val3 t) (l := litM t) (litM_key h)
theorem litM_inj {s t : T3} (hs : wf3 s) (ht : wf3 t) (h : litM s = litM t) : s = t :=
  val3_inj (miss_law.inj (a := val3 s) (b := val3 t) (l := litM t) (h ▸ litM_key hs) (litM_key ht))

/-- What a bundle lacks, counted. -/
def cntI (G : Nat) (t : T3) : Int := (cnt G t.1.toNat t.2.1.toNat t.2.2.toNat : Nat)
noncomputable abbrev elemI : Value → Option (DataW Unit × List MemPlace) := plainElem (H := Unit) Try.prog 3
/-- Each entry of the datum is right. -/
def MemoD (D : DataW Unit) (G : Nat) : Prop := ∀ t z, wf3 t → Maps.has D (litM t) = true → D.atKey (litM t) z = .lit (.int .i64 (cntI G t))
/-- Block b is a map of n entries at most, each right for the greatest length G. -/
def MemoT (w : World) (b G n : Nat) : Prop := ∃ D, w.ownsMap Try.prog 57 elemI b n D ∧ MemoD D G
theorem MemoT.made (w : World) (G : Nat) : MemoT (w.alloc (.map #[] 0)) w.heap.size G 0 := ⟨_, World.ownsMap_made w _ _ _, fun t z _ h => by simp [Maps.has] at h⟩
theorem MemoT.lt {w : World} {b G n : Nat} (h : MemoT w b G n) : b < w.heap.size := by obtain ⟨D, h1, _⟩ := h; exact h1.lt
theorem MemoT.kept {w w' : World} {b G n : Nat} {row : Option Nat} (h : MemoT w b G n) (hg : w.grownBy w' row) (hr : some b ≠ row) : MemoT w' b G n := by
  obtain ⟨D, h1, h2⟩ := h
  exact ⟨D, h1.kept hg hr, h2⟩
theorem MemoT.same {w w' : World} {b G n : Nat} (h : MemoT w b G n) (hb : Below w.heap.size w w') : MemoT w' b G n := h.kept (grown_of_below hb) (by simp)
theorem MemoT.al {w : World} {b G n : Nat} (h : MemoT w b G n) (o : Obj) : MemoT (w.alloc o) b G n := h.kept (World.grownBy_alloc w o none) (by simp)
/-- 'clear(counts)': what is right of none is right for every greatest length. -/
theorem MemoT.clear {w : World} {b G n : Nat} (h : MemoT w b G n) : ∃ w', (∀ ty, (Builtin.clear_ #[71] ty #[.map (some b)]).run Try.prog w = .ok (.tuple #[]) w') ∧ (∀ G', MemoT w' b G' 0) ∧ w.grownBy w' (some b) := by
  obtain ⟨D, ⟨es, clock, hb, F, _, _⟩, _⟩ := h
  refine ⟨ChangeMaps.setBlock w b (.map #[] clock), fun ty => ?_, fun G' => ⟨.map [], ⟨#[], clock, ChangeMaps.heap_setBlock_same hb _, ⟨by simp, MapKept.stamped_empty clock, by simp⟩, by simp, rfl⟩, fun t z _ h => by simp [Maps.has] at h⟩, ⟨rfl, rfl, rfl, by simp [ChangeMaps.setBlock], fun i _ hi => ChangeMaps.heap_setBlock_other hb _ (fun e => hi (by rw [e]))⟩⟩
  simp [Builtin.clear_, run_underlying Try.underlying71, MapKept.run_getObj_map hb, MapKept.run_setObj_map _ hb, Result.andThen, ChangeMaps.setBlock]
theorem memo_put {D : DataW Unit} {G : Nat} (h : MemoD D G) (hm : IsMap D) {t : T3} (hw : wf3 t) : MemoD (D.put (litM t) (.lit (.int .i64 (cntI G t)))) G := by
  intro s z hs hh
  by_cases e : litM s = litM t
  · obtain rfl := litM_inj hs hw e
    exact atKey_put_same hm (litM_isKey hw) _ _
  · rw [has_put_other e] at hh
    rw [atKey_put_other e]
    exact h s z hs hh

section
variable (w : World) {ops : Array Oper} {rest : List Oper} {o : Oper} {a : Act} {Q : Exit → Act → World → Prop}
/-- 'counts[m] = v' at the operation. -/
theorem wp_memo_store (hg : o.guard = none) (m x v : Operand) (hop : o.op = Op.mapUpdate 71 m x v) (b G n : Nat) (hm : a.eval m = .map (some b)) (h : MemoT w b G n) (hn : n < maxLen)
    (t : T3) (hx : a.eval x = val3 t) (c : Int) (hc : c = cntI G t) (hv : a.eval v = .int .i64 c) (hwc : (Lit.int .i64 c).wf = true) (hw : wf3 t)
    (hK : ∀ w', MemoT w' b G (n + 1) → w.grownBy w' (some b) → wpList Try.prog ops Q rest (a.put o.dst undef) w') : wpList Try.prog ops Q (o :: rest) a w := by
  obtain ⟨D, h1, h2⟩ := h
  subst hc
  exact wpList_mapUpdate_own w hg m x v 71 hop 57 3 miss_law Try.underlying71 elemI b n D hm h1 hn _ _ (litM t) hx hv (litM_key hw) (.lit (.int .i64 (cntI G t))) [] (plainElem_int Try.underlying3 hwc) fun w' o1 g1 => hK w' ⟨_, o1, memo_put h2 h1.isMap hw⟩ g1

/-- 'known, ok := counts[m]' at the operation. -/
theorem wp_memo_look (hg : o.guard = none) (m x : Operand) (hop : o.op = Op.lookup 71 m x true) (b G n : Nat) (hm : a.eval m = .map (some b)) (h : MemoT w b G n)
    (t : T3) (hx : a.eval x = val3 t) (hw : wf3 t)
    (hYes : wpList Try.prog ops Q rest (a.put o.dst (.tuple #[.int .i64 (cntI G t), .bool true])) w)
    (hNo : ∀ c : Int, wpList Try.prog ops Q rest (a.put o.dst (.tuple #[.int .i64 c, .bool false])) w) : wpList Try.prog ops Q (o :: rest) a w := by
  obtain ⟨D, h1, h2⟩ := h
  refine wpList_lookup_own_ok_int w hg m x 71 hop 57 3 .i64 miss_law Try.underlying71 Try.underlying3 (zero_int w) b n D hm h1 _ (litM t) hx (litM_key hw) fun c hat hwc => ?_
  cases hh : Maps.has D (litM t) with
  | false => exact hNo c
  | true =>
    have := (h2 t (.lit (.int .i64 0)) hw hh).symm.trans hat
    simp only [DataW.lit.injEq, Lit.int.injEq, true_and] at this
    rw [← this]
    exact hYes
end
end Go.Proofs.Ytliplbifgldjeaa
