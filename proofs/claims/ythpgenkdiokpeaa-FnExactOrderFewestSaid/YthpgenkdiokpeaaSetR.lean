/- A map that is a set of rows of at most five steps. -/
import Derived.Test.YthpgenkdiokpeaaFewP
import Derived.Test.YthpgenkdiokpeaaVecs
import Derived.Maps.OwnSet
import Derived.DeepKeys4
namespace Go.Proofs.Ythpgenkdiokpeaa
open Go.RowKit Go.Maps

theorem laid_outR : laidOutB Try.prog = true := by kernel_rfl
theorem row_row : (107 : TypeId) < Try.prog.types.size := of_decide_eq_true (by kernel_rfl)
theorem row_key : Try.prog.keyTypeAt 3 107 = true := by kernel_rfl
theorem row_law : Keyed Try.prog 107 := Keyed.of_law (deep_law_laid laid_outR (m := 3) (by omega) row_row row_key (by rw [Try.underlying107]))
theorem row_deep : Try.prog.keyType 107 = true := by kernel_rfl
theorem row_cells_of : Try.prog.cellsOf 107 = 10 := by kernel_rfl
theorem vec_cells_of : Try.prog.cellsOf 55 = 2 := by kernel_rfl
theorem int_cells_ofR : Try.prog.cellsOf 3 = 1 := by kernel_rfl
theorem types_deepR : ∃ d, Try.prog.types.size + 1 = d + 3 := ⟨Try.prog.types.size - 2, by kernel_rfl⟩

theorem vec_lits {P : Program} {V I : TypeId} {f0 f1 : Field} (d : Nat) (hV : P.underlying V = some (.struct #[f0, f1])) (hc : P.cellsOf V = 2) (hI : P.underlying I = some (.int .i64)) (hci : P.cellsOf I = 1)
    (h0 : f0.type = I ∧ f0.offset = 0 ∧ (f0.name != "_") = true) (h1 : f1.type = I ∧ f1.offset = 1 ∧ (f1.name != "_") = true) {a b : Int} (wa : (Lit.int .i64 a).wf = true) (wb : (Lit.int .i64 b).wf = true) :
    P.keyLits (d + 2) V [.int .i64 a, .int .i64 b] = some [.int .i64 a, .int .i64 b] := by
  obtain ⟨a0, b0, c0⟩ := h0
  obtain ⟨a1, b1, c1⟩ := h1
  simp [Program.keyLits, hV, hc, hI, hci, a0, b0, c0, a1, b1, c1, wa, wb]
/-- The value of a row. -/
abbrev valO (o : List Pt) : Value := .agg #[.int .i64 (atP o 0).1, .int .i64 (atP o 0).2, .int .i64 (atP o 1).1, .int .i64 (atP o 1).2, .int .i64 (atP o 2).1, .int .i64 (atP o 2).2, .int .i64 (atP o 3).1, .int .i64 (atP o 3).2, .int .i64 (atP o 4).1, .int .i64 (atP o 4).2]
def wfI (x : Int) : Prop := (Lit.int .i64 x).wf = true
structure WfO (n : Nat) (o : List Pt) : Prop where
  len : o.length = n
  hn : n ≤ 5
  wf : ∀ i, wfI (atP o i).1 ∧ wfI (atP o i).2
theorem key_row {P : Program} {K V I : TypeId} {f0 f1 : Field} (d : Nat) (hd : P.types.size + 1 = d + 3) (hK : P.underlying K = some (.array 5 V)) (hk : P.keyType K = true) (hcK : P.cellsOf K = 10) (hV : P.underlying V = some (.struct #[f0, f1])) (hc : P.cellsOf V = 2) (hI : P.underlying I = some (.int .i64)) (hci : P.cellsOf I = 1)
    (h0 : f0.type = I ∧ f0.offset = 0 ∧ (f0.name != "_") = true) (h1 : f1.type = I ∧ f1.offset = 1 ∧ (f1.name != "_") = true) {n : Nat} {o : List Pt} (h : WfO n o) : ∃ l, keyOf P K (valO o) = some l := by
  have hv := fun i => vec_lits (P := P) d hV hc hI hci h0 h1 (h.wf i).1 (h.wf i).2
  obtain ⟨D, eD⟩ : ∃ D, D = d + 2 := ⟨_, rfl⟩
  rw [show d + 3 = D + 1 by omega] at hd
  rw [← eD] at hv
  have q0 := hv 0
  have q1 := hv 1
  have q2 := hv 2
  have q3 := hv 3
  have q4 := hv 4
  have hwf := h
  clear hv eD h hwf
  unfold valO
  generalize (atP o 0).1 = x0 at *
  generalize (atP o 0).2 = z0 at *
  generalize (atP o 1).1 = x1 at *
  generalize (atP o 1).2 = z1 at *
  generalize (atP o 2).1 = x2 at *
  generalize (atP o 2).2 = z2 at *
  generalize (atP o 3).1 = x3 at *
  generalize (atP o 3).2 = z3 at *
  generalize (atP o 4).1 = x4 at *
  generalize (atP o 4).2 = z4 at *
  have e : ∃ ls, P.keyLits (D + 1) K [.int .i64 x0, .int .i64 z0, .int .i64 x1, .int .i64 z1, .int .i64 x2, .int .i64 z2, .int .i64 x3, .int .i64 z3, .int .i64 x4, .int .i64 z4] = some ls := by
    have hr : List.range 5 = [0, 1, 2, 3, 4] := rfl
    simp [Program.keyLits, hK, hcK, hc, hr, q0, q1, q2, q3, q4]
  obtain ⟨ls, e⟩ := e
  refine ⟨.string (keyBytes ls), ?_⟩
  simp [keyOf, hK, hk, Value.formed, hcK, Value.cells, hd, e]

theorem keyO_ex {n : Nat} {o : List Pt} (h : WfO n o) : ∃ l, keyOf Try.prog 107 (valO o) = some l := by
  obtain ⟨d, hd⟩ := types_deepR
  exact key_row d hd Try.underlying107 row_deep row_cells_of Try.underlying55 vec_cells_of Try.underlying3 int_cells_ofR ⟨rfl, rfl, rfl⟩ ⟨rfl, rfl, rfl⟩ h
noncomputable def litO (o : List Pt) : Lit := @Classical.epsilon Lit ⟨.bool true⟩ fun l => keyOf Try.prog 107 (valO o) = some l
theorem litO_key {n : Nat} {o : List Pt} (h : WfO n o) : keyOf Try.prog 107 (valO o) = some (litO o) := Classical.epsilon_spec (keyO_ex h)
theorem litO_isKey {n : Nat} {o : List Pt} (h : WfO n o) : WideAt.IsKeyLit (litO o) := row_law.key (v := valO o) (l := litO o) (litO_key h)
theorem valO_inj {n : Nat} {s t : List Pt} (hs : WfO n s) (ht : WfO n t) (h : valO s = valO t) : s = t := by
  refine List.ext_getElem (by rw [hs.len, ht.len]) fun i h1 h2 => ?_
  rw [← atP_lt h1, ← atP_lt h2]
  have hn := hs.hn
  have hl := hs.len
  simp only [valO, Value.agg.injEq] at h
  have h' : ([(atP s 0).1, (atP s 0).2, (atP s 1).1, (atP s 1).2, (atP s 2).1, (atP s 2).2, (atP s 3).1, (atP s 3).2, (atP s 4).1, (atP s 4).2] : List Int) = [(atP t 0).1, (atP t 0).2, (atP t 1).1, (atP t 1).2, (atP t 2).1, (atP t 2).2, (atP t 3).1, (atP t 3).2, (atP t 4).1, (atP t 4).2] := by
    simpa using h
  simp only [List.cons.injEq, and_true] at h'
  obtain ⟨a0, b0, a1, b1, a2, b2, a3, b3, a4, b4⟩ := h'
  have : i = 0 ∨ i = 1 ∨ i = 2 ∨ i = 3 ∨ i = 4 := by omega
  rcases this with rfl | rfl | rfl | rfl | rfl
  · exact Prod.ext a0 b0
  · exact Prod.ext a1 b1
  · exact Prod.ext a2 b2
  · exact Prod.ext a3 b3
  · exact Prod.ext a4 b4
theorem litO_inj {n : Nat} {s t : List Pt} (hs : WfO n s) (ht : WfO n t) (h : litO s = litO t) : s = t :=
  valO_inj hs ht (row_law.inj (a := valO s) (b := valO t) (l := litO t) (by rw [litO_key hs, h]) (litO_key ht))

theorem zero_bool (w : World) : (zeroValue 4).run Try.prog w = .ok (.bool false) w := by kernel_rfl
theorem plainElem_bool_inv {P : Program} {e : TypeId} (he : P.underlying e = some .bool) {v : Value} {z : DataW Unit × List MemPlace} (h : plainElem P e v = some z) : ∃ x, v = .bool x ∧ z = (.lit (.bool x), []) := by
  unfold plainElem at h
  rw [he] at h
  cases v <;> simp at h
  exact ⟨_, rfl, h.symm⟩
noncomputable abbrev elemBR : Value → Option (DataW Unit × List MemPlace) := plainElem (H := Unit) Try.prog 4
theorem boolElem_inv {v : Value} {c : Bool} {ps : List MemPlace} (h : elemBR v = some (.lit (.bool c), ps)) : v = .bool c := by
  obtain ⟨x, rfl, e⟩ := plainElem_bool_inv Try.underlying4 h
  simp only [Prod.mk.injEq, DataW.lit.injEq, Lit.bool.injEq] at e
  rw [e.1]
/-- The datum holds just the rows of a list, each told true. -/
structure HoldsR (n : Nat) (D : DataW Unit) (L : List (List Pt)) : Prop where
  wf : ∀ t ∈ L, WfO n t
  say : ∀ t, WfO n t → D.atKey (litO t) (.lit (.bool false)) = .lit (.bool (decide (t ∈ L)))
/-- Block b is a map that holds just the rows of a list. -/
def SetR (n : Nat) (w : World) (b k : Nat) (L : List (List Pt)) : Prop := ∃ D, w.ownsMap Try.prog 107 elemBR b k D ∧ HoldsR n D L
theorem SetR.lt {n : Nat} {w : World} {b k : Nat} {L : List (List Pt)} (h : SetR n w b k L) : b < w.heap.size := by obtain ⟨D, h1, _⟩ := h; exact h1.lt
theorem SetR.kept {n : Nat} {w w' : World} {b k : Nat} {L : List (List Pt)} {row : Option Nat} (h : SetR n w b k L) (hg : w.grownBy w' row) (hr : some b ≠ row) : SetR n w' b k L := by
  obtain ⟨D, h1, h2⟩ := h
  exact ⟨D, h1.kept hg hr, h2⟩
theorem SetR.same {n : Nat} {w w' : World} {b k : Nat} {L : List (List Pt)} (h : SetR n w b k L) (hb : Below w.heap.size w w') : SetR n w' b k L := h.kept (grown_of_below hb) (by simp)
theorem SetR.made (n : Nat) (w : World) : SetR n (w.alloc (.map #[] 0)) w.heap.size 0 [] := ⟨_, World.ownsMap_made w _ _ _, ⟨fun t ht => (by cases ht), fun t ht => by rw [atKey_of_not_has (by simp [Maps.has])]; simp⟩⟩

theorem holdsR_put {n : Nat} {D : DataW Unit} {L : List (List Pt)} (h : HoldsR n D L) (hm : IsMap D) {t : List Pt} (hw : WfO n t) : HoldsR n (D.put (litO t) (.lit (.bool true))) (L ++ [t]) := by
  refine ⟨fun s hs => ?_, fun s hs => ?_⟩
  · rcases List.mem_append.1 hs with hs | hs
    · exact h.wf s hs
    · obtain rfl : s = t := by simpa using hs
      exact hw
  · by_cases e : s = t
    · subst e
      rw [atKey_put_same hm (litO_isKey hw)]
      simp
    · rw [atKey_put_other (fun e2 => e (litO_inj hs hw e2)), h.say s hs]
      simp [e]

section
variable (w : World) {ops : Array Oper} {rest : List Oper} {o : Oper} {a : Act} {Q : Exit → Act → World → Prop}
/-- 's[t] = true' at the operation. -/
theorem wp_row_store (hg : o.guard = none) (m x v : Operand) (hop : o.op = Op.mapUpdate 104 m x v) (n b k : Nat) (L : List (List Pt)) (hm : a.eval m = .map (some b)) (h : SetR n w b k L) (hn : k < maxLen)
    (t : List Pt) (hx : a.eval x = valO t) (hv : a.eval v = .bool true) (hw : WfO n t)
    (hK : ∀ w', SetR n w' b (k + 1) (L ++ [t]) → w.grownBy w' (some b) → wpList Try.prog ops Q rest (a.put o.dst undef) w') : wpList Try.prog ops Q (o :: rest) a w := by
  obtain ⟨D, h1, h2⟩ := h
  exact wpList_mapUpdate_own w hg m x v 104 hop 107 4 row_law Try.underlying104 elemBR b k D hm h1 hn _ _ (litO t) hx hv (litO_key hw) (.lit (.bool true)) [] (plainElem_bool Try.underlying4 true) fun w' o1 g1 => hK w' ⟨_, o1, holdsR_put h2 h1.isMap hw⟩ g1
/-- 's[t]' at the operation. -/
theorem wp_row_look (hg : o.guard = none) (m x : Operand) (hop : o.op = Op.lookup 104 m x false) (n b k : Nat) (L : List (List Pt)) (hm : a.eval m = .map (some b)) (h : SetR n w b k L)
    (t : List Pt) (hx : a.eval x = valO t) (hw : WfO n t) (hK : wpList Try.prog ops Q rest (a.put o.dst (.bool (decide (t ∈ L)))) w) : wpList Try.prog ops Q (o :: rest) a w := by
  obtain ⟨D, h1, h2⟩ := h
  refine wpList_plain hg fun K' hK' => ?_
  obtain ⟨v, ps, hrun, hv⟩ := h1.lookup row_law Try.underlying104 (zero_bool w) (plainElem_bool Try.underlying4 false) (litO_key hw)
  rw [h2.say t hw] at hv
  obtain rfl : v = .bool (decide (t ∈ L)) := boolElem_inv hv
  unfold Oper.wp
  simp [execOp, hop, hm, hx, hrun, Result.andThen]
  exact hK' _ _ hK
end
end Go.Proofs.Ythpgenkdiokpeaa
