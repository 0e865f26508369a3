/- Slices of threes of places: read, owned, appended to; slices.Collect of the iterator's threes. -/
import Derived.Test.YtiadnbdefcimiaaClos
import Derived.Test.YtiadnbdefcimiaaRLists
namespace Go.Proofs.Ytiadnbdefcimiaa
open Go.RowKit Go.Sort Go.Lib Go.Shelf
attribute [local go_sem] Oper.semAt_some

theorem trioInfo : (Try.prog.info? 68).map (fun i => (i.zero, i.size, i.bytes)) = some (some (trioV (0, 0, 0)), 3, 24) := by kernel_rfl
def triAt (l : List Tri) (i : Nat) : Tri := l.getD i (0, 0, 0)
theorem triAt_lt {l : List Tri} {i : Nat} (h : i < l.length) : triAt l i = l[i] := by simp [triAt, List.getD_eq_getElem?_getD, h]
def flatQ : List Tri → List Value
  | [] => []
  | p :: t => .int .i64 p.1 :: .int .i64 p.2.1 :: .int .i64 p.2.2 :: flatQ t
theorem flatQ_len : ∀ l : List Tri, (flatQ l).length = l.length * 3
  | [] => rfl
  | _ :: t => by simp only [flatQ, List.length_cons, flatQ_len t]; omega
theorem flatQ_app : ∀ a b : List Tri, flatQ (a ++ b) = flatQ a ++ flatQ b
  | [], b => rfl
  | p :: t, b => by simp [flatQ, flatQ_app t b]
theorem flatQ_at : ∀ {l : List Tri} {i : Nat}, i < l.length → (flatQ l)[i * 3]? = some (.int .i64 (triAt l i).1) ∧ (flatQ l)[i * 3 + 1]? = some (.int .i64 (triAt l i).2.1) ∧ (flatQ l)[i * 3 + 2]? = some (.int .i64 (triAt l i).2.2)
  | p :: t, 0, _ => by simp [flatQ, triAt]
  | p :: t, i + 1, h => by
    have := flatQ_at (l := t) (i := i) (by simpa using h)
    rw [show (i + 1) * 3 + 1 = i * 3 + 1 + 1 + 1 + 1 by omega, show (i + 1) * 3 + 2 = i * 3 + 2 + 1 + 1 + 1 by omega, show (i + 1) * 3 = i * 3 + 1 + 1 + 1 by omega]
    simpa [flatQ, triAt] using this
theorem flatQ_one : ∀ (l : List Tri), ∀ u ∈ flatQ l, u.oneCell' = true
  | [], u, h => by cases h
  | p :: t, u, h => by
    simp only [flatQ, List.mem_cons] at h
    rcases h with rfl | rfl | rfl | h
    · rfl
    · rfl
    · rfl
    · exact flatQ_one t u h

/-- A slice of threes that reads as a list. -/
def RdQ (w : World) (A : Option Addr) (n : Nat) (l : List Tri) : Prop :=
  l.length = n ∧ (0 < n → ∃ b off, A = some ⟨b, off, none⟩ ∧ b < w.heap.size ∧ ∀ j, j < n → w.cell? ⟨b, off + j * 3, none⟩ = some (.int .i64 (triAt l j).1) ∧ w.cell? ⟨b, off + j * 3 + 1, none⟩ = some (.int .i64 (triAt l j).2.1) ∧ w.cell? ⟨b, off + j * 3 + 2, none⟩ = some (.int .i64 (triAt l j).2.2))
theorem RdQ.below {w w' : World} {A : Option Addr} {n B : Nat} {l : List Tri} (h : RdQ w A n l) (hB : w.heap.size ≤ B) (hb : Below B w w') : RdQ w' A n l :=
  ⟨h.1, fun hn => by
    obtain ⟨b, off, rfl, hlt, hc⟩ := h.2 hn
    refine ⟨b, off, rfl, Nat.lt_of_lt_of_le hlt hb.size, fun j hj => ?_⟩
    obtain ⟨h1, h2, h3⟩ := hc j hj
    exact ⟨(hb.cell (p := ⟨b, off + j * 3, none⟩) (by show b < B; omega)).trans h1, (hb.cell (p := ⟨b, off + j * 3 + 1, none⟩) (by show b < B; omega)).trans h2, (hb.cell (p := ⟨b, off + j * 3 + 2, none⟩) (by show b < B; omega)).trans h3⟩⟩
theorem RdQ.same {w w' : World} {A : Option Addr} {n : Nat} {l : List Tri} (h : RdQ w A n l) (hb : Below w.heap.size w w') : RdQ w' A n l := h.below (Nat.le_refl _) hb
/-- Blocks of another kind may turn. -/
theorem RdQ.drop {w : World} {b off n k : Nat} {l : List Tri} (h : RdQ w (some ⟨b, off, none⟩) n l) (hk : k ≤ n) : RdQ w (some ⟨b, off + k * 3, none⟩) (n - k) (l.drop k) := by
  refine ⟨by simp [h.1], fun h0 => ?_⟩
  obtain ⟨b', off', e, hb, hc⟩ := h.2 (by omega)
  simp only [Option.some.injEq, Addr.mk.injEq, and_true] at e
  obtain ⟨rfl, rfl⟩ := e
  refine ⟨b, off + k * 3, rfl, hb, fun j hj => ?_⟩
  have e : triAt (l.drop k) j = triAt l (k + j) := by simp [triAt, List.getD_eq_getElem?_getD]
  rw [e, show off + k * 3 + j * 3 = off + (k + j) * 3 by omega]
  exact hc (k + j) (by omega)

/-- The call's own slice of threes. -/
def OwnQ (w : World) (B : Nat) (A : Option Addr) (n c : Nat) (l : List Tri) : Prop := w.ownsRow B 68 3 (.slice A n c) n (flatQ l)
theorem OwnQ.n {w : World} {B n c : Nat} {A : Option Addr} {l : List Tri} (h : OwnQ w B A n c l) : l.length = n := by
  have := h.1
  rw [flatQ_len] at this
  omega
theorem OwnQ.form {w : World} {B n c : Nat} {A : Option Addr} {l : List Tri} (h : OwnQ w B A n c l) (hn : 0 < n) : ∃ g, A = some ⟨g, 0, none⟩ ∧ B ≤ g ∧ g < w.heap.size := by
  rcases h.2 with ⟨_, rfl⟩ | ⟨g, cap, cur, hv, hb, hh, _⟩
  · omega
  · have hA : A = some ⟨g, 0, none⟩ := by injection hv
    exact ⟨g, hA, hb, (Array.getElem?_eq_some_iff.1 hh).1⟩
theorem OwnQ.rd {w : World} {B n c : Nat} {A : Option Addr} {l : List Tri} (h : OwnQ w B A n c l) : RdQ w A n l := by
  refine ⟨h.n, fun hn => ?_⟩
  obtain ⟨g, rfl, _, hlt⟩ := h.form hn
  have hl := h.n
  refine ⟨g, 0, rfl, hlt, fun j hj => ?_⟩
  obtain ⟨f1, f2, f3⟩ := flatQ_at (l := l) (i := j) (by omega)
  rw [Nat.zero_add]
  exact ⟨by rw [World.ownsRow.cellAt h (j * 3) (by omega), f1], by rw [World.ownsRow.cellAt h (j * 3 + 1) (by omega), f2], by rw [World.ownsRow.cellAt h (j * 3 + 2) (by omega), f3]⟩
theorem OwnQ.row {w : World} {B n c : Nat} {A : Option Addr} {l : List Tri} (h : OwnQ w B A n c l) : ∀ k, (Value.slice A n c).ownBlock = some k → B ≤ k ∧ k < w.heap.size := World.ownsRow.lt h
theorem OwnQ.far {w w' : World} {B n c : Nat} {A : Option Addr} {l : List Tri} {row : Option Nat} (h : OwnQ w B A n c l) (hg : w.grownBy w' row) (hr : ∀ k, row = some k → k < B ∨ w.heap.size ≤ k) : OwnQ w' B A n c l := by
  refine World.ownsRow.kept h hg ?_
  cases hb : (Value.slice A n c).ownBlock with
  | none => exact .inl rfl
  | some k =>
    refine .inr fun e => ?_
    have h1 := h.row k hb
    have h2 := hr k e.symm
    omega
theorem OwnQ.same {w w' : World} {B n c : Nat} {A : Option Addr} {l : List Tri} (h : OwnQ w B A n c l) (hb : Below w.heap.size w w') : OwnQ w' B A n c l := h.far (grown_of_below hb) (fun k e => by cases e)
theorem OwnQ.al {w : World} {B n c : Nat} {A : Option Addr} {l : List Tri} (h : OwnQ w B A n c l) (o : Obj) : OwnQ (w.alloc o) B A n c l := World.ownsRow.alloc h o
theorem OwnQ.lower {w : World} {B B' n c : Nat} {A : Option Addr} {l : List Tri} (h : OwnQ w B A n c l) (hB : B' ≤ B) : OwnQ w B' A n c l := by
  refine ⟨h.1, ?_⟩
  rcases h.2 with hn | ⟨g, cap, cur, hv, hb, rest⟩
  · exact .inl hn
  · exact .inr ⟨g, cap, cur, hv, Nat.le_trans hB hb, rest⟩
theorem OwnQ.nil_ (w : World) (B : Nat) : OwnQ w B none 0 0 [] := World.ownsRow_nil w B _ _
theorem shape_Q {w : World} {B n : Nat} {v : Value} {l : List Tri} (h : w.ownsRow B 68 3 v n (flatQ l)) : ∃ A c, v = .slice A n c ∧ OwnQ w B A n c l := by
  rcases h.2 with ⟨rfl, rfl⟩ | ⟨g, cap, cur, rfl, rest⟩
  · exact ⟨none, 0, rfl, h⟩
  · exact ⟨_, cap, rfl, h⟩
theorem OwnQ.blkT {w : World} {B n c : Nat} {A : Option Addr} {l : List Tri} (h : OwnQ w B A n c l) {k : Nat} (hk : (Value.slice A n c).ownBlock = some k) : ∃ cs fr, w.heap[k]? = some (.cells cs 68 fr) := by
  rcases h.2 with ⟨e', _⟩ | ⟨g', cap, cur, e', _, hh, _⟩
  · rw [e'] at hk; simp [Value.ownBlock] at hk
  · rw [e'] at hk
    simp only [Value.ownBlock, Option.some.injEq] at hk
    subst hk
    exact ⟨_, _, hh⟩
theorem OwnQ.boxed {W : World} {bx : Nat} {t : TypeId} {v : Value} {B n c : Nat} {A : Option Addr} {l : List Tri} (h : OwnQ W B A n c l) (hb : Boxed W bx t v) (h1 : t ≠ 68) : (Value.slice A n c).ownBlock ≠ some bx := by
  intro e
  obtain ⟨cs, fr, hh⟩ := h.blkT e
  unfold Boxed at hb
  rw [hh] at hb
  simp only [Option.some.injEq, Obj.cells.injEq] at hb
  exact h1 hb.2.1.symm
theorem OwnQ.round {W W' : World} {B n c : Nat} {A : Option Addr} {l : List Tri} {row : Option Nat} (h : OwnQ W B A n c l) (hg : W.grownBy W' row) (hr : ∀ r, row = some r → ∃ o : Obj, W.heap[r]? = some o ∧ o.isCells = false) : OwnQ W' B A n c l := by
  refine World.ownsRow.kept h hg ?_
  cases hb : (Value.slice A n c).ownBlock with
  | none => exact .inl rfl
  | some k =>
    refine .inr fun e => ?_
    obtain ⟨o, ho, hc⟩ := hr k e.symm
    obtain ⟨cs, fr, hh⟩ := h.blkT hb
    rw [hh] at ho
    cases ho
    cases hc
theorem OwnQ.off {W W' : World} {B n c : Nat} {A : Option Addr} {l : List Tri} {row : Option Nat} (h : OwnQ W B A n c l) (hg : W.grownBy W' row) (hr : ∀ r, row = some r → (Value.slice A n c).ownBlock ≠ some r) : OwnQ W' B A n c l := by
  refine World.ownsRow.kept h hg ?_
  cases hb : (Value.slice A n c).ownBlock with
  | none => exact .inl rfl
  | some k => exact .inr fun e => hr k e.symm hb

/-- append of one three, inside a fence. -/
theorem wpListIn_appQ {F : Fence} {r : Nat} {ops : Array Oper} {rest : List Oper} {o : Oper} {a : Act} {Q : Exit → Act → World → Prop} {W : World} (hgd : o.guard = none) (s x : Operand)
    (ho : o.op = .call { callee := .builtin .append, args := #[s, x], argTypes := #[65, 65] })
    {B n c : Nat} {A : Option Addr} {l : List Tri} (hs : a.eval s = .slice A n c) (hown : OwnQ W B A n c l) {b c2 : Nat} {t : Tri} (hx : a.eval x = .slice (some ⟨b, 0, none⟩) 1 c2)
    (k0 : W.cell? ⟨b, 0, none⟩ = some (.int .i64 t.1)) (k1 : W.cell? ⟨b, 1, none⟩ = some (.int .i64 t.2.1)) (k2 : W.cell? ⟨b, 2, none⟩ = some (.int .i64 t.2.2))
    (hn : n ≤ 1000000) (hB : B ≤ W.heap.size)
    (h : ∀ A' c' W', OwnQ W' B A' (n + 1) c' (l ++ [t]) → W.grownBy W' (Value.slice A n c).ownBlock → wpListIn F r Try.prog ops Q rest (a.put o.dst (.slice A' (n + 1) c')) W') : wpListIn F r Try.prog ops Q (o :: rest) a W := by
  obtain ⟨i0, hi, hz0, hz1, hz2⟩ := info_parts trioInfo
  refine wpListIn_append_own W hgd s x 65 ho B 68 i0 (trioV (0, 0, 0)) 3 24 Try.underlying65 hi hz0 hz1 hz2 rfl (by decide) _ n (flatQ l) hs hown ⟨b, 0, none⟩ 1 c2 [.int .i64 t.1, .int .i64 t.2.1, .int .i64 t.2.2] hx rfl (fun j u hu => ?_) (fun u hu => ?_) (by unfold maxLen; omega) (by omega) hB fun v' w' r1 g1 _ => ?_
  · match j, hu with
    | 0, hu =>
      obtain rfl : Value.int .i64 t.1 = u := by simpa using hu
      simpa [Addr.add] using k0
    | 1, hu =>
      obtain rfl : Value.int .i64 t.2.1 = u := by simpa using hu
      simpa [Addr.add] using k1
    | 2, hu =>
      obtain rfl : Value.int .i64 t.2.2 = u := by simpa using hu
      simpa [Addr.add] using k2
  · simp only [List.mem_cons, List.not_mem_nil, or_false] at hu
    rcases hu with rfl | rfl | rfl <;> rfl
  · have e1 : flatQ l ++ [.int .i64 t.1, .int .i64 t.2.1, .int .i64 t.2.2] = flatQ (l ++ [t]) := by rw [flatQ_app]; rfl
    rw [e1] at r1
    obtain ⟨A', c', rfl, r2⟩ := shape_Q r1
    exact h A' c' w' r2 g1

/-- The list so far. -/
def LstQ (bx B : Nat) (pre : List Tri) (W : World) : Prop :=
  ∃ A c, Boxed W bx 65 (.slice A pre.length c) ∧ OwnQ W B A pre.length c pre
theorem LstQ.from (bx B B' : Nat) : OwnFrom B' (LstQ bx B) := fun pre W W' row hs hg hr => by
  obtain ⟨A, c, h1, h2⟩ := hs
  refine ⟨A, c, ?_, h2.round hg (fun r e => (hr r e).2)⟩
  refine h1.kept hg fun e => ?_
  obtain ⟨_, o, ho, hc⟩ := hr _ e.symm
  unfold Boxed at h1
  rw [h1] at ho
  cases ho
  cases hc

set_option maxRecDepth 100000 in
set_option maxHeartbeats 4000000 in
theorem appendSeq_any (Bs b off n cap : Nat) (zs : List Int) (hn1 : 1 ≤ n) (hn9 : n ≤ 9) (hzl : zs.length = n) (hz : ∀ j, j < n → 1 ≤ zs.getD j 0 ∧ zs.getD j 0 ≤ 60) (w : World)
    (hBs : w.cell? ⟨Bs, 0, none⟩ = some (.slice (some ⟨b, off, none⟩) n cap)) (hc : ∀ j, j < n → w.cell? ⟨b, off + j, none⟩ = some (.int .i64 (zs.getD j 0))) :
    Calls Try.prog 95 #[.slice none 0 0, .func (.func 96) #[] #[.pointer (some ⟨Bs, 0, none⟩)]] w fun e w' => (∃ A c, e = .returned (.slice A (triP (cloQ zs) n).length c) ∧ OwnQ w' w.heap.size A (triP (cloQ zs) n).length c (triP (cloQ zs) n)) ∧ Below w.heap.size w w' := by
  have h1 := lt_of_cell hBs
  have h2 := lt_of_cell (hc 0 (by omega))
  have HC := Lib.hid hc
  have HBs := Lib.hid hBs
  clear hc hBs
  refine (callsIn_wide (n := 5)).1 ?_
  refine callsIn_of_wp_marks Try.func95 rfl trivial ?_ rfl
  simp only [Try.ntmps95, List.size_toArray, List.length_cons, List.length_nil, Nat.reduceAdd, Nat.reduceSub, Array.replicate_succ, Array.replicate_zero, List.push_toArray, List.append_toArray, List.nil_append, List.cons_append]
  gi_wp2_with fail
  obtain ⟨W0, hW0⟩ : ∃ W0, w.alloc (.cells #[.slice none 0 0] 65) = W0 := ⟨_, rfl⟩
  have bL : Boxed W0 w.heap.size 65 (.slice none 0 0) := by rw [← hW0]; exact Boxed.new w _ _
  have hB0 : Below w.heap.size w W0 := by rw [← hW0]; exact below_alloc (Below.refl _ _) _
  have hsz : W0.heap.size = w.heap.size + 1 := by rw [← hW0]; simp
  rw [hW0]
  clear hW0
  refine wpIn_rangeFunc_ownH (F := Fence.wide) rfl (by omega) (gf := 96) (lb := #[.pointer (some ⟨Bs, 0, none⟩)]) rfl trivial (enters_of Try.func96 (by kernel_rfl) rfl)
    (closing_stops _ Bs b off n cap zs hn9 hzl hz W0 ((hB0.cell (p := ⟨Bs, 0, none⟩) h1).trans HBs.out) (fun j hj => (hB0.cell (p := ⟨b, off + j, none⟩) h2).trans (HC.out j hj)) (by omega) (by omega)) Kp2.trans (kp2_b (by omega) (by omega)) (Below.refl _ _) (fun _ => rfl)
    (fun pre W => (LstQ w.heap.size w.heap.size pre W ∧ w.heap.size + 1 ≤ W.heap.size) ∧ Below w.heap.size w W)
    (fun _ _ _ => False)
    (OwnFrom.and (OwnFrom.and (LstQ.from _ _ _) (own_size _ _)) (ownFrom_below (Nat.le_refl _) (by omega)))
    (fun _ _ _ _ _ hs _ _ => hs)
    ⟨⟨⟨none, 0, bL, OwnQ.nil_ _ _⟩, by omega⟩, hB0⟩
    (fun x a' W => ∃ Bx, w.heap.size + 1 ≤ Bx ∧ W.heap[Bx]? = some (.cells #[.int .i64 x.1, .int .i64 x.2.1, .int .i64 x.2.2] 68 (0, 0)) ∧ a' = { tmps := #[.slice none 0 0, .func (.func 96) #[] #[.pointer (some ⟨Bs, 0, none⟩)], .pointer (some ⟨w.heap.size, 0, none⟩), undef, .slice none 0 0, .pointer (some ⟨Bx, 0, none⟩), .func (.func 96) #[] #[.pointer (some ⟨Bs, 0, none⟩)], trioV x, undef, undef, undef, undef, undef], defers := [] })
    (fun x a' _ X Y row hs hg hr => by
      obtain ⟨Bx, h1, h2, h3⟩ := hs
      exact ⟨Bx, h1, (hg.block Bx (Array.getElem?_eq_some_iff.1 h2).1 (fun e => by obtain ⟨_, o, ho, hk⟩ := hr Bx e.symm; rw [h2] at ho; cases ho; cases hk)).trans h2, h3⟩)
    ?assign ?body ?done ?stop
  case assign =>
    rintro l pre x W K ⟨⟨⟨A1, c1, bM1, ho1⟩, hz1⟩, hB1⟩ hK
    simp only [encQ]
    gi_wp2
    have hs2 := hB1.size
    exact hK _ _ ((KeepsOthers.alloc _ _).from _) (kp2_of (World.grownBy_alloc W _ none) (by omega) (by omega) (fun k e => by cases e)) ⟨⟨⟨A1, c1, bM1.alloc _, ho1.al _⟩, by simp; omega⟩, hB1.alloc hB1.size _⟩ ⟨W.heap.size, hz1, World.alloc_heap_new W _, rfl⟩
  case body =>
    rintro l pre x a' W hl ⟨r, hr⟩ ⟨⟨⟨A1, c1, bM1, ho1⟩, hz1⟩, hB1⟩ ⟨Bx, hBx, bX, rfl⟩ hlt
    have hs2 := hB1.size
    have cM := bM1.cell
    have k0 : W.cell? ⟨Bx, 0, none⟩ = some (.int .i64 x.1) := by rw [cell_of_row W Bx 0 _ _ _ bX]; rfl
    have k1 : W.cell? ⟨Bx, 1, none⟩ = some (.int .i64 x.2.1) := by rw [cell_of_row W Bx 1 _ _ _ bX]; rfl
    have k2 : W.cell? ⟨Bx, 2, none⟩ = some (.int .i64 x.2.2) := by rw [cell_of_row W Bx 2 _ _ _ bX]; rfl
    have hl0 : (W.alloc (.cells #[.int .i64 x.1, .int .i64 x.2.1, .int .i64 x.2.2] 68)).cell? ⟨W.heap.size, 0, none⟩ = some (.int .i64 x.1) := by rw [cell_of_row _ W.heap.size 0 _ _ _ (World.alloc_heap_new W _)]; rfl
    have hl1 : (W.alloc (.cells #[.int .i64 x.1, .int .i64 x.2.1, .int .i64 x.2.2] 68)).cell? ⟨W.heap.size, 1, none⟩ = some (.int .i64 x.2.1) := by rw [cell_of_row _ W.heap.size 1 _ _ _ (World.alloc_heap_new W _)]; rfl
    have hl2 : (W.alloc (.cells #[.int .i64 x.1, .int .i64 x.2.1, .int .i64 x.2.2] 68)).cell? ⟨W.heap.size, 2, none⟩ = some (.int .i64 x.2.2) := by rw [cell_of_row _ W.heap.size 2 _ _ _ (World.alloc_heap_new W _)]; rfl
    have o6 := ho1.al (.cells #[.int .i64 x.1, .int .i64 x.2.1, .int .i64 x.2.2] 68)
    have HX := Lib.hid (And.intro hl0 (And.intro hl1 hl2))
    have HO6 := Lib.hid o6
    have HBX := Lib.hid bM1
    have HB1 := Lib.hid hB1
    clear hl0 hl1 hl2 o6 ho1 bM1 hB1
    gi_wp2_with (gi_at_builtin; refine wpListIn_appQ rfl (.tmp 8) (.tmp 10) rfl rfl HO6.out (t := x) rfl HX.out.1 HX.out.2.1 HX.out.2.2 (by omega) (by simp; omega) ?_; intro A' c' W' ho' hg'; have hfar := HO6.out.boxed (HBX.out.alloc _) (by decide); have bM3 := (HBX.out.alloc _).kept hg' (fun e => hfar e.symm); have cM3 := bM3.cell; have fM3 := bM3.frozen)
    have hgr := grownBy_setCell' W' w.heap.size (.slice A' (pre.length + 1) c')
    have hal := World.grownBy_alloc W (.cells #[.int .i64 x.1, .int .i64 x.2.1, .int .i64 x.2.2] 68) none
    have hs3 : W.heap.size + 1 ≤ W'.heap.size := by have := hg'.size; simpa using this
    have hk1 : KeepsOthers W W' := (KeepsOthers.alloc W _).trans (KeepsOthers.of_grownBy hg' (fun j o e ho => by
      obtain ⟨cs, fr, hh⟩ := HO6.out.blkT e
      rw [hh] at ho
      cases ho
      rfl))
    have hp1 : Kp2 Bs b W W' := (kp2_of hal (by omega) (by omega) (fun k e => by cases e)).trans (kp2_of hg' (by simp; omega) (by simp; omega) (fun k e => by have := (HO6.out.row k e).1; omega))
    have hb1 : Below w.heap.size w W' := (HB1.out.alloc HB1.out.size _).grown hg' (by simp; omega) (fun k e => (HO6.out.row k e).1)
    refine ⟨(hk1.trans (KeepsOthers.setCell _ _ _)).from _, hp1.trans (kp2_of hgr (by omega) (by omega) (fun k e => by cases e; omega)), ⟨⟨A', c', ?_, ?_⟩, by simp [World.setCell]; omega⟩, hb1.setCell (p := ⟨w.heap.size, 0, none⟩) (Nat.le_refl _) _⟩
    · rw [List.length_append, List.length_singleton]
      exact bM3.set _
    · rw [List.length_append, List.length_singleton]
      exact ho'.off hgr (fun r e => by cases e; exact ho'.boxed bM3 (by decide))
  case done =>
    rintro D ys W hD rfl ⟨⟨⟨A1, c1, bM1, ho1⟩, hz1⟩, hB1⟩ hK
    have cM := bM1.cell
    have HO := Lib.hid ho1
    clear ho1
    gi_wp2
    refine ⟨by simp, .inl ⟨_, _, rfl, run_takeDeferred hK, ?_⟩⟩
    refine ⟨_, results_tmp rfl _ _ _, ?_⟩
    exact ⟨⟨A1, c1, rfl, HO.out.round (grownBy_putObj' W D _) (fun r e => by cases e; exact ⟨_, hK, rfl⟩)⟩, hB1.trans (belowK_b (w := w) (Nat.le_refl _) W D _ _ (by omega) hK rfl rfl)⟩
  case stop =>
    rintro D c' pre W _ _ h _
    exact h.elim
theorem collect_any (Bs b off n cap : Nat) (zs : List Int) (hn1 : 1 ≤ n) (hn9 : n ≤ 9) (hzl : zs.length = n) (hz : ∀ j, j < n → 1 ≤ zs.getD j 0 ∧ zs.getD j 0 ≤ 60) (w : World)
    (hBs : w.cell? ⟨Bs, 0, none⟩ = some (.slice (some ⟨b, off, none⟩) n cap)) (hc : ∀ j, j < n → w.cell? ⟨b, off + j, none⟩ = some (.int .i64 (zs.getD j 0))) :
    Calls Try.prog 84 #[.func (.func 96) #[] #[.pointer (some ⟨Bs, 0, none⟩)]] w fun e w' => (∃ A c, e = .returned (.slice A (triP (cloQ zs) n).length c) ∧ OwnQ w' w.heap.size A (triP (cloQ zs) n).length c (triP (cloQ zs) n)) ∧ Below w.heap.size w w' := by
  have HA := Lib.hid (appendSeq_any Bs b off n cap zs hn1 hn9 hzl hz w hBs hc)
  clear hBs hc
  go_enter Try.func84, Try.ntmps84
  go_wp2_with fail
  refine HA.out.mono ?_
  rintro e w' ⟨⟨A, c, rfl, ho⟩, hb⟩
  have HO := Lib.hid ho
  clear ho
  go_wp2_with fail
  go_ret
  exact ⟨⟨A, c, rfl, HO.out⟩, hb⟩
theorem closing_any (a : Option Addr) (len cap : Nat) (w : World) :
    Calls Try.prog 85 #[.slice a len cap] w fun e w' => e = .returned (.func (.func 96) #[] #[.pointer (some ⟨w.heap.size, 0, none⟩)]) ∧ w' = w.alloc (.cells #[.slice a len cap] 39) := by
  go_enter Try.func85, Try.ntmps85
  go_wp2
  go_ret
  exact ⟨rfl, rfl⟩
end Go.Proofs.Ytiadnbdefcimiaa
