/- Slices of vectors (two numbers an element): read, owned, appended to, stored into. -/
import Derived.Test.YtdnegamminhbfaaPathR
namespace Go.Proofs.Ytdnegamminhbfaa
open Go.RowKit Go.Sort Go.Lib

theorem vecInfo : (Try.prog.info? 65).map (fun i => (i.zero, i.size, i.bytes)) = some (some (vecX 0 0), 2, 16) := by kernel_rfl
def flatV : List Pt → List Value
  | [] => []
  | p :: t => .int .i64 p.1 :: .int .i64 p.2 :: flatV t
theorem flatV_len : ∀ l : List Pt, (flatV l).length = l.length * 2
  | [] => rfl
  | _ :: t => by simp only [flatV, List.length_cons, flatV_len t]; omega
theorem flatV_app : ∀ a b : List Pt, flatV (a ++ b) = flatV a ++ flatV b
  | [], b => rfl
  | p :: t, b => by simp [flatV, flatV_app t b]
theorem flatV_fst : ∀ {l : List Pt} {i : Nat}, i < l.length → (flatV l)[i * 2]? = some (.int .i64 (atP l i).1)
  | p :: t, 0, _ => by simp [flatV, atP]
  | p :: t, i + 1, h => by
    have := flatV_fst (l := t) (i := i) (by simpa using h)
    rw [show (i + 1) * 2 = i * 2 + 1 + 1 by omega]
    simpa [flatV, atP] using this
theorem flatV_snd : ∀ {l : List Pt} {i : Nat}, i < l.length → (flatV l)[i * 2 + 1]? = some (.int .i64 (atP l i).2)
  | p :: t, 0, _ => by simp [flatV, atP]
  | p :: t, i + 1, h => by
    have := flatV_snd (l := t) (i := i) (by simpa using h)
    rw [show (i + 1) * 2 + 1 = i * 2 + 1 + 1 + 1 by omega]
    simpa [flatV, atP] using this
theorem flatV_one : ∀ (l : List Pt), ∀ u ∈ flatV l, u.oneCell' = true
  | [], u, h => by cases h
  | p :: t, u, h => by
    simp only [flatV, List.mem_cons] at h
    rcases h with rfl | rfl | h
    · rfl
    · rfl
    · exact flatV_one t u h
theorem flatV_set : ∀ {l : List Pt} {i : Nat} (q : Pt), i < l.length → ((flatV l).set (i * 2) (.int .i64 q.1)).set (i * 2 + 1) (.int .i64 q.2) = flatV (l.set i q)
  | p :: t, 0, q, _ => by simp [flatV]
  | p :: t, i + 1, q, h => by
    have := flatV_set (l := t) (i := i) q (by simpa using h)
    rw [show (i + 1) * 2 + 1 = i * 2 + 1 + 1 + 1 by omega, show (i + 1) * 2 = i * 2 + 1 + 1 by omega]
    simpa [flatV] using this
theorem atP_set {l : List Pt} {i j : Nat} {q : Pt} (h : i < l.length) : atP (l.set i q) j = if j = i then q else atP l j := by
  by_cases e : j = i
  · subst e; simp [atP, List.getD_eq_getElem?_getD, h]
  · simp [atP, List.getD_eq_getElem?_getD, e, Ne.symm e]
theorem ext_atP {a b : List Pt} (hl : a.length = b.length) (h : ∀ i, i < a.length → atP a i = atP b i) : a = b := by
  apply List.ext_getElem hl
  intro i h1 h2
  have := h i h1
  rwa [atP_lt h1, atP_lt h2] at this

/-- A slice of vectors that reads as a list. -/
def RdV (w : World) (A : Option Addr) (n : Nat) (l : List Pt) : Prop :=
  l.length = n ∧ (0 < n → ∃ b off, A = some ⟨b, off, none⟩ ∧ b < w.heap.size ∧ ∀ j, j < n → w.cell? ⟨b, off + j * 2, none⟩ = some (.int .i64 (atP l j).1) ∧ w.cell? ⟨b, off + j * 2 + 1, none⟩ = some (.int .i64 (atP l j).2))
theorem RdV.below {w w' : World} {A : Option Addr} {n B : Nat} {l : List Pt} (h : RdV w A n l) (hB : w.heap.size ≤ B) (hb : Below B w w') : RdV w' A n l :=
  ⟨h.1, fun hn => by
    obtain ⟨b, off, rfl, hlt, hc⟩ := h.2 hn
    refine ⟨b, off, rfl, Nat.lt_of_lt_of_le hlt hb.size, fun j hj => ?_⟩
    obtain ⟨h1, h2⟩ := hc j hj
    exact ⟨(hb.cell (p := ⟨b, off + j * 2, none⟩) (by show b < B; omega)).trans h1, (hb.cell (p := ⟨b, off + j * 2 + 1, none⟩) (by show b < B; omega)).trans h2⟩⟩
theorem RdV.same {w w' : World} {A : Option Addr} {n : Nat} {l : List Pt} (h : RdV w A n l) (hb : Below w.heap.size w w') : RdV w' A n l := h.below (Nat.le_refl _) hb
theorem RdV.nil_ (w : World) (A : Option Addr) : RdV w A 0 [] := ⟨rfl, fun h => absurd h (by omega)⟩
/-- A cut's steps. -/
theorem RdV.take {w : World} {A : Option Addr} {n k : Nat} {l : List Pt} (h : RdV w A n l) (hk : k ≤ n) : RdV w A k (l.take k) := by
  refine ⟨by simp [h.1]; omega, fun h0 => ?_⟩
  obtain ⟨b, off, rfl, hb, hc⟩ := h.2 (by omega)
  refine ⟨b, off, rfl, hb, fun j hj => ?_⟩
  have e : atP (l.take k) j = atP l j := by simp [atP, List.getD_eq_getElem?_getD, hj]
  rw [e]
  exact hc j (by omega)
theorem RdV.drop {w : World} {b off n k : Nat} {l : List Pt} (h : RdV w (some ⟨b, off, none⟩) n l) (hk : k ≤ n) : RdV w (some ⟨b, off + k * 2, none⟩) (n - k) (l.drop k) := by
  refine ⟨by simp [h.1], fun h0 => ?_⟩
  obtain ⟨b', off', e, hb, hc⟩ := h.2 (by omega)
  simp only [Option.some.injEq, Addr.mk.injEq, and_true] at e
  obtain ⟨rfl, rfl⟩ := e
  refine ⟨b, off + k * 2, rfl, hb, fun j hj => ?_⟩
  have e : atP (l.drop k) j = atP l (k + j) := by simp [atP, List.getD_eq_getElem?_getD]
  rw [e, show off + k * 2 + j * 2 = off + (k + j) * 2 by omega]
  exact hc (k + j) (by omega)

/-- The call's own slice of vectors. -/
def OwnV (w : World) (B : Nat) (A : Option Addr) (n c : Nat) (l : List Pt) : Prop := w.ownsRow B 65 2 (.slice A n c) n (flatV l)
theorem OwnV.n {w : World} {B n c : Nat} {A : Option Addr} {l : List Pt} (h : OwnV w B A n c l) : l.length = n := by
  have := h.1
  rw [flatV_len] at this
  omega
theorem OwnV.form {w : World} {B n c : Nat} {A : Option Addr} {l : List Pt} (h : OwnV w B A n c l) (hn : 0 < n) : ∃ g, A = some ⟨g, 0, none⟩ ∧ B ≤ g ∧ g < w.heap.size := by
  rcases h.2 with ⟨_, rfl⟩ | ⟨g, cap, cur, hv, hb, hh, _⟩
  · omega
  · have hA : A = some ⟨g, 0, none⟩ := by injection hv
    exact ⟨g, hA, hb, (Array.getElem?_eq_some_iff.1 hh).1⟩
theorem OwnV.cell {w : World} {B n c g : Nat} {l : List Pt} (h : OwnV w B (some ⟨g, 0, none⟩) n c l) (j : Nat) (hj : j < n) : w.cell? ⟨g, j * 2, none⟩ = some (.int .i64 (atP l j).1) ∧ w.cell? ⟨g, j * 2 + 1, none⟩ = some (.int .i64 (atP l j).2) := by
  have hn := h.n
  exact ⟨by rw [World.ownsRow.cellAt h (j * 2) (by omega), flatV_fst (by omega)], by rw [World.ownsRow.cellAt h (j * 2 + 1) (by omega), flatV_snd (by omega)]⟩
theorem OwnV.rd {w : World} {B n c : Nat} {A : Option Addr} {l : List Pt} (h : OwnV w B A n c l) : RdV w A n l := by
  refine ⟨h.n, fun hn => ?_⟩
  obtain ⟨g, rfl, _, hlt⟩ := h.form hn
  exact ⟨g, 0, rfl, hlt, fun j hj => by rw [Nat.zero_add]; exact h.cell j hj⟩
theorem OwnV.row {w : World} {B n c : Nat} {A : Option Addr} {l : List Pt} (h : OwnV w B A n c l) : ∀ k, (Value.slice A n c).ownBlock = some k → B ≤ k ∧ k < w.heap.size := World.ownsRow.lt h
theorem OwnV.far {w w' : World} {B n c : Nat} {A : Option Addr} {l : List Pt} {row : Option Nat} (h : OwnV w B A n c l) (hg : w.grownBy w' row) (hr : ∀ k, row = some k → k < B ∨ w.heap.size ≤ k) : OwnV w' B A n c l := by
  refine World.ownsRow.kept h hg ?_
  cases hb : (Value.slice A n c).ownBlock with
  | none => exact .inl rfl
  | some k =>
    refine .inr fun e => ?_
    have h1 := h.row k hb
    have h2 := hr k e.symm
    omega
theorem OwnV.same {w w' : World} {B n c : Nat} {A : Option Addr} {l : List Pt} (h : OwnV w B A n c l) (hb : Below w.heap.size w w') : OwnV w' B A n c l := h.far (grown_of_below hb) (fun k e => by cases e)
theorem OwnV.al {w : World} {B n c : Nat} {A : Option Addr} {l : List Pt} (h : OwnV w B A n c l) (o : Obj) : OwnV (w.alloc o) B A n c l := World.ownsRow.alloc h o
theorem OwnV.dr {w : World} {B n c : Nat} {A : Option Addr} {l : List Pt} (h : OwnV w B A n c l) : OwnV w.drew B A n c l := h
theorem OwnV.drN {w : World} {B n c : Nat} {A : Option Addr} {l : List Pt} (h : OwnV w B A n c l) (k : Nat) : OwnV (w.drewN k) B A n c l := h
theorem OwnV.lower {w : World} {B B' n c : Nat} {A : Option Addr} {l : List Pt} (h : OwnV w B A n c l) (hB : B' ≤ B) : OwnV w B' A n c l := by
  refine ⟨h.1, ?_⟩
  rcases h.2 with hn | ⟨g, cap, cur, hv, hb, rest⟩
  · exact .inl hn
  · exact .inr ⟨g, cap, cur, hv, Nat.le_trans hB hb, rest⟩
theorem OwnV.free {w : World} {B n c g : Nat} {l : List Pt} (h : OwnV w B (some ⟨g, 0, none⟩) n c l) (j : Nat) : w.frozen? ⟨g, j, none⟩ = false := World.ownsRow.frozenAt h j
theorem OwnV.empty (w : World) {B : Nat} (hB : B ≤ w.heap.size) : OwnV (w.alloc (.cells #[] 65)) B (some ⟨w.heap.size, 0, none⟩) 0 0 [] :=
  World.ownsRow_lit (e := 65) (size := 2) w #[] 0 hB (by unfold maxLen; omega) (by simp)
theorem OwnV.one (w : World) {B : Nat} (hB : B ≤ w.heap.size) (x y : Int) : OwnV (w.alloc (vecO x y)) B (some ⟨w.heap.size, 0, none⟩) 1 1 [(x, y)] :=
  World.ownsRow_lit (e := 65) (size := 2) w #[.int .i64 x, .int .i64 y] 1 hB (by unfold maxLen; omega) (by simp)
theorem OwnV.nil_ (w : World) (B : Nat) : OwnV w B none 0 0 [] := World.ownsRow_nil w B _ _
/-- A vector is stored into the row. -/
theorem OwnV.stored {w : World} {B n c g : Nat} {l : List Pt} (h : OwnV w B (some ⟨g, 0, none⟩) n c l) {j : Nat} (hj : j < n) (q : Pt) :
    OwnV ((w.setCell ⟨g, j * 2, none⟩ (.int .i64 q.1)).setCell ⟨g, j * 2 + 1, none⟩ (.int .i64 q.2)) B (some ⟨g, 0, none⟩) n c (l.set j q) ∧ w.grownBy ((w.setCell ⟨g, j * 2, none⟩ (.int .i64 q.1)).setCell ⟨g, j * 2 + 1, none⟩ (.int .i64 q.2)) (some g) := by
  have hn := h.n
  have h1 := World.ownsRow.stored h (j * 2) (.int .i64 q.1)
  have h2 := World.ownsRow.stored h1.1 (j * 2 + 1) (.int .i64 q.2)
  refine ⟨?_, h1.2.trans h2.2⟩
  have := h2.1
  rwa [flatV_set q (by omega)] at this
theorem app_markV {W W' : World} {A : Option Addr} {n c B : Nat} {w : World} {l : List Pt} (hb : Below w.heap.size w W) (ho : OwnV W B A n c l) (hB : w.heap.size ≤ B) (hg : W.grownBy W' (Value.slice A n c).ownBlock) : Below w.heap.size w W' :=
  hb.grown hg hb.size (fun k e => by have := ho.row k e; omega)
theorem shape_V {w : World} {B n : Nat} {v : Value} {l : List Pt} (h : w.ownsRow B 65 2 v n (flatV l)) : ∃ A c, v = .slice A n c ∧ OwnV w B A n c l := by
  rcases h.2 with ⟨rfl, rfl⟩ | ⟨g, cap, cur, rfl, rest⟩
  · exact ⟨none, 0, rfl, h⟩
  · exact ⟨_, cap, rfl, h⟩
theorem RdV.cells {w : World} {b off n : Nat} {l : List Pt} (h : RdV w (some ⟨b, off, none⟩) n l) : ∀ j u, (flatV l)[j]? = some u → w.cell? ((⟨b, off, none⟩ : Addr).add j) = some u := by
  intro j u hu
  have hj : j < n * 2 := by
    rcases Nat.lt_or_ge j (n * 2) with h1 | h1
    · exact h1
    · rw [List.getElem?_eq_none (by rw [flatV_len, h.1]; exact h1)] at hu; cases hu
  obtain ⟨b', off', e, _, hc⟩ := h.2 (by omega)
  simp only [Option.some.injEq, Addr.mk.injEq, and_true] at e
  obtain ⟨rfl, rfl⟩ := e
  have e : (⟨b, off, none⟩ : Addr).add j = ⟨b, off + j, none⟩ := by unfold Addr.add; split <;> simp_all
  rw [e]
  obtain ⟨i, hi | hi⟩ : ∃ i, j = i * 2 ∨ j = i * 2 + 1 := ⟨j / 2, by omega⟩
  · subst hi
    rw [flatV_fst (by rw [h.1]; omega)] at hu
    cases hu
    exact (hc i (by omega)).1
  · subst hi
    rw [flatV_snd (by rw [h.1]; omega)] at hu
    cases hu
    rw [← Nat.add_assoc]
    exact (hc i (by omega)).2

/-- append of vectors: the source not empty. -/
theorem run_appV (t : TypeId) (ht : Try.prog.underlying t = some (.slice 65)) {W : World} {B n c : Nat} {A : Option Addr} {l : List Pt} (hown : OwnV W B A n c l) {b off m : Nat} (c2 : Nat) {r : List Pt} (hr : RdV W (some ⟨b, off, none⟩) m r) (hn : n + m ≤ 1000000) (hB : B ≤ W.heap.size) (ty : TypeId) :
    ∃ A' c' W', (Builtin.append_ #[t, t] ty #[.slice A n c, .slice (some ⟨b, off, none⟩) m c2]).run Try.prog W = .ok (.slice A' (n + m) c') W' ∧ OwnV W' B A' (n + m) c' (l ++ r) ∧ W.grownBy W' (Value.slice A n c).ownBlock ∧ ((Value.slice A' (n + m) c').ownBlock = (Value.slice A n c).ownBlock ∨ (Value.slice A' (n + m) c').ownBlock = some W.heap.size) := by
  obtain ⟨i0, hi, hz0, hz1, hz2⟩ := info_parts vecInfo
  obtain ⟨v', w', hrun, h2, h3, _, h5⟩ := run_append_own_at (P := Try.prog) W B t ty 65 i0 (vecX 0 0) 2 16 ht hi hz0 hz1 hz2 rfl (by omega) _ n (flatV l) hown ⟨b, off, none⟩ m c2 (flatV r) (by rw [flatV_len, hr.1]) hr.cells (flatV_one r) (by unfold maxLen; omega) (by omega) hB
  rw [← flatV_app] at h2
  obtain ⟨A', c', rfl, ho⟩ := shape_V h2
  exact ⟨A', c', w', hrun, ho, h3, h5⟩
theorem wp_appV (t : TypeId) (ht : Try.prog.underlying t = some (.slice 65)) {o : Oper} {a : Act} {K : Act → World → Prop} {Q : Exit → Act → World → Prop} {W : World} (s x : Operand)
    (ho : o.op = .call { callee := .builtin .append, args := #[s, x], argTypes := #[t, t] })
    {B n c : Nat} {A : Option Addr} {l : List Pt} (hs : a.eval s = .slice A n c) (hown : OwnV W B A n c l) {b off m c2 : Nat} {r : List Pt} (hx : a.eval x = .slice (some ⟨b, off, none⟩) m c2) (hr : RdV W (some ⟨b, off, none⟩) m r) (hn : n + m ≤ 1000000) (hB : B ≤ W.heap.size)
    (h : ∀ A' c' W', OwnV W' B A' (n + m) c' (l ++ r) → W.grownBy W' (Value.slice A n c).ownBlock → K (a.put o.dst (.slice A' (n + m) c')) W') : o.wp Try.prog a W K Q := by
  obtain ⟨A', c', W', hrun, h2, h3, _⟩ := run_appV t ht hown c2 hr hn hB o.type
  unfold Oper.wp execOp
  simp only [ho, resolve, invoke, builtin, Sem.run_bind, Sem.run_pure, Result.andThen_ok, List.map_toArray, List.map_cons, List.map_nil, hs, hx, hrun]
  exact h A' c' W' h2 h3
theorem wpList_appV (t : TypeId) (ht : Try.prog.underlying t = some (.slice 65)) {ops : Array Oper} {rest : List Oper} {o : Oper} {a : Act} {Q : Exit → Act → World → Prop} {W : World} (hgd : o.guard = none) (s x : Operand)
    (ho : o.op = .call { callee := .builtin .append, args := #[s, x], argTypes := #[t, t] })
    {B n c : Nat} {A : Option Addr} {l : List Pt} (hs : a.eval s = .slice A n c) (hown : OwnV W B A n c l) {b off m c2 : Nat} {r : List Pt} (hx : a.eval x = .slice (some ⟨b, off, none⟩) m c2) (hr : RdV W (some ⟨b, off, none⟩) m r) (hn : n + m ≤ 1000000) (hB : B ≤ W.heap.size)
    (h : ∀ A' c' W', OwnV W' B A' (n + m) c' (l ++ r) → W.grownBy W' (Value.slice A n c).ownBlock → wpList Try.prog ops Q rest (a.put o.dst (.slice A' (n + m) c')) W') : wpList Try.prog ops Q (o :: rest) a W :=
  wpList_plain hgd fun _ hK => wp_appV t ht s x ho hs hown hx hr hn hB fun A' c' W' h2 h3 => hK _ _ (h A' c' W' h2 h3)
theorem step_appV (t : TypeId) (ht : Try.prog.underlying t = some (.slice 65)) {ops : Array Oper} {o : Oper} {a : Act} {K : Act → World → Prop} {Q : Exit → Act → World → Prop} {E : Prop} {W : World} (hgd : o.guard = none) (s x : Operand)
    (ho : o.op = .call { callee := .builtin .append, args := #[s, x], argTypes := #[t, t] })
    {B n c : Nat} {A : Option Addr} {l : List Pt} (hs : a.eval s = .slice A n c) (hown : OwnV W B A n c l) {b off m c2 : Nat} {r : List Pt} (hx : a.eval x = .slice (some ⟨b, off, none⟩) m c2) (hr : RdV W (some ⟨b, off, none⟩) m r) (hn : n + m ≤ 1000000) (hB : B ≤ W.heap.size)
    (h : ∀ A' c' W', OwnV W' B A' (n + m) c' (l ++ r) → W.grownBy W' (Value.slice A n c).ownBlock → K (a.put o.dst (.slice A' (n + m) c')) W') :
    if Region.wanted o (yielded ops a.tmps) = true then Oper.wp Try.prog o a W K Q else E := by
  have hw : Region.wanted o (yielded ops a.tmps) = true := by simp [Region.wanted, hgd]
  rw [if_pos hw]
  exact wp_appV t ht s x ho hs hown hx hr hn hB h
end Go.Proofs.Ytdnegamminhbfaa
