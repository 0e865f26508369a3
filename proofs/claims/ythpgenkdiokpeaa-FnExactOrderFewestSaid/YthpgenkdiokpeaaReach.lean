/- Joined: Reach, EachR: the program's search in breadth. -/
import Derived.Test.YthpgenkdiokpeaaSetR
import Derived.Test.YthpgenkdiokpeaaSls
import Derived.Test.YthpgenkdiokpeaaOrdI2
import Derived.Test.YthpgenkdiokpeaaBox
import Derived.Laws.CopyOwn
namespace Go.Proofs.Ythpgenkdiokpeaa
open Go.RowKit Go.Sort Go.Lib

/-- R holds whatever becomes of all blocks but some; those that may turn lie outside. -/
def HdP (av : Nat → Prop) (R : World → Prop) (W : World) : Prop :=
  ∃ lo hi, hi ≤ W.heap.size ∧ (∀ k, av k → k < lo ∨ hi ≤ k) ∧ ∀ W', W.heap.size ≤ W'.heap.size → SameIn lo hi W W' → R W'
section
variable {av av' : Nat → Prop} {R : World → Prop} {W W' : World}
theorem HdP.out (h : HdP av R W) : R W := by
  obtain ⟨lo, hi, h1, h2, h3⟩ := h
  exact h3 W (Nat.le_refl _) fun _ _ _ => rfl
theorem HdP.grow {row : Option Nat} (h : HdP av R W) (hg : W.grownBy W' row) (hrow : ∀ k, row = some k → av k) (ha : ∀ k, av' k → av k ∨ W.heap.size ≤ k) : HdP av' R W' := by
  obtain ⟨lo, hi, h1, h2, h3⟩ := h
  refine ⟨lo, hi, Nat.le_trans h1 hg.size, fun k hk => ?_, fun W2 hz hs => h3 W2 (Nat.le_trans hg.size hz) fun k k1 k2 => (hs k k1 k2).trans (hg.block k (by omega) fun e => ?_)⟩
  · rcases ha k hk with h | h
    · exact h2 k h
    · right; omega
  · have := h2 k (hrow k e.symm)
    omega
theorem HdP.same (h : HdP av R W) (hb : Below W.heap.size W W') : HdP av R W' := h.grow (grown_of_below hb) (fun k e => by cases e) (fun k h => .inl h)
theorem HdP.new (lo : Nat) (h : ∀ W', W.heap.size ≤ W'.heap.size → SameIn lo W.heap.size W W' → R W') (ho : ∀ k, av k → k < lo) : HdP av R W := ⟨lo, _, Nat.le_refl _, fun k hk => .inl (ho k hk), h⟩
theorem HdP.mono {R' : World → Prop} (h : HdP av R W) (hr : ∀ X, R X → R' X) : HdP av R' W := by
  obtain ⟨lo, hi, h1, h2, h3⟩ := h
  exact ⟨lo, hi, h1, h2, fun W2 hz hs => hr _ (h3 W2 hz hs)⟩
end
theorem OwnV.moved {w w' : World} {B n c : Nat} {A : Option Addr} {l : List Pt} (h : OwnV w B A n c l) (hs : SameIn B w.heap.size w w') : OwnV w' B A n c l := owns_moved h hs

theorem rowsV : (Try.prog.info? 69).map (fun i => (i.zero, i.size, i.bytes)) = some (some (.slice none 0 0), 1, 24) := by kernel_rfl
theorem vsize : (Try.prog.info? 55).map (·.size) = some 2 := by kernel_rfl
theorem run_copy_row2 {P : Program} (w : World) (dT sT ty elem : TypeId) (g dLen dCap : Nat) (a : Addr) (sLen sCap : Nat) (cur : Array Value) (t : TypeId) (cs : List Value)
    (hu : P.underlying dT = some (.slice elem)) (hs : (P.info? elem).map (·.size) = some 2) (hg : w.heap[g]? = some (.cells cur t (0, 0))) (hn : cs.length = Nat.min sLen dLen * 2)
    (hsrc : ∀ j v, cs[j]? = some v → w.cell? (a.add j) = some v) (hfit : cs.length ≤ cur.size) (h1 : ∀ v ∈ cs, v.oneCell' = true) :
    (Builtin.copy_ #[dT, sT] ty #[.slice (some ⟨g, 0, none⟩) dLen dCap, .slice (some a) sLen sCap]).run P w =
      .ok (goInt (Nat.min sLen dLen)) (w.setRow g (cs ++ cur.toList.drop cs.length).toArray) := by
  have hl := run_loadCells_list (P := P) w a cs hsrc
  have hst := run_storeCells_at P g 0 t cs 0 cur w hg (by simpa using hfit) h1
  cases hq : P.info? elem with
  | none => simp [hq] at hs
  | some i =>
    have hi : i.size = 2 := by simpa [hq] using hs
    simp [Builtin.copy_, run_underlying hu, Builtin.lenOf, Builtin.firstCells, sizeOf, typeInfo, hq, hi, ← hn, hl, hst]

abbrev zrV : List Value := [.int .i64 0, .int .i64 0, .int .i64 0, .int .i64 0, .int .i64 0, .int .i64 0, .int .i64 0, .int .i64 0, .int .i64 0, .int .i64 0]
theorem zr_at {i : Nat} (h : i < 10) : zrV[i]? = some (.int .i64 0) := by
  have : i = 0 ∨ i = 1 ∨ i = 2 ∨ i = 3 ∨ i = 4 ∨ i = 5 ∨ i = 6 ∨ i = 7 ∨ i = 8 ∨ i = 9 := by omega
  rcases this with rfl | rfl | rfl | rfl | rfl | rfl | rfl | rfl | rfl | rfl <;> rfl
theorem atP_out {o : List Pt} {i : Nat} (h : o.length ≤ i) : atP o i = (0, 0) := by unfold atP; rw [List.getD_eq_getElem?_getD, List.getElem?_eq_none h]; rfl
theorem row_cell (o : List Pt) (i : Nat) (hi : i < 5) : (flatV o ++ zrV.drop (flatV o).length)[i * 2]? = some (.int .i64 (atP o i).1) ∧ (flatV o ++ zrV.drop (flatV o).length)[i * 2 + 1]? = some (.int .i64 (atP o i).2) := by
  have hl := flatV_len o
  by_cases h : i < o.length
  · rw [List.getElem?_append_left (by omega), List.getElem?_append_left (by omega)]
    exact ⟨flatV_fst h, flatV_snd h⟩
  · rw [List.getElem?_append_right (by omega), List.getElem?_append_right (by omega), List.getElem?_drop, List.getElem?_drop, show (flatV o).length + (i * 2 - (flatV o).length) = i * 2 by omega, show (flatV o).length + (i * 2 + 1 - (flatV o).length) = i * 2 + 1 by omega, zr_at (by omega), zr_at (by omega), atP_out (by omega)]
    exact ⟨rfl, rfl⟩
theorem copyRow (A0 : Option Addr) (n c0 : Nat) (o : List Pt) (w : World) (h : RdV w A0 n o) (h1 : 1 ≤ n) (h5 : n ≤ 5) :
    ∃ W', (Builtin.copy_ #[69, 69] 3 #[.slice (some ⟨w.heap.size, 0, none⟩) 5 5, .slice A0 n c0]).run Try.prog (w.alloc (.cells zrV.toArray 107)) = .ok (goInt (Nat.min n 5)) W' ∧ Below w.heap.size w W' ∧
      ∀ i, i < 5 → W'.cell? ⟨w.heap.size, i * 2, none⟩ = some (.int .i64 (atP o i).1) ∧ W'.cell? ⟨w.heap.size, i * 2 + 1, none⟩ = some (.int .i64 (atP o i).2) := by
  have hn := h.1
  obtain ⟨b, off, rfl, hlt, hc⟩ := h.2 (by omega)
  have hg := World.alloc_heap_new w (.cells zrV.toArray 107)
  have hb := below_alloc (Below.refl w.heap.size w) (.cells zrV.toArray 107)
  refine ⟨_, run_copy_row2 _ _ _ _ 55 _ 5 5 ⟨b, off, none⟩ n c0 _ _ (flatV o) Try.underlying69 vsize hg (by rw [flatV_len, hn, show Nat.min n 5 = n from Nat.min_eq_left h5]) (fun j v hj => ?_) (by rw [flatV_len, hn]; simp; omega) (fun v hv => ?_), below_setRow hb (Nat.le_refl _) _, fun i hi => ?_⟩
  · have hjl : j < n * 2 := by
      rcases Nat.lt_or_ge j (n * 2) with h | h
      · exact h
      · rw [List.getElem?_eq_none (by rw [flatV_len, hn]; exact h)] at hj; cases hj
    have e : (⟨b, off, none⟩ : Addr).add j = ⟨b, off + j, none⟩ := by unfold Addr.add; split <;> simp_all
    rw [e]
    refine (hb.cell (p := ⟨b, off + j, none⟩) hlt).trans ?_
    obtain ⟨q, hq⟩ : ∃ q, q = j / 2 := ⟨_, rfl⟩
    have hc2 := hc q (by omega)
    by_cases e2 : j % 2 = 0
    · obtain rfl : j = q * 2 := by omega
      rw [flatV_fst (by omega)] at hj
      exact hc2.1.trans hj
    · obtain rfl : j = q * 2 + 1 := by omega
      rw [flatV_snd (by omega)] at hj
      rw [← Nat.add_assoc]
      exact hc2.2.trans hj
  · obtain ⟨j, hj, rfl⟩ := List.getElem_of_mem hv
    have hl := flatV_len o
    by_cases e2 : j % 2 = 0
    · have := flatV_fst (l := o) (i := j / 2) (by omega)
      rw [show j / 2 * 2 = j by omega, List.getElem?_eq_getElem hj] at this
      rw [Option.some.inj this]; rfl
    · have := flatV_snd (l := o) (i := j / 2) (by omega)
      rw [show j / 2 * 2 + 1 = j by omega, List.getElem?_eq_getElem hj] at this
      rw [Option.some.inj this]; rfl
  · obtain ⟨r1, r2⟩ := row_cell o i hi
    rw [cell_setRow_same _ _ _ _ _ _ _ hg, cell_setRow_same _ _ _ _ _ _ _ hg]
    exact ⟨by simpa using r1, by simpa using r2⟩

def avR (A : Option Addr) (nr c sb bm : Nat) (k : Nat) : Prop := (Value.slice A nr c).ownBlock = some k ∨ k = sb ∨ k = bm
/-- The search's state: S is in the set, the box holds Ab nb cb; the slice A nr c holds the orders of m from a on. -/
structure ReaJ (w : World) (n mb sb bm : Nat) (S : List (List Pt)) (Ab : Option Addr) (nb cb : Nat) (A : Option Addr) (nr c : Nat) (vs : List Value) (m : List (List Pt)) (a : Nat) (W : World) : Prop where
  b1 : W.heap[mb]? = some (.cells #[.map (some bm)] 104 (0, 0))
  b2 : W.heap[sb]? = some (.cells #[.slice Ab nb cb] 105 (0, 0))
  set : SetR n W bm S.length S
  own : OwnS 69 W w.heap.size A nr c vs
  cnt : a + nr = m.length
  rows : ∀ i, i < nr → ∃ g o1 c1, vs[i]? = some (.slice (some ⟨g, o1, none⟩) n c1) ∧ n ≤ c1 ∧ c1 ≤ 9223372036854775807 ∧ HdP (avR A nr c sb bm) (fun W' => RdV W' (some ⟨g, o1, none⟩) n (m.getD (a + i) [])) W
  bel : Below w.heap.size w W
  lo : (w.heap.size ≤ mb ∧ w.heap.size ≤ sb ∧ w.heap.size ≤ bm) ∧ mb ≠ sb ∧ mb ≠ bm ∧ sb ≠ bm
section
variable {w : World} {n mb sb bm : Nat} {S : List (List Pt)} {Ab : Option Addr} {nb cb : Nat} {A : Option Addr} {nr c : Nat} {vs : List Value} {m : List (List Pt)} {a : Nat} {W W' : World}
theorem avR_grow {A' : Option Addr} {n' c' : Nat} (hk : (Value.slice A' n' c').ownBlock = (Value.slice A nr c).ownBlock ∨ ∃ k, (Value.slice A' n' c').ownBlock = some k ∧ W.heap.size ≤ k) : ∀ k, avR A' n' c' sb bm k → avR A nr c sb bm k ∨ W.heap.size ≤ k := fun k hk2 => by
  rcases hk2 with e | e | e
  · rcases hk with e2 | ⟨j, e2, hj⟩
    · exact .inl (.inl (e2 ▸ e))
    · rw [e2] at e; cases e; exact .inr hj
  · exact .inl (.inr (.inl e))
  · exact .inl (.inr (.inr e))
theorem cell_oneV (W : World) (t : TypeId) (v : Value) : (W.alloc (.cells #[v] t)).cell? ⟨W.heap.size, 0, none⟩ = some v := (Boxed.new W t v).cell
theorem ReaJ.apart (h : ReaJ w n mb sb bm S Ab nb cb A nr c vs m a W) : ∀ k, (Value.slice A nr c).ownBlock = some k → k ≠ mb ∧ k ≠ sb ∧ k ≠ bm := by
  intro k hk
  rcases h.own.1.2 with ⟨e, _⟩ | ⟨g, cap, cur, e, _, hh, _⟩
  · rw [e] at hk; cases hk
  · rw [e] at hk
    simp only [Value.ownBlock, Option.some.injEq] at hk
    subst hk
    refine ⟨fun e => ?_, fun e => ?_, fun e => ?_⟩
    · subst e
      rw [h.b1] at hh
      simp only [Option.some.injEq, Obj.cells.injEq] at hh
      exact absurd hh.2.1 (by decide)
    · subst e
      rw [h.b2] at hh
      simp only [Option.some.injEq, Obj.cells.injEq] at hh
      exact absurd hh.2.1 (by decide)
    · subst e
      obtain ⟨D, ⟨es, clock, hb, _⟩, _⟩ := h.set
      rw [hb] at hh
      cases hh
theorem ReaJ.same (h : ReaJ w n mb sb bm S Ab nb cb A nr c vs m a W) (hb : Below W.heap.size W W') : ReaJ w n mb sb bm S Ab nb cb A nr c vs m a W' :=
  have key : ∀ {k : Nat} {o : Obj}, W.heap[k]? = some o → W'.heap[k]? = some o := fun hk => (hb.block _ (Array.getElem?_eq_some_iff.1 hk).1).trans hk
  ⟨key h.b1, key h.b2, h.set.same hb, h.own.same hb, h.cnt, fun i hi => by
    obtain ⟨g, o1, c1, h1, h2, h3, h4⟩ := h.rows i hi
    exact ⟨g, o1, c1, h1, h2, h3, h4.same hb⟩, below_then h.bel hb, h.lo⟩
theorem ReaJ.put (h : ReaJ w n mb sb bm S Ab nb cb A nr c vs m a W) {t : List Pt} (hs : SetR n W' bm (S.length + 1) (S ++ [t])) (hg : W.grownBy W' (some bm)) : ReaJ w n mb sb bm (S ++ [t]) Ab nb cb A nr c vs m a W' :=
  have key : ∀ {k : Nat} {o : Obj}, k ≠ bm → W.heap[k]? = some o → W'.heap[k]? = some o := fun hne hk => (hg.block _ (Array.getElem?_eq_some_iff.1 hk).1 (fun e => hne (Option.some.inj e))).trans hk
  ⟨key h.lo.2.2.1 h.b1, key h.lo.2.2.2 h.b2, by rw [List.length_append]; exact hs, h.own.kept hg (fun k e e2 => (h.apart k e).2.2 (Option.some.inj e2).symm), h.cnt, fun i hi => by
    obtain ⟨g, o1, c1, h1, h2, h3, h4⟩ := h.rows i hi
    exact ⟨g, o1, c1, h1, h2, h3, h4.grow hg (fun k e => by cases e; exact .inr (.inr rfl)) (fun k hk => .inl hk)⟩, h.bel.grown hg h.bel.size (fun k e => by cases e; exact h.lo.1.2.2), h.lo⟩
theorem ReaJ.app {A' : Option Addr} {c' : Nat} {g o1 c1 : Nat} {o : List Pt} (h : ReaJ w n mb sb bm S Ab nb cb A nr c vs m a W) (ho : OwnS 69 W' w.heap.size A' (nr + 1) c' (vs ++ [.slice (some ⟨g, o1, none⟩) n c1])) (hg : W.grownBy W' (Value.slice A nr c).ownBlock)
    (hk : (Value.slice A' (nr + 1) c').ownBlock = (Value.slice A nr c).ownBlock ∨ ∃ k, (Value.slice A' (nr + 1) c').ownBlock = some k ∧ W.heap.size ≤ k) (hc1 : n ≤ c1) (hc2 : c1 ≤ 9223372036854775807)
    (hr : HdP (avR A nr c sb bm) (fun W' => RdV W' (some ⟨g, o1, none⟩) n o) W) : ReaJ w n mb sb bm S Ab nb cb A' (nr + 1) c' (vs ++ [.slice (some ⟨g, o1, none⟩) n c1]) (m ++ [o]) a W' := by
  have key : ∀ {k : Nat} {o : Obj}, (Value.slice A nr c).ownBlock ≠ some k → W.heap[k]? = some o → W'.heap[k]? = some o := fun hne hk => (hg.block _ (Array.getElem?_eq_some_iff.1 hk).1 (fun e => hne e.symm)).trans hk
  have hav : ∀ k, avR A' (nr + 1) c' sb bm k → avR A nr c sb bm k ∨ W.heap.size ≤ k := fun k hk2 => by
    rcases hk2 with e | e | e
    · rcases hk with e2 | ⟨j, e2, hj⟩
      · exact .inl (.inl (e2 ▸ e))
      · rw [e2] at e; cases e; exact .inr hj
    · exact .inl (.inr (.inl e))
    · exact .inl (.inr (.inr e))
  have hn := h.own.len
  refine ⟨key (fun e => (h.apart _ e).1 rfl) h.b1, key (fun e => (h.apart _ e).2.1 rfl) h.b2, h.set.kept hg (fun e => (h.apart _ e.symm).2.2 rfl), ho, by rw [List.length_append, List.length_singleton, ← h.cnt]; omega, fun i hi => ?_, h.bel.grown hg h.bel.size (fun k e => (h.own.blk k e).1), h.lo⟩
  by_cases e : i < nr
  · obtain ⟨g2, o2, c2, h1, h2, h3, h4⟩ := h.rows i e
    refine ⟨g2, o2, c2, by rw [List.getElem?_append_left (by omega)]; exact h1, h2, h3, ?_⟩
    rw [getD_pre (by have := h.cnt; omega)]
    exact h4.grow hg (fun k e => .inl e) hav
  · obtain rfl : i = nr := by omega
    refine ⟨g, o1, c1, by rw [List.getElem?_append_right (by omega), hn]; simp, hc1, hc2, ?_⟩
    have e2 : (m ++ [o]).getD (a + i) [] = o := by rw [h.cnt]; simp [List.getD_eq_getElem?_getD]
    rw [e2]
    exact hr.grow hg (fun k e => .inl e) hav
theorem ReaJ.box (h : ReaJ w n mb sb bm S Ab nb cb A nr c vs m a W) (Ab' : Option Addr) (nb' cb' : Nat) : ReaJ w n mb sb bm S Ab' nb' cb' A nr c vs m a (W.setCell ⟨sb, 0, none⟩ (.slice Ab' nb' cb')) := by
  have hg := grownBy_setCell' W sb (.slice Ab' nb' cb')
  have key : ∀ {k : Nat} {o : Obj}, k ≠ sb → W.heap[k]? = some o → (W.setCell ⟨sb, 0, none⟩ (.slice Ab' nb' cb')).heap[k]? = some o := fun hne hk => (Below.heap_setCell _ ⟨sb, 0, none⟩ _ _ hne).trans hk
  refine ⟨key h.lo.2.1 h.b1, ?_, h.set.kept hg (fun e => h.lo.2.2.2 (Option.some.inj e).symm), h.own.kept hg (fun k e e2 => (h.apart k e).2.1 (Option.some.inj e2).symm), h.cnt, fun i hi => ?_, h.bel.setCell (p := ⟨sb, 0, none⟩) h.lo.1.2.1 _, h.lo⟩
  · have := (show Boxed W sb 105 (.slice Ab nb cb) from h.b2).set (.slice Ab' nb' cb')
    exact this
  · obtain ⟨g, o1, c1, h1, h2, h3, h4⟩ := h.rows i hi
    exact ⟨g, o1, c1, h1, h2, h3, h4.grow hg (fun k e => by cases e; exact .inr (.inl rfl)) (fun k hk => .inl hk)⟩
end

set_option maxRecDepth 100000 in
set_option maxHeartbeats 4000000 in
theorem reach_any {w : World} {n mb sb bm : Nat} {A : Option Addr} {nr c : Nat} {vs : List Value} {m : List (List Pt)} {a : Nat} {W : World} (h : ReaJ w n mb sb bm m A nr c A nr c vs m a W) {o : List Pt} (hw : WfO n o) (h1 : 1 ≤ n) {g o1 c1 : Nat} (hc1 : n ≤ c1) (hc2 : c1 ≤ 9223372036854775807)
    (hH : HdP (avR A nr c sb bm) (fun W' => RdV W' (some ⟨g, o1, none⟩) n o) W) (hfew : m.length ≤ 3125) :
    Calls Try.prog 169 #[.slice (some ⟨g, o1, none⟩) n c1, ptrV mb, ptrV sb] W fun e W' => e = .returned (.tuple #[]) ∧ ∃ A' nr' c' vs', ReaJ w n mb sb bm (addO m o) A' nr' c' A' nr' c' vs' (addO m o) a W' ∧ (∀ R, HdP (avR A nr c sb bm) R W → HdP (avR A' nr' c' sb bm) R W') := by
  obtain ⟨W1, hcp, b1, hcell⟩ := copyRow (some ⟨g, o1, none⟩) n c1 o W hH.out h1 hw.hn
  simp only [zrV] at hcp
  have J1 := Lib.hid (h.same b1)
  have H1 := Lib.hid (hH.same b1)
  have HR1 := Lib.hid (fun R (hR : HdP (avR A nr c sb bm) R W) => hR.same b1)
  have kb := (show Boxed W1 mb 104 (.map (some bm)) from J1.out.b1).cell
  have k0 := hcell 0 (by omega)
  have k1 := hcell 1 (by omega)
  have k2 := hcell 2 (by omega)
  have k3 := hcell 3 (by omega)
  have k4 := hcell 4 (by omega)
  simp only [Nat.zero_mul, Nat.one_mul, Nat.reduceMul, Nat.zero_add, Nat.reduceAdd] at k0 k1 k2 k3 k4
  obtain ⟨k00, k01⟩ := k0
  obtain ⟨k10, k11⟩ := k1
  obtain ⟨k20, k21⟩ := k2
  obtain ⟨k30, k31⟩ := k3
  obtain ⟨k40, k41⟩ := k4
  have HW := Lib.hid hw
  have hcnt := h.cnt
  clear h hH hcell b1 hw
  by_cases hin : o ∈ m
  · have d1 : decide (o ∈ m) = true := by simpa using hin
    have HE := Lib.hid (show addO m o = m from by unfold addO; rw [if_pos hin])
    clear hin
    go_enter Try.func169, Try.ntmps169
    go_wp2_with (first | (at_lookup; refine wp_row_look _ rfl _ _ rfl n bm m.length m rfl J1.out.set o rfl HW.out ?_; rw [d1]))
    refine bodyPost_end (results_none rfl _ _ _) rfl ?_
    exact ⟨rfl, _, _, _, _, by rw [HE.out]; exact J1.out, HR1.out⟩
  · have d1 : decide (o ∈ m) = false := by simpa using hin
    have HE := Lib.hid (show addO m o = m ++ [o] from by unfold addO; rw [if_neg hin])
    clear hin
    go_enter Try.func169, Try.ntmps169
    go_wp2_with (first
      | (at_lookup; refine wp_row_look _ rfl _ _ rfl n bm m.length m rfl J1.out.set o rfl HW.out ?_; rw [d1])
      | (at_mapUpdate; refine wp_row_store _ rfl _ _ _ rfl n bm m.length m rfl J1.out.set (by unfold maxLen; omega) o rfl rfl HW.out ?_; intro w4 s4 g4; have J4 := Lib.hid (J1.out.put s4 g4); have H4 := Lib.hid (H1.out.grow g4 (fun k e => (by cases e; exact .inr (.inr rfl))) (fun k hk => .inl hk)); have HR4 := Lib.hid (fun R hR => (HR1.out R hR).grow g4 (fun k e => (by cases e; exact .inr (.inr rfl))) (fun k hk => .inl hk)); have kc := (show Boxed w4 sb 105 (.slice A nr c) from J4.out.b2).cell; have b5 := below_alloc (Below.refl w4.heap.size w4) (.cells #[.slice (some ⟨g, o1, none⟩) n c1] 69); have J5 := Lib.hid (J4.out.same b5); have H5 := Lib.hid (H4.out.same b5); have HR5 := Lib.hid (fun R hR => (HR4.out R hR).same b5); have HC5 := cell_oneV w4 69 (.slice (some ⟨g, o1, none⟩) n c1); have hsz5 := J5.out.bel.size; clear s4 g4 b5)
      | (at_builtin; refine wpList_appS Try.underlying105 rowsV rfl (.tmp 15) (.tmp 17) rfl rfl J5.out.own rfl HC5 (by omega) hsz5 ?_; intro A7 c7 W7 o7 g7 at7; have J7 := Lib.hid (J5.out.app o7 g7 at7 hc1 hc2 H5.out); have HR7 := Lib.hid (fun R hR => (HR5.out R hR).grow g7 (fun k e => .inl e) (avR_grow at7)); have kc7 := (show Boxed W7 sb 105 (.slice A nr c) from J7.out.b2).cell; have kf7 := (show Boxed W7 sb 105 (.slice A nr c) from J7.out.b2).frozen; clear o7 g7 at7))
    refine bodyPost_end (results_none rfl _ _ _) rfl ?_
    have J8 := J7.out.box A7 (nr + 1) c7
    exact ⟨rfl, A7, nr + 1, c7, _, by rw [HE.out]; exact J8, fun R hR => (HR7.out R hR).grow (grownBy_setCell' W7 sb _) (fun k e => by cases e; exact .inr (.inl rfl)) (fun k hk => .inl hk)⟩
end Go.Proofs.Ythpgenkdiokpeaa

/- The program's search in breadth: all runs of an order. -/
namespace Go.Proofs.Ythpgenkdiokpeaa
open Go.RowKit Go.Sort Go.Lib

theorem OwnV.caps {w : World} {B n c : Nat} {A : Option Addr} {l : List Pt} (h : OwnV w B A n c l) (h0 : 0 < n) : n ≤ c ∧ c ≤ 9223372036854775807 := by
  rcases h.2 with ⟨_, rfl⟩ | ⟨g, cap, cur, e, _, _, h1, h2, _⟩
  · omega
  · injection e with _ _ e
    unfold maxLen at h2
    omega
theorem ReaJ.bm_lt {w : World} {n mb sb bm : Nat} {S : List (List Pt)} {Ab : Option Addr} {nb cb : Nat} {A : Option Addr} {nr c : Nat} {vs : List Value} {m : List (List Pt)} {a : Nat} {W : World} (h : ReaJ w n mb sb bm S Ab nb cb A nr c vs m a W) : ∀ k, avR A nr c sb bm k → k < W.heap.size := fun k hk => by
  rcases hk with e | rfl | rfl
  · exact (h.own.blk k e).2
  · exact (Array.getElem?_eq_some_iff.1 h.b2).1
  · exact h.set.lt

set_option maxRecDepth 100000 in
set_option maxHeartbeats 8000000 in
theorem eachRun_any {w : World} {n mb sb bm : Nat} {A : Option Addr} {nr c : Nat} {vs : List Value} {m : List (List Pt)} {a : Nat} {W : World} {l x : List Pt} (h : ReaJ w n mb sb bm m A nr c A nr c vs m a W) (hm : Met l m) (hx : x.Perm l) (hln : l.length = n) (hwf : ∀ y : List Pt, y.Perm l → WfO n y) (h1 : 1 ≤ n) {g o1 c1 : Nat}
    (hH : HdP (avR A nr c sb bm) (fun W' => RdV W' (some ⟨g, o1, none⟩) n x) W) :
    Calls Try.prog 170 #[.slice (some ⟨g, o1, none⟩) n c1, .func (.func 169) #[] #[ptrV mb, ptrV sb]] W fun e W' => e = .returned (.tuple #[]) ∧ ∃ A' nr' c' vs', ReaJ w n mb sb bm (expA x n n m) A' nr' c' A' nr' c' vs' (expA x n n m) a W' ∧ (∀ R, HdP (avR A nr c sb bm) R W → HdP (avR A' nr' c' sb bm) R W') := by
  have h5 := (hwf l (List.Perm.refl l)).hn
  have HWF := Lib.hid hwf
  have HX := Lib.hid hx
  have H5 := Lib.hid (show l.length ≤ 5 from by omega)
  have HM := Lib.hid (fun f j => (hm.expA hx n f).expT hx f j)
  have J0 := Lib.hid (show ReaJ w n mb sb bm (expA x n 0 m) A nr c A nr c vs (expA x n 0 m) a W from h)
  have HH := Lib.hid hH
  clear h hwf hx hm hH
  go_enter Try.func170, Try.ntmps170
  go_wp2_with fail
  go_loopw [8] (fun i wr => ∃ (f : Nat) (A' : Option Addr) (nr' c' : Nat) (vs' : List Value), f ≤ n ∧ i = .int .i64 f ∧ ReaJ w n mb sb bm (expA x n f m) A' nr' c' A' nr' c' vs' (expA x n f m) a wr ∧ (∀ R, HdP (avR A nr c sb bm) R W → HdP (avR A' nr' c' sb bm) R wr)) (fun i _ => n - (intOf i).toNat)
  case atStart => exact ⟨0, A, nr, c, vs, Nat.zero_le _, rfl, J0.out, fun R hR => hR⟩
  case round =>
    clear J0
    obtain ⟨f, A1, n1, c2, vs1, hf, rfl, hJ, hR⟩ := hrel
    by_cases hlf : f < n
    · have J1 := Lib.hid (show ReaJ w n mb sb bm (expT x f 0 (expA x n f m)) A1 n1 c2 A1 n1 c2 vs1 (expT x f 0 (expA x n f m)) a wr from hJ)
      have R1 := Lib.hid hR
      have vf : IntKind.i64.wrap ((f : Int) + 1) = ((f + 1 + 0 : Nat) : Int) := wrap_is (by omega) (by omega) (by omega)
      have gf1 : (f : Int) < (n : Int) := by omega
      have HLF := Lib.hid hlf
      have HSU := Lib.hid (show expA x n (f + 1) m = expT x f (n - 1 - f) (expA x n f m) from rfl)
      have HM1 := Lib.hid (show ∀ j, Met l (expT x f j (expA x n f m)) from HM.out f)
      generalize expA x n f m = mf at *
      clear hJ hR hlf hf
      go_wp2_with fail
      go_loopw [5] (fun i wr => ∃ (j : Nat) (A' : Option Addr) (nr' c' : Nat) (vs' : List Value), j ≤ n - 1 - f ∧ i = .int .i64 ((f + 1 + j : Nat) : Int) ∧ ReaJ w n mb sb bm (expT x f j mf) A' nr' c' A' nr' c' vs' (expT x f j mf) a wr ∧ (∀ R, HdP (avR A nr c sb bm) R W → HdP (avR A' nr' c' sb bm) R wr)) (fun i _ => n - (intOf i).toNat)
      case atStart => exact ⟨0, A1, n1, c2, vs1, Nat.zero_le _, rfl, J1.out, R1.out⟩
      case round =>
        clear J1 R1
        obtain ⟨j, A2, n2, c3, vs2, hj, rfl, hJ, hR⟩ := hrel
        obtain ⟨t, et⟩ : ∃ t, t = f + 1 + j := ⟨_, rfl⟩
        rw [← et]
        have hlf2 := HLF.out
        by_cases hlt : t < n
        · obtain ⟨o, eo⟩ : ∃ o, o = runP x f t := ⟨_, rfl⟩
          have HO := Lib.hid (show expT x f (j + 1) mf = addO (expT x f j mf) o from by rw [eo, et]; rfl)
          have ho : o.Perm l := by rw [eo]; exact (runP_perm x (by omega)).trans HX.out
          have hW := withRun_any g o1 n c1 f t x wr (hR _ HH.out).out (by omega) (by omega) hlt
          rw [← eo] at hW
          have hfew := (HM1.out j).few H5.out
          have J2 := Lib.hid hJ
          have R2 := Lib.hid hR
          have HOP := Lib.hid ho
          have HET := Lib.hid et
          have HLT := Lib.hid hlt
          have vt : IntKind.i64.wrap ((t : Int) + 1) = ((t + 1 : Nat) : Int) := wrap_is (by omega) (by omega) (by omega)
          have gt1 : (t : Int) < (n : Int) := by omega
          generalize expT x f j mf = mj at *
          clear hJ hR eo ho et hj hlf2
          go_wp2_with fail
          refine hW.mono ?_
          rintro e w3 ⟨A3, c4, rfl, o3, b3⟩
          obtain ⟨g3, rfl, hg3, _⟩ := o3.form (by omega)
          have hcp := o3.caps (by omega)
          have J3 := Lib.hid (J2.out.same b3)
          have HR3 := Lib.hid (fun R hR => (R2.out R hR).same b3)
          have hCl := reach_any (J2.out.same b3) (HWF.out o HOP.out) h1 hcp.1 hcp.2 (HdP.new wr.heap.size (fun W' _ hs => (o3.moved hs).rd) (J2.out.bm_lt)) hfew
          clear hW o3 b3 J2 R2
          go_wp2_with fail
          refine hCl.mono ?_
          rintro e w4 ⟨rfl, A4, n4, c5, vs4, j4, r4⟩
          have J4 := Lib.hid j4
          have R4 := Lib.hid (fun R hR => r4 R (HR3.out R hR))
          clear j4 r4 hCl
          go_wp2_with fail
          go_roundw
          case rel => exact ⟨j + 1, A4, n4, c5, vs4, by have := HLT.out; have := HET.out; omega, by rw [HET.out]; congr 2, by rw [HO.out]; exact J4.out, R4.out⟩
          case measure => simp [intOf]; omega
        · have J2 := Lib.hid hJ
          have R2 := Lib.hid hR
          have HSU2 := Lib.hid (show expA x n (f + 1) m = expT x f j mf from by rw [HSU.out, show j = n - 1 - f by omega])
          have gt1 : ¬ (t : Int) < (n : Int) := by omega
          have vf2 : IntKind.i64.wrap ((f : Int) + 1) = ((f + 1 : Nat) : Int) := wrap_is (by omega) (by omega) (by omega)
          generalize expT x f j mf = mj at *
          clear hJ hR et hj hlf2 vf
          go_wp2_with fail
          go_roundw
          case rel => exact ⟨f + 1, A2, n2, c3, vs2, by have := HLF.out; omega, rfl, by rw [HSU2.out]; exact J2.out, R2.out⟩
          case measure => have := HLF.out; simp [intOf]; omega
    · obtain rfl : f = n := by omega
      have J2 := Lib.hid hJ
      have R2 := Lib.hid hR
      have gf1 : ¬ (f : Int) < (f : Int) := by omega
      clear hJ hR
      go_wp2_with fail
      refine bodyPost_end (results_none rfl _ _ _) rfl ?_
      first
        | exact ⟨rfl, A1, n1, c2, vs1, J2.out, R2.out⟩
        | exact ⟨rfl, A1, n1, c2, ⟨vs1, J2.out⟩, R2.out⟩
end Go.Proofs.Ythpgenkdiokpeaa
