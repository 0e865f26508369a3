/- Joined: RowX, RowV. -/
import Derived.Test.YtiadnbdefcimiaaPathS5
/- Slices of rows whose row blocks may be shared: own outer slice, read rows; append of many rows. -/
namespace Go.Proofs.Ytiadnbdefcimiaa
open Go.RowKit Go.Sort Go.Lib

abbrev zipW (ks : List Nat) (R : List (List Int)) : List Value := (ks.zip R).map fun p => rowW p.1 p.2
/-- A slice of rows that reads so, each row known by its block. -/
def SrcX (w : World) (A : Option Addr) (n : Nat) (ks : List Nat) (R : List (List Int)) : Prop :=
  R.length = n ∧ ks.length = n ∧ (0 < n → ∃ b off, A = some ⟨b, off, none⟩ ∧ b < w.heap.size ∧ ∀ j, j < n → w.cell? ⟨b, off + j, none⟩ = some (rowW (ks.getD j 0) (rowL R j))) ∧ ∀ i, i < n → RowBlk w (ks.getD i 0) (rowL R i)
theorem SrcX.same {w w' : World} {A : Option Addr} {n : Nat} {ks : List Nat} {R : List (List Int)} (h : SrcX w A n ks R) (hb : Below w.heap.size w w') : SrcX w' A n ks R :=
  ⟨h.1, h.2.1, fun hn => by
    obtain ⟨b, off, rfl, hlt, hc⟩ := h.2.2.1 hn
    exact ⟨b, off, rfl, Nat.lt_of_lt_of_le hlt hb.size, fun j hj => (hb.cell (p := ⟨b, off + j, none⟩) hlt).trans (hc j hj)⟩, fun i hi => (h.2.2.2 i hi).kept (grown_of_below hb) (by simp)⟩
theorem SrcX.rd {w : World} {A : Option Addr} {n : Nat} {ks : List Nat} {R : List (List Int)} (h : SrcX w A n ks R) : RdM w A n R :=
  ⟨h.1, fun hn => by
    obtain ⟨b, off, rfl, hlt, hc⟩ := h.2.2.1 hn
    exact ⟨b, off, rfl, hlt, fun j hj => ⟨_, _, hc j hj, (h.2.2.2 j hj).rd⟩⟩⟩
theorem SrcX.take {w : World} {A : Option Addr} {n k : Nat} {ks : List Nat} {R : List (List Int)} (h : SrcX w A n ks R) (hk : k ≤ n) : SrcX w A k (ks.take k) (R.take k) := by
  have e1 : ∀ j, j < k → (ks.take k).getD j 0 = ks.getD j 0 := fun j hj => by simp [List.getD_eq_getElem?_getD, hj]
  have e2 : ∀ j, j < k → rowL (R.take k) j = rowL R j := fun j hj => by unfold rowL; simp [List.getD_eq_getElem?_getD, hj]
  refine ⟨by simp [h.1]; omega, by simp [h.2.1]; omega, fun h0 => ?_, fun i hi => by rw [e1 i hi, e2 i hi]; exact h.2.2.2 i (by omega)⟩
  obtain ⟨b, off, rfl, hb, hc⟩ := h.2.2.1 (by omega)
  exact ⟨b, off, rfl, hb, fun j hj => by rw [e1 j hj, e2 j hj]; exact hc j (by omega)⟩
theorem SrcX.drop {w : World} {b off n k : Nat} {ks : List Nat} {R : List (List Int)} (h : SrcX w (some ⟨b, off, none⟩) n ks R) (hk : k ≤ n) : SrcX w (some ⟨b, off + k, none⟩) (n - k) (ks.drop k) (R.drop k) := by
  have e1 : ∀ j, (ks.drop k).getD j 0 = ks.getD (k + j) 0 := fun j => by simp [List.getD_eq_getElem?_getD]
  have e2 : ∀ j, rowL (R.drop k) j = rowL R (k + j) := fun j => by unfold rowL; simp [List.getD_eq_getElem?_getD]
  refine ⟨by simp [h.1], by simp [h.2.1], fun h0 => ?_, fun i hi => by rw [e1, e2]; exact h.2.2.2 _ (by omega)⟩
  obtain ⟨b', off', e, hb, hc⟩ := h.2.2.1 (by omega)
  simp only [Option.some.injEq, Addr.mk.injEq, and_true] at e
  obtain ⟨rfl, rfl⟩ := e
  exact ⟨b, off + k, rfl, hb, fun j hj => by rw [e1, e2, Nat.add_assoc]; exact hc (k + j) (by omega)⟩
theorem SrcX.nil_ (w : World) (A : Option Addr) : SrcX w A 0 [] [] := ⟨rfl, rfl, fun h => absurd h (by omega), fun i hi => absurd hi (by omega)⟩

/-- The call's own slice of rows; the rows may be others'. -/
structure OwnX (w : World) (B : Nat) (A : Option Addr) (n c : Nat) (ks : List Nat) (R : List (List Int)) : Prop where
  row : w.ownsRow B 23 1 (.slice A n c) n (zipW ks R)
  len : ks.length = R.length
  rows : ∀ i, i < R.length → RowBlk w (ks.getD i 0) (rowL R i)
theorem OwnM.x {w : World} {B n c : Nat} {A : Option Addr} {gs : List Nat} {L : List (List Int)} (h : OwnM w B A n c gs L) : OwnX w B A n c gs L := ⟨h.row, h.len, fun i hi => (h.rows i hi).2⟩
theorem OwnX.m {w : World} {B n c : Nat} {A : Option Addr} {gs : List Nat} {L : List (List Int)} (h : OwnX w B A n c gs L) (h1 : gs.Nodup) (h2 : ∀ g ∈ gs, B ≤ g) : OwnM w B A n c gs L :=
  ⟨h.row, h.len, h1, fun i hi => ⟨h2 _ (by
    have : i < gs.length := by rw [h.len]; exact hi
    rw [List.getD_eq_getElem?_getD, List.getElem?_eq_getElem this]; exact List.getElem_mem this), h.rows i hi⟩⟩
theorem OwnX.n {w : World} {B n c : Nat} {A : Option Addr} {gs : List Nat} {L : List (List Int)} (h : OwnX w B A n c gs L) : L.length = n := by
  have := h.row.1
  simp [h.len] at this
  exact this
theorem OwnX.ne {w : World} {B n c : Nat} {A : Option Addr} {gs : List Nat} {L : List (List Int)} (h : OwnX w B A n c gs L) {g : Nat} {r : List Int} (ht : RowBlk w g r) : (Value.slice A n c).ownBlock ≠ some g := by
  rcases h.row.2 with ⟨e, _⟩ | ⟨g', cap, cur, e, _, hh, _⟩
  · rw [e]; simp [Value.ownBlock]
  · rw [e]
    intro hg
    simp only [Value.ownBlock, Option.some.injEq] at hg
    subst hg
    have ht := ht.1
    rw [hh] at ht
    simp only [Option.some.injEq, Obj.cells.injEq] at ht
    exact absurd ht.2.1.symm rows_far
theorem OwnX.blk {w : World} {B n c : Nat} {A : Option Addr} {gs : List Nat} {L : List (List Int)} (h : OwnX w B A n c gs L) : ∀ k, (Value.slice A n c).ownBlock = some k → B ≤ k ∧ k < w.heap.size := fun k e => h.row.lt k e
theorem OwnX.same {w w' : World} {B n c : Nat} {A : Option Addr} {gs : List Nat} {L : List (List Int)} (h : OwnX w B A n c gs L) (hb : Below w.heap.size w w') : OwnX w' B A n c gs L := by
  have hg := grown_of_below hb
  refine ⟨h.row.kept hg ?_, h.len, fun i hi => (h.rows i hi).kept hg (by simp)⟩
  cases hb : (Value.slice A n c).ownBlock with
  | none => exact .inl rfl
  | some k => exact .inr (by simp)
theorem OwnX.lower {w : World} {B B' n c : Nat} {A : Option Addr} {gs : List Nat} {L : List (List Int)} (h : OwnX w B A n c gs L) (hB : B' ≤ B) : OwnX w B' A n c gs L := by
  refine ⟨⟨h.row.1, ?_⟩, h.len, h.rows⟩
  rcases h.row.2 with e | ⟨g, cap, cur, e, hb, r⟩
  · exact .inl e
  · exact .inr ⟨g, cap, cur, e, Nat.le_trans hB hb, r⟩
theorem OwnX.empty (w : World) {B : Nat} (hB : B ≤ w.heap.size) : OwnX (w.alloc (.cells #[] 23)) B (some ⟨w.heap.size, 0, none⟩) 0 0 [] [] := (OwnM.empty w hB).x
theorem OwnX.nil_ (w : World) (B : Nat) : OwnX w B none 0 0 [] [] := (OwnM.nil_ w B).x
theorem OwnX.src {w : World} {B n c : Nat} {A : Option Addr} {gs : List Nat} {L : List (List Int)} (h : OwnX w B A n c gs L) : SrcX w A n gs L := by
  have hn := h.n
  refine ⟨hn, by rw [h.len]; exact hn, fun h0 => ?_, fun i hi => h.rows i (by omega)⟩
  have hrow := h.row
  rcases h.row.2 with ⟨e, e0⟩ | ⟨g, cap, cur, e, hb, hh, _⟩
  · omega
  · obtain ⟨rfl, rfl⟩ : A = some ⟨g, 0, none⟩ ∧ c = cap := by injection e with a b c; exact ⟨a, c⟩
    exact ⟨g, 0, rfl, (Array.getElem?_eq_some_iff.1 hh).1, fun j hj => by rw [Nat.zero_add, World.ownsRow.cellAt hrow j (by omega), zipW_at (by omega) h.len]⟩
theorem OwnX.rd {w : World} {B n c : Nat} {A : Option Addr} {gs : List Nat} {L : List (List Int)} (h : OwnX w B A n c gs L) : RdM w A n L := h.src.rd
theorem OwnX.cap {w : World} {B n c : Nat} {A : Option Addr} {gs : List Nat} {L : List (List Int)} (h : OwnX w B A n c gs L) : n ≤ c := by
  rcases h.row.2 with ⟨e, h0⟩ | ⟨g, cap, cur, e, _, _, hnc, _⟩
  · omega
  · injection e with _ _ e; omega

/-- append of rows. -/
theorem run_appX {W : World} {B n c : Nat} {A : Option Addr} {ks : List Nat} {R : List (List Int)} (hown : OwnX W B A n c ks R) {A2 : Option Addr} {m : Nat} (c2 : Nat) {ks2 : List Nat} {R2 : List (List Int)} (hr : SrcX W A2 m ks2 R2)
    (hn : n + m ≤ 1000000) (hB : B ≤ W.heap.size) (ty : TypeId) :
    ∃ A' c' W', (Builtin.append_ #[60, 60] ty #[.slice A n c, .slice A2 m c2]).run Try.prog W = .ok (.slice A' (n + m) c') W' ∧ OwnX W' B A' (n + m) c' (ks ++ ks2) (R ++ R2) ∧ W.grownBy W' (Value.slice A n c).ownBlock := by
  obtain ⟨i0, hi, hz0, hz1, hz2⟩ := info_parts rowsInfo
  have key : ∀ ad : Addr, (∀ j u, (zipW ks2 R2)[j]? = some u → W.cell? (ad.add j) = some u) →
      ∃ A' c' W', (Builtin.append_ #[60, 60] ty #[.slice A n c, .slice (some ad) m c2]).run Try.prog W = .ok (.slice A' (n + m) c') W' ∧ OwnX W' B A' (n + m) c' (ks ++ ks2) (R ++ R2) ∧ W.grownBy W' (Value.slice A n c).ownBlock := by
    intro ad hc
    obtain ⟨v', w', hrun, r1, g1, _, _⟩ := Go.run_append_own_at (P := Try.prog) W B 60 ty 23 i0 (.slice none 0 0) 1 24 Try.underlying60 hi hz0 hz1 hz2 rfl (by decide) (.slice A n c) n (zipW ks R) hown.row ad m c2 (zipW ks2 R2) (by simp [hr.1, hr.2.1]) hc (fun u hu => by
      obtain ⟨p, _, rfl⟩ := List.mem_map.1 hu
      rfl) (by unfold maxLen; omega) (by omega) hB
    have e1 : zipW ks R ++ zipW ks2 R2 = zipW (ks ++ ks2) (R ++ R2) := by
      unfold zipW
      rw [List.zip_append hown.len, List.map_append]
    rw [e1] at r1
    have hL := hown.n
    have hgl : ks.length = n := by rw [hown.len]; exact hL
    obtain ⟨A', c', rfl⟩ : ∃ A' c', v' = .slice A' (n + m) c' := by
      rcases r1.2 with ⟨e, e0⟩ | ⟨g', cap, cur, e, _⟩
      · rw [e0]; exact ⟨none, 0, e⟩
      · exact ⟨_, _, e⟩
    refine ⟨A', c', w', hrun, ⟨r1, by simp [hown.len, hr.1, hr.2.1], fun i hi => ?_⟩, g1⟩
    by_cases hlt : i < n
    · have e2 : (ks ++ ks2).getD i 0 = ks.getD i 0 := by simp [List.getD_eq_getElem?_getD, List.getElem?_append_left (show i < ks.length by omega)]
      have e3 : rowL (R ++ R2) i = rowL R i := by unfold rowL; simp [List.getD_eq_getElem?_getD, List.getElem?_append_left (show i < R.length by omega)]
      rw [e2, e3]
      have q2 := hown.rows i (by omega)
      exact q2.kept g1 (hown.ne q2).symm
    · have hi2 : i - n < m := by rw [List.length_append, hL, hr.1] at hi; omega
      have e2 : (ks ++ ks2).getD i 0 = ks2.getD (i - n) 0 := by simp [List.getD_eq_getElem?_getD, List.getElem?_append_right (show ks.length ≤ i by omega), hgl]
      have e3 : rowL (R ++ R2) i = rowL R2 (i - n) := by unfold rowL; simp [List.getD_eq_getElem?_getD, List.getElem?_append_right (show R.length ≤ i by omega), hL]
      rw [e2, e3]
      have q2 := hr.2.2.2 (i - n) hi2
      exact q2.kept g1 (hown.ne q2).symm
  rcases Nat.eq_zero_or_pos m with h0 | h0
  · subst h0
    have hy : R2 = [] := List.eq_nil_of_length_eq_zero hr.1
    have hk : ks2 = [] := List.eq_nil_of_length_eq_zero hr.2.1
    subst hy hk
    rcases A2 with _ | ad
    · refine ⟨A, c, W, ?_, by simpa using hown, World.grownBy.refl W _⟩
      rcases hown.row.2 with ⟨h, rfl⟩ | ⟨g, cap, cur, h, _, _, hnc, _⟩
      · simp only [Value.slice.injEq, true_and] at h
        obtain ⟨rfl, rfl⟩ := h
        simp [Builtin.append_, run_underlying Try.underlying60, sizeOf, typeInfo, hi, Builtin.lenOf, Builtin.firstCells]
      · simp only [Value.slice.injEq, true_and] at h
        obtain ⟨rfl, rfl⟩ := h
        simp [Builtin.append_, run_underlying Try.underlying60, sizeOf, typeInfo, hi, Builtin.lenOf, Builtin.firstCells, hnc, storeCells]
    · exact key ad (fun j u hu => by simp at hu)
  · obtain ⟨b, off, rfl, _, hc⟩ := hr.2.2.1 h0
    refine key ⟨b, off, none⟩ fun j u hu => ?_
    have hj : j < m := by
      rcases Nat.lt_or_ge j m with h1 | h1
      · exact h1
      · rw [List.getElem?_eq_none (by simp [hr.1, hr.2.1]; omega)] at hu; cases hu
    rw [zipW_at (by rw [hr.1]; exact hj) (by rw [hr.1, hr.2.1])] at hu
    cases hu
    have e : (⟨b, off, none⟩ : Addr).add j = ⟨b, off + j, none⟩ := by unfold Addr.add; split <;> simp_all
    rw [e]; exact hc j hj
theorem wp_appX {o : Oper} {a : Act} {K : Act → World → Prop} {Q : Exit → Act → World → Prop} {W : World} (s x : Operand)
    (ho : o.op = .call { callee := .builtin .append, args := #[s, x], argTypes := #[60, 60] })
    {B n c : Nat} {A : Option Addr} {ks : List Nat} {R : List (List Int)} (hs : a.eval s = .slice A n c) (hown : OwnX W B A n c ks R) {A2 : Option Addr} {m c2 : Nat} {ks2 : List Nat} {R2 : List (List Int)} (hx : a.eval x = .slice A2 m c2) (hr : SrcX W A2 m ks2 R2) (hn : n + m ≤ 1000000) (hB : B ≤ W.heap.size)
    (h : ∀ A' c' W', OwnX W' B A' (n + m) c' (ks ++ ks2) (R ++ R2) → W.grownBy W' (Value.slice A n c).ownBlock → K (a.put o.dst (.slice A' (n + m) c')) W') : o.wp Try.prog a W K Q := by
  obtain ⟨A', c', W', hrun, h2, h3⟩ := run_appX hown c2 hr hn hB o.type
  unfold Oper.wp execOp
  simp only [ho, resolve, invoke, builtin, Sem.run_bind, Sem.run_pure, Result.andThen_ok, List.map_toArray, List.map_cons, List.map_nil, hs, hx, hrun]
  exact h A' c' W' h2 h3
theorem wpList_appX {ops : Array Oper} {rest : List Oper} {o : Oper} {a : Act} {Q : Exit → Act → World → Prop} {W : World} (hgd : o.guard = none) (s x : Operand)
    (ho : o.op = .call { callee := .builtin .append, args := #[s, x], argTypes := #[60, 60] })
    {B n c : Nat} {A : Option Addr} {ks : List Nat} {R : List (List Int)} (hs : a.eval s = .slice A n c) (hown : OwnX W B A n c ks R) {A2 : Option Addr} {m c2 : Nat} {ks2 : List Nat} {R2 : List (List Int)} (hx : a.eval x = .slice A2 m c2) (hr : SrcX W A2 m ks2 R2) (hn : n + m ≤ 1000000) (hB : B ≤ W.heap.size)
    (h : ∀ A' c' W', OwnX W' B A' (n + m) c' (ks ++ ks2) (R ++ R2) → W.grownBy W' (Value.slice A n c).ownBlock → wpList Try.prog ops Q rest (a.put o.dst (.slice A' (n + m) c')) W') : wpList Try.prog ops Q (o :: rest) a W :=
  wpList_plain hgd fun _ hK => wp_appX s x ho hs hown hx hr hn hB fun A' c' W' h2 h3 => hK _ _ (h A' c' W' h2 h3)
theorem step_appX {ops : Array Oper} {o : Oper} {a : Act} {K : Act → World → Prop} {Q : Exit → Act → World → Prop} {E : Prop} {W : World} (hgd : o.guard = none) (s x : Operand)
    (ho : o.op = .call { callee := .builtin .append, args := #[s, x], argTypes := #[60, 60] })
    {B n c : Nat} {A : Option Addr} {ks : List Nat} {R : List (List Int)} (hs : a.eval s = .slice A n c) (hown : OwnX W B A n c ks R) {A2 : Option Addr} {m c2 : Nat} {ks2 : List Nat} {R2 : List (List Int)} (hx : a.eval x = .slice A2 m c2) (hr : SrcX W A2 m ks2 R2) (hn : n + m ≤ 1000000) (hB : B ≤ W.heap.size)
    (h : ∀ A' c' W', OwnX W' B A' (n + m) c' (ks ++ ks2) (R ++ R2) → W.grownBy W' (Value.slice A n c).ownBlock → K (a.put o.dst (.slice A' (n + m) c')) W') :
    if Region.wanted o (yielded ops a.tmps) = true then Oper.wp Try.prog o a W K Q else E := by
  have hw : Region.wanted o (yielded ops a.tmps) = true := by simp [Region.wanted, hgd]
  rw [if_pos hw]
  exact wp_appX s x ho hs hown hx hr hn hB h
theorem app_markX {W W' : World} {A : Option Addr} {n c B : Nat} {w : World} {ks : List Nat} {R : List (List Int)} (hb : Below w.heap.size w W) (ho : OwnX W B A n c ks R) (hB : w.heap.size ≤ B) (hg : W.grownBy W' (Value.slice A n c).ownBlock) : Below w.heap.size w W' :=
  hb.grown hg hb.size (fun k e => by have := ho.blk k e; omega)
end Go.Proofs.Ytiadnbdefcimiaa

/- Slices of rows that are known by their values alone: the rows may be anyone's. -/
namespace Go.Proofs.Ytiadnbdefcimiaa
open Go.RowKit Go.Sort Go.Lib

/-- A slice of rows that reads so. -/
def SrcV (w : World) (A : Option Addr) (n : Nat) (vs : List Value) : Prop :=
  vs.length = n ∧ (0 < n → ∃ b off, A = some ⟨b, off, none⟩ ∧ b < w.heap.size ∧ ∀ j, j < n → w.cell? ⟨b, off + j, none⟩ = vs[j]?) ∧ ∀ v ∈ vs, ∃ A m c, v = .slice A m c
theorem SrcV.same {w w' : World} {A : Option Addr} {n : Nat} {vs : List Value} (h : SrcV w A n vs) (hb : Below w.heap.size w w') : SrcV w' A n vs :=
  ⟨h.1, fun hn => by
    obtain ⟨b, off, rfl, hlt, hc⟩ := h.2.1 hn
    exact ⟨b, off, rfl, Nat.lt_of_lt_of_le hlt hb.size, fun j hj => (hb.cell (p := ⟨b, off + j, none⟩) hlt).trans (hc j hj)⟩, h.2.2⟩
theorem SrcV.take {w : World} {A : Option Addr} {n k : Nat} {vs : List Value} (h : SrcV w A n vs) (hk : k ≤ n) : SrcV w A k (vs.take k) := by
  refine ⟨by simp [h.1]; omega, fun h0 => ?_, fun v hv => h.2.2 v (List.mem_of_mem_take hv)⟩
  obtain ⟨b, off, rfl, hb, hc⟩ := h.2.1 (by omega)
  exact ⟨b, off, rfl, hb, fun j hj => by rw [hc j (by omega), List.getElem?_take_of_lt hj]⟩
theorem SrcV.drop {w : World} {b off n k : Nat} {vs : List Value} (h : SrcV w (some ⟨b, off, none⟩) n vs) (hk : k ≤ n) : SrcV w (some ⟨b, off + k, none⟩) (n - k) (vs.drop k) := by
  refine ⟨by simp [h.1], fun h0 => ?_, fun v hv => h.2.2 v (List.mem_of_mem_drop hv)⟩
  obtain ⟨b', off', e, hb, hc⟩ := h.2.1 (by omega)
  simp only [Option.some.injEq, Addr.mk.injEq, and_true] at e
  obtain ⟨rfl, rfl⟩ := e
  exact ⟨b, off + k, rfl, hb, fun j hj => by rw [Nat.add_assoc, hc (k + j) (by omega), List.getElem?_drop]⟩
theorem SrcV.nil_ (w : World) (A : Option Addr) : SrcV w A 0 [] := ⟨rfl, fun h => absurd h (by omega), fun _ hv => by cases hv⟩
theorem SrcV.one {w : World} {b : Nat} {v : Value} (hc : w.cell? ⟨b, 0, none⟩ = some v) (hb : b < w.heap.size) (hv : ∃ A m c, v = .slice A m c) : SrcV w (some ⟨b, 0, none⟩) 1 [v] :=
  ⟨rfl, fun _ => ⟨b, 0, rfl, hb, fun j hj => by
    obtain rfl : j = 0 := by omega
    simpa using hc⟩, fun u hu => by
    obtain rfl : u = v := by simpa using hu
    exact hv⟩

/-- The call's own slice of rows. -/
def OwnW (w : World) (B : Nat) (A : Option Addr) (n c : Nat) (vs : List Value) : Prop :=
  w.ownsRow B 23 1 (.slice A n c) n vs ∧ ∀ v ∈ vs, ∃ A m c, v = .slice A m c
theorem OwnW.empty (w : World) {B : Nat} (hB : B ≤ w.heap.size) : OwnW (w.alloc (.cells #[] 23)) B (some ⟨w.heap.size, 0, none⟩) 0 0 [] := ⟨(OwnM.empty w hB).row, fun _ hv => by cases hv⟩
theorem OwnW.blk {w : World} {B n c : Nat} {A : Option Addr} {vs : List Value} (h : OwnW w B A n c vs) : ∀ k, (Value.slice A n c).ownBlock = some k → B ≤ k ∧ k < w.heap.size := fun k e => h.1.lt k e
theorem OwnW.same {w w' : World} {B n c : Nat} {A : Option Addr} {vs : List Value} (h : OwnW w B A n c vs) (hb : Below w.heap.size w w') : OwnW w' B A n c vs := by
  refine ⟨h.1.kept (grown_of_below hb) ?_, h.2⟩
  cases hb : (Value.slice A n c).ownBlock with
  | none => exact .inl rfl
  | some k => exact .inr (by simp)
theorem OwnW.src {w : World} {B n c : Nat} {A : Option Addr} {vs : List Value} (h : OwnW w B A n c vs) : SrcV w A n vs := by
  have hn : vs.length = n := by simpa using h.1.1
  refine ⟨hn, fun h0 => ?_, h.2⟩
  have hrow := h.1
  rcases h.1.2 with ⟨e, e0⟩ | ⟨g, cap, cur, e, hb, hh, _⟩
  · omega
  · obtain ⟨rfl, rfl⟩ : A = some ⟨g, 0, none⟩ ∧ c = cap := by injection e with a b c; exact ⟨a, c⟩
    exact ⟨g, 0, rfl, (Array.getElem?_eq_some_iff.1 hh).1, fun j hj => by rw [Nat.zero_add, World.ownsRow.cellAt hrow j (by omega)]⟩

/-- append of rows. -/
theorem run_appW {W : World} {B n c : Nat} {A : Option Addr} {vs : List Value} (hown : OwnW W B A n c vs) {A2 : Option Addr} {m : Nat} (c2 : Nat) {us : List Value} (hr : SrcV W A2 m us)
    (hn : n + m ≤ 16777216) (hB : B ≤ W.heap.size) (ty : TypeId) :
    ∃ A' c' W', (Builtin.append_ #[60, 60] ty #[.slice A n c, .slice A2 m c2]).run Try.prog W = .ok (.slice A' (n + m) c') W' ∧ OwnW W' B A' (n + m) c' (vs ++ us) ∧ W.grownBy W' (Value.slice A n c).ownBlock := by
  obtain ⟨i0, hi, hz0, hz1, hz2⟩ := info_parts rowsInfo
  have key : ∀ ad : Addr, (∀ j u, us[j]? = some u → W.cell? (ad.add j) = some u) →
      ∃ A' c' W', (Builtin.append_ #[60, 60] ty #[.slice A n c, .slice (some ad) m c2]).run Try.prog W = .ok (.slice A' (n + m) c') W' ∧ OwnW W' B A' (n + m) c' (vs ++ us) ∧ W.grownBy W' (Value.slice A n c).ownBlock := by
    intro ad hc
    obtain ⟨v', w', hrun, r1, g1, _, _⟩ := Go.run_append_own_at (P := Try.prog) W B 60 ty 23 i0 (.slice none 0 0) 1 24 Try.underlying60 hi hz0 hz1 hz2 rfl (by decide) (.slice A n c) n vs hown.1 ad m c2 us (by simp [hr.1]) hc (fun u hu => by
      obtain ⟨_, _, _, rfl⟩ := hr.2.2 u hu
      rfl) (by unfold maxLen; omega) (by omega) hB
    obtain ⟨A', c', rfl⟩ : ∃ A' c', v' = .slice A' (n + m) c' := by
      rcases r1.2 with ⟨e, e0⟩ | ⟨g', cap, cur, e, _⟩
      · rw [e0]; exact ⟨none, 0, e⟩
      · exact ⟨_, _, e⟩
    exact ⟨A', c', w', hrun, ⟨r1, fun v hv => (List.mem_append.1 hv).elim (hown.2 v) (hr.2.2 v)⟩, g1⟩
  rcases Nat.eq_zero_or_pos m with h0 | h0
  · subst h0
    have hy : us = [] := List.eq_nil_of_length_eq_zero hr.1
    subst hy
    rcases A2 with _ | ad
    · refine ⟨A, c, W, ?_, by simpa using hown, World.grownBy.refl W _⟩
      rcases hown.1.2 with ⟨h, rfl⟩ | ⟨g, cap, cur, h, _, _, hnc, _⟩
      · simp only [Value.slice.injEq, true_and] at h
        obtain ⟨rfl, rfl⟩ := h
        simp [Builtin.append_, run_underlying Try.underlying60, sizeOf, typeInfo, hi, Builtin.lenOf, Builtin.firstCells]
      · simp only [Value.slice.injEq, true_and] at h
        obtain ⟨rfl, rfl⟩ := h
        simp [Builtin.append_, run_underlying Try.underlying60, sizeOf, typeInfo, hi, Builtin.lenOf, Builtin.firstCells, hnc, storeCells]
    · exact key ad (fun j u hu => by simp at hu)
  · obtain ⟨b, off, rfl, _, hc⟩ := hr.2.1 h0
    refine key ⟨b, off, none⟩ fun j u hu => ?_
    have hj : j < m := by
      rcases Nat.lt_or_ge j m with h1 | h1
      · exact h1
      · rw [List.getElem?_eq_none (by rw [hr.1]; omega)] at hu; cases hu
    have e : (⟨b, off, none⟩ : Addr).add j = ⟨b, off + j, none⟩ := by unfold Addr.add; split <;> simp_all
    rw [e, hc j hj, hu]
theorem wp_appW {o : Oper} {a : Act} {K : Act → World → Prop} {Q : Exit → Act → World → Prop} {W : World} (s x : Operand)
    (ho : o.op = .call { callee := .builtin .append, args := #[s, x], argTypes := #[60, 60] })
    {B n c : Nat} {A : Option Addr} {vs : List Value} (hs : a.eval s = .slice A n c) (hown : OwnW W B A n c vs) {A2 : Option Addr} {m c2 : Nat} {us : List Value} (hx : a.eval x = .slice A2 m c2) (hr : SrcV W A2 m us) (hn : n + m ≤ 16777216) (hB : B ≤ W.heap.size)
    (h : ∀ A' c' W', OwnW W' B A' (n + m) c' (vs ++ us) → W.grownBy W' (Value.slice A n c).ownBlock → K (a.put o.dst (.slice A' (n + m) c')) W') : o.wp Try.prog a W K Q := by
  obtain ⟨A', c', W', hrun, h2, h3⟩ := run_appW hown c2 hr hn hB o.type
  unfold Oper.wp execOp
  simp only [ho, resolve, invoke, builtin, Sem.run_bind, Sem.run_pure, Result.andThen_ok, List.map_toArray, List.map_cons, List.map_nil, hs, hx, hrun]
  exact h A' c' W' h2 h3
theorem app_markW {W W' w : World} {A : Option Addr} {n c B : Nat} {vs : List Value} (hb : Below w.heap.size w W) (ho : OwnW W B A n c vs) (hB : w.heap.size ≤ B) (hg : W.grownBy W' (Value.slice A n c).ownBlock) : Below w.heap.size w W' :=
  hb.grown hg hb.size (fun k e => by have := ho.blk k e; omega)
/-- append as one step of a region that draws. -/
theorem step_appW {ops : Array Oper} {o : Oper} {a : Act} {K : Act → World → Prop} {Q : Exit → Act → World → Prop} {E : Prop} {W : World} (W0 : World) (hgd : o.guard = none) (s x : Operand)
    (ho : o.op = .call { callee := .builtin .append, args := #[s, x], argTypes := #[60, 60] })
    {n c : Nat} {A : Option Addr} (vs : List Value) (hs : a.eval s = .slice A n c) (hown : OwnW W W0.heap.size A n c vs) {A2 : Option Addr} {m : Nat} {c2 : Nat} (us : List Value) (hx : a.eval x = .slice A2 m c2) (hr : SrcV W A2 m us) (hb : Below W0.heap.size W0 W) (hn : n + m ≤ 16777216)
    (h : ∀ A' c' W', OwnW W' W0.heap.size A' (n + m) c' (vs ++ us) → Below W0.heap.size W0 W' → W.grownBy W' (Value.slice A n c).ownBlock → K (a.put o.dst (.slice A' (n + m) c')) W') :
    if Region.wanted o (yielded ops a.tmps) = true then Oper.wp Try.prog o a W K Q else E := by
  have hw : Region.wanted o (yielded ops a.tmps) = true := by simp [Region.wanted, hgd]
  rw [if_pos hw]
  exact wp_appW s x ho hs hown hx hr hn hb.size fun A' c' W' h1 h2 => h A' c' W' h1 (app_markW hb hown (Nat.le_refl _) h2) h2

/-- What the rows read, in a world that lies behind. -/
def RowsV (w0 : World) (vs : List Value) (l : List Pt) : Prop :=
  vs.length = l.length ∧ ∀ i, i < l.length → ∃ A c, vs[i]? = some (.slice A 2 c) ∧ Rd w0 A 2 (ptRow (atP l i))
theorem RowsV.rdM {w0 w : World} {vs : List Value} {l : List Pt} {A : Option Addr} (h : RowsV w0 vs l) (hb : Below w0.heap.size w0 w) (hs : SrcV w A l.length vs) : RdM w A l.length (rowsOf l) := by
  refine ⟨by simp [rowsOf], fun h0 => ?_⟩
  obtain ⟨b, off, rfl, hlt, hc⟩ := hs.2.1 h0
  refine ⟨b, off, rfl, hlt, fun j hj => ?_⟩
  obtain ⟨A1, c1, e, hr⟩ := h.2 j hj
  have e2 : rowL (rowsOf l) j = ptRow (atP l j) := by
    unfold rowL rowsOf
    rw [List.getD_eq_getElem?_getD, List.getElem?_map, List.getElem?_eq_getElem hj, atP_lt hj]; rfl
  rw [e2]
  exact ⟨A1, c1, by rw [hc j hj, e]; rfl, hr.below (Nat.le_refl _) hb⟩
theorem RowsV.mv {w0 : World} {va vr : List Value} {a r : List Pt} (ha : RowsV w0 va a) (hr : RowsV w0 vr r) {i : Nat} (hi : i < r.length) {v : Value} (hv : vr[i]? = some v) : RowsV w0 (va ++ [v]) (a ++ [atP r i]) := by
  refine ⟨by simp [ha.1], fun j hj => ?_⟩
  rw [List.length_append, List.length_singleton] at hj
  by_cases h : j < a.length
  · obtain ⟨A, c, e1, e2⟩ := ha.2 j h
    have e3 : atP (a ++ [atP r i]) j = atP a j := by unfold atP; simp [List.getD_eq_getElem?_getD, List.getElem?_append_left h]
    exact ⟨A, c, by rw [List.getElem?_append_left (by rw [ha.1]; exact h)]; exact e1, by rw [e3]; exact e2⟩
  · obtain rfl : j = a.length := by omega
    obtain ⟨A, c, e1, e2⟩ := hr.2 i hi
    have e3 : atP (a ++ [atP r i]) a.length = atP r i := by unfold atP; simp [List.getD_eq_getElem?_getD]
    exact ⟨A, c, by rw [← ha.1]; simp; rw [hv] at e1; exact Option.some.inj e1, by rw [e3]; exact e2⟩
theorem RowsV.rm {w0 : World} {vr : List Value} {r : List Pt} (hr : RowsV w0 vr r) {i : Nat} (hi : i < r.length) : RowsV w0 (vr.take i ++ vr.drop (i + 1)) (r.eraseIdx i) := by
  rw [← List.eraseIdx_eq_take_drop_succ]
  refine ⟨by rw [List.length_eraseIdx_of_lt hi, List.length_eraseIdx_of_lt (by rw [hr.1]; exact hi), hr.1], fun j hj => ?_⟩
  rw [List.length_eraseIdx_of_lt hi] at hj
  by_cases h : j < i
  · obtain ⟨A, c, e1, e2⟩ := hr.2 j (by omega)
    exact ⟨A, c, by rw [List.getElem?_eraseIdx_of_lt h]; exact e1, by
      have e3 : atP (r.eraseIdx i) j = atP r j := by unfold atP; rw [List.getD_eq_getElem?_getD, List.getD_eq_getElem?_getD, List.getElem?_eraseIdx_of_lt h]
      rw [e3]; exact e2⟩
  · obtain ⟨A, c, e1, e2⟩ := hr.2 (j + 1) (by omega)
    exact ⟨A, c, by rw [List.getElem?_eraseIdx_of_ge (by omega)]; exact e1, by
      have e3 : atP (r.eraseIdx i) j = atP r (j + 1) := by unfold atP; rw [List.getD_eq_getElem?_getD, List.getD_eq_getElem?_getD, List.getElem?_eraseIdx_of_ge (by omega)]
      rw [e3]; exact e2⟩
/-- The argument's rows as values. -/
theorem RowsV.of {w : World} {A : Option Addr} {l : List Pt} (h : RdM w A l.length (rowsOf l)) : ∃ vs, SrcV w A l.length vs ∧ RowsV w vs l := by
  rcases Nat.eq_zero_or_pos l.length with h0 | h0
  · obtain rfl : l = [] := List.eq_nil_of_length_eq_zero h0
    exact ⟨[], SrcV.nil_ _ _, rfl, fun i hi => absurd hi (by simp)⟩
  · obtain ⟨b, off, rfl, hlt, hc⟩ := h.2 h0
    have key : ∀ j, j < l.length → ∃ A1 c1, w.cell? ⟨b, off + j, none⟩ = some (.slice A1 2 c1) ∧ Rd w A1 2 (ptRow (atP l j)) := fun j hj => by
      obtain ⟨A1, c1, x1, r1⟩ := hc j hj
      have e2 : rowL (rowsOf l) j = ptRow (atP l j) := by
        unfold rowL rowsOf
        rw [List.getD_eq_getElem?_getD, List.getElem?_map, List.getElem?_eq_getElem hj, atP_lt hj]; rfl
      rw [e2] at x1 r1
      exact ⟨A1, c1, x1, r1⟩
    refine ⟨(List.range l.length).map fun j => (w.cell? ⟨b, off + j, none⟩).getD undef, ⟨by simp, fun _ => ⟨b, off, rfl, hlt, fun j hj => ?_⟩, fun v hv => ?_⟩, by simp, fun i hi => ?_⟩
    · obtain ⟨A1, c1, x1, _⟩ := key j hj
      rw [List.getElem?_map, List.getElem?_range hj, Option.map_some, x1]; rfl
    · obtain ⟨j, hj, rfl⟩ := List.mem_map.1 hv
      obtain ⟨A1, c1, x1, _⟩ := key j (List.mem_range.1 hj)
      exact ⟨A1, 2, c1, by rw [x1]; rfl⟩
    · obtain ⟨A1, c1, x1, r1⟩ := key i hi
      exact ⟨A1, c1, by rw [List.getElem?_map, List.getElem?_range hi, Option.map_some, x1]; rfl, r1⟩
end Go.Proofs.Ytiadnbdefcimiaa
