/- append of ints onto a row of the call's own, as one law: the source nil, empty or not. -/
import Derived.Test.YtkjhkcnmhakfcaaBase
namespace Go.Proofs.Ytkjhkcnmhakfcaa
open Go.RowKit

def sliceLen : Value → Nat
  | .slice _ n _ => n
  | _ => 0
theorem ints_app (xs ys : List Int) : ints xs ++ ints ys = ints (xs ++ ys) := by simp
theorem own_shape {w : World} {B n : Nat} {v : Value} {xs : List Int} (h : w.ownsRow B 3 1 v n (ints xs)) : ∃ A c, v = .slice A n c ∧ Own w B A n c xs := by
  rcases h.2 with ⟨rfl, rfl⟩ | ⟨g, cap, cur, rfl, rest⟩
  · exact ⟨none, 0, rfl, h⟩
  · exact ⟨_, cap, rfl, h⟩
theorem Rd.cells {w : World} {b off n : Nat} {xs : List Int} (hl : xs.length = n) (hc : ∀ j, j < n → w.cell? ⟨b, off + j, none⟩ = some (.int .i64 (xs.getD j 0))) : ∀ j u, (ints xs)[j]? = some u → w.cell? ((⟨b, off, none⟩ : Addr).add j) = some u := by
  intro j u hu
  have hj : j < n := by
    rcases Nat.lt_or_ge j n with h | h
    · exact h
    · rw [List.getElem?_eq_none (by simp; omega)] at hu; cases hu
  rw [ints_get xs j (by omega)] at hu
  cases hu
  have e : (⟨b, off, none⟩ : Addr).add j = ⟨b, off + j, none⟩ := by unfold Addr.add; split <;> simp_all
  rw [e]; exact hc j hj

theorem run_appT (t : TypeId) (ht : Try.prog.underlying t = some (.slice 3)) {W : World} {B n c : Nat} {A : Option Addr} {xs : List Int} (hown : Own W B A n c xs) {A2 : Option Addr} {m : Nat} (c2 : Nat) {ys : List Int} (hr : Rd W A2 m ys) (hn : n + m ≤ 16777216) (hB : B ≤ W.heap.size) (ty : TypeId) :
    ∃ A' c' W', (Builtin.append_ #[t, t] ty #[.slice A n c, .slice A2 m c2]).run Try.prog W = .ok (.slice A' (n + m) c') W' ∧ Own W' B A' (n + m) c' (xs ++ ys) ∧ W.grownBy W' (Value.slice A n c).ownBlock := by
  obtain ⟨i0, hi, hz0, hz1, hz2⟩ := info_parts intInfo
  have key : ∀ ad : Addr, (∀ j u, (ints ys)[j]? = some u → W.cell? (ad.add j) = some u) →
      ∃ A' c' W', (Builtin.append_ #[t, t] ty #[.slice A n c, .slice (some ad) m c2]).run Try.prog W = .ok (.slice A' (n + m) c') W' ∧ Own W' B A' (n + m) c' (xs ++ ys) ∧ W.grownBy W' (Value.slice A n c).ownBlock := by
    intro ad hc
    obtain ⟨v', w', hrun, h2, h3, _⟩ := run_append_own_at (P := Try.prog) W B t ty 3 i0 (.int .i64 0) 1 8 ht hi hz0 hz1 hz2 rfl (by omega) _ n (ints xs) hown ad m c2 (ints ys) (by simp [hr.1]) hc (by intro u hu; simp at hu; obtain ⟨x, _, rfl⟩ := hu; rfl) (by unfold maxLen; omega) (by omega) hB
    rw [ints_app] at h2
    obtain ⟨A', c', rfl, ho⟩ := own_shape h2
    exact ⟨A', c', w', hrun, ho, h3⟩
  rcases Nat.eq_zero_or_pos m with h0 | h0
  · subst h0
    have hy : ys = [] := List.eq_nil_of_length_eq_zero hr.1
    subst hy
    rcases A2 with _ | ad
    · refine ⟨A, c, W, ?_, by simpa using hown, World.grownBy.refl W _⟩
      rcases hown.2 with ⟨h, rfl⟩ | ⟨g, cap, cur, h, _, _, hnc, _⟩
      · simp only [Value.slice.injEq, true_and] at h
        obtain ⟨rfl, rfl⟩ := h
        simp [Builtin.append_, run_underlying ht, sizeOf, typeInfo, hi, Builtin.lenOf, Builtin.firstCells]
      · simp only [Value.slice.injEq, true_and] at h
        obtain ⟨rfl, rfl⟩ := h
        simp [Builtin.append_, run_underlying ht, sizeOf, typeInfo, hi, Builtin.lenOf, Builtin.firstCells, hnc, storeCells]
    · exact key ad (fun j u hu => by simp at hu)
  · obtain ⟨b, off, rfl, _, hc⟩ := hr.2 h0
    exact key ⟨b, off, none⟩ (Rd.cells hr.1 hc)

theorem wp_appT (t : TypeId) (ht : Try.prog.underlying t = some (.slice 3)) {o : Oper} {a : Act} {K : Act → World → Prop} {Q : Exit → Act → World → Prop} {W : World} (s x : Operand)
    (ho : o.op = .call { callee := .builtin .append, args := #[s, x], argTypes := #[t, t] })
    {B n c : Nat} {A : Option Addr} {xs : List Int} (hs : a.eval s = .slice A n c) (hown : Own W B A n c xs) {A2 : Option Addr} {m c2 : Nat} {ys : List Int} (hx : a.eval x = .slice A2 m c2) (hr : Rd W A2 m ys) (hn : n + m ≤ 16777216) (hB : B ≤ W.heap.size)
    (h : ∀ A' c' W', Own W' B A' (n + m) c' (xs ++ ys) → W.grownBy W' (Value.slice A n c).ownBlock → K (a.put o.dst (.slice A' (n + m) c')) W') : o.wp Try.prog a W K Q := by
  obtain ⟨A', c', W', hrun, h2, h3⟩ := run_appT t ht hown c2 hr hn hB o.type
  unfold Oper.wp execOp
  simp only [ho, resolve, invoke, builtin, Sem.run_bind, Sem.run_pure, Result.andThen_ok, List.map_toArray, List.map_cons, List.map_nil, hs, hx, hrun]
  exact h A' c' W' h2 h3

theorem wpList_appT (t : TypeId) (ht : Try.prog.underlying t = some (.slice 3)) {ops : Array Oper} {rest : List Oper} {o : Oper} {a : Act} {Q : Exit → Act → World → Prop} {W : World} (hgd : o.guard = none) (s x : Operand)
    (ho : o.op = .call { callee := .builtin .append, args := #[s, x], argTypes := #[t, t] })
    {B n c : Nat} {A : Option Addr} {xs : List Int} (hs : a.eval s = .slice A n c) (hown : Own W B A n c xs) {A2 : Option Addr} {m c2 : Nat} {ys : List Int} (hx : a.eval x = .slice A2 m c2) (hr : Rd W A2 m ys) (hn : n + m ≤ 16777216) (hB : B ≤ W.heap.size)
    (h : ∀ A' c' W', Own W' B A' (n + m) c' (xs ++ ys) → W.grownBy W' (Value.slice A n c).ownBlock → wpList Try.prog ops Q rest (a.put o.dst (.slice A' (n + m) c')) W') : wpList Try.prog ops Q (o :: rest) a W :=
  wpList_plain hgd fun _ hK => wp_appT t ht s x ho hs hown hx hr hn hB fun A' c' W' h2 h3 => hK _ _ (h A' c' W' h2 h3)

theorem step_appT (t : TypeId) (ht : Try.prog.underlying t = some (.slice 3)) {ops : Array Oper} {o : Oper} {a : Act} {K : Act → World → Prop} {Q : Exit → Act → World → Prop} {E : Prop} {W : World} (hgd : o.guard = none) (s x : Operand)
    (ho : o.op = .call { callee := .builtin .append, args := #[s, x], argTypes := #[t, t] })
    {B n c : Nat} {A : Option Addr} {xs : List Int} (hs : a.eval s = .slice A n c) (hown : Own W B A n c xs) {A2 : Option Addr} {m c2 : Nat} {ys : List Int} (hx : a.eval x = .slice A2 m c2) (hr : Rd W A2 m ys) (hn : n + m ≤ 16777216) (hB : B ≤ W.heap.size)
    (h : ∀ A' c' W', Own W' B A' (n + m) c' (xs ++ ys) → W.grownBy W' (Value.slice A n c).ownBlock → K (a.put o.dst (.slice A' (n + m) c')) W') :
    if Region.wanted o (yielded ops a.tmps) = true then Oper.wp Try.prog o a W K Q else E := by
  have hw : Region.wanted o (yielded ops a.tmps) = true := by simp [Region.wanted, hgd]
  rw [if_pos hw]
  exact wp_appT t ht s x ho hs hown hx hr hn hB h

theorem wpList_app {ops : Array Oper} {rest : List Oper} {o : Oper} {a : Act} {Q : Exit → Act → World → Prop} {W : World} (hgd : o.guard = none) (s x : Operand)
    (ho : o.op = .call { callee := .builtin .append, args := #[s, x], argTypes := #[39, 39] })
    {B n c : Nat} {A : Option Addr} {xs : List Int} (hs : a.eval s = .slice A n c) (hown : Own W B A n c xs) {A2 : Option Addr} {m c2 : Nat} {ys : List Int} (hx : a.eval x = .slice A2 m c2) (hr : Rd W A2 m ys) (hn : n + m ≤ 16777216) (hB : B ≤ W.heap.size)
    (h : ∀ A' c' W', Own W' B A' (n + m) c' (xs ++ ys) → W.grownBy W' (Value.slice A n c).ownBlock → wpList Try.prog ops Q rest (a.put o.dst (.slice A' (n + m) c')) W') : wpList Try.prog ops Q (o :: rest) a W :=
  wpList_appT 39 Try.underlying39 hgd s x ho hs hown hx hr hn hB h
theorem step_app {ops : Array Oper} {o : Oper} {a : Act} {K : Act → World → Prop} {Q : Exit → Act → World → Prop} {E : Prop} {W : World} (hgd : o.guard = none) (s x : Operand)
    (ho : o.op = .call { callee := .builtin .append, args := #[s, x], argTypes := #[39, 39] })
    {B n c : Nat} {A : Option Addr} {xs : List Int} (hs : a.eval s = .slice A n c) (hown : Own W B A n c xs) {A2 : Option Addr} {m c2 : Nat} {ys : List Int} (hx : a.eval x = .slice A2 m c2) (hr : Rd W A2 m ys) (hn : n + m ≤ 16777216) (hB : B ≤ W.heap.size)
    (h : ∀ A' c' W', Own W' B A' (n + m) c' (xs ++ ys) → W.grownBy W' (Value.slice A n c).ownBlock → K (a.put o.dst (.slice A' (n + m) c')) W') :
    if Region.wanted o (yielded ops a.tmps) = true then Oper.wp Try.prog o a W K Q else E :=
  step_appT 39 Try.underlying39 hgd s x ho hs hown hx hr hn hB h

/-- A literal's row. -/
theorem Own.lit (w : World) {B : Nat} (hB : B ≤ w.heap.size) (xs : List Int) (hn : xs.length ≤ 16777216) : Own (w.alloc (.cells (ints xs).toArray 3)) B (some ⟨w.heap.size, 0, none⟩) xs.length xs.length xs := by
  have := World.ownsRow_lit (e := 3) (size := 1) w (ints xs).toArray xs.length hB (by unfold maxLen; omega) (by simp)
  simpa [Own] using this
theorem Own.al {w : World} {B n c : Nat} {A : Option Addr} {xs : List Int} (h : Own w B A n c xs) (o : Obj) : Own (w.alloc o) B A n c xs := World.ownsRow.alloc h o
theorem Own.dr {w : World} {B n c : Nat} {A : Option Addr} {xs : List Int} (h : Own w B A n c xs) : Own w.drew B A n c xs := h
theorem Own.drN {w : World} {B n c : Nat} {A : Option Addr} {xs : List Int} (h : Own w B A n c xs) (k : Nat) : Own (w.drewN k) B A n c xs := h
/-- One new cell that an append reads. -/
theorem rd_one (w : World) (v : Int) : Rd (w.alloc (.cells #[.int .i64 v] 3)) (some ⟨w.heap.size, 0, none⟩) 1 [v] :=
  (Own.lit w (Nat.le_refl _) [v] (by simp)).rd
theorem rd_oneD (w : World) (v : Int) : Rd (w.alloc (.cells #[.int .i64 v] 3)).drew (some ⟨w.heap.size, 0, none⟩) 1 [v] := rd_one w v
theorem rd_oneN (w : World) (v : Int) (k : Nat) : Rd ((w.alloc (.cells #[.int .i64 v] 3)).drewN k) (some ⟨w.heap.size, 0, none⟩) 1 [v] := rd_one w v
theorem rd_oneM (w : World) (v : Int) (k : Nat) : Rd ((w.drewN k).alloc (.cells #[.int .i64 v] 3)) (some ⟨w.heap.size, 0, none⟩) 1 [v] := rd_one (w.drewN k) v
theorem size_alM (w : World) (B : Nat) (o : Obj) (k : Nat) (h : B ≤ w.heap.size) : B ≤ ((w.drewN k).alloc o).heap.size := by
  rw [World.size_alloc]; show B ≤ w.heap.size + 1; omega
theorem size_alN (w : World) (B : Nat) (o : Obj) (k : Nat) (h : B ≤ w.heap.size) : B ≤ ((w.alloc o).drewN k).heap.size := by
  show B ≤ (w.alloc o).heap.size
  rw [World.size_alloc]; omega
theorem Own.cap {w : World} {B n c : Nat} {A : Option Addr} {xs : List Int} (h : Own w B A n c xs) : n ≤ c := by
  rcases h.2 with ⟨e, h0⟩ | ⟨g, cap, cur, e, _, _, hnc, _⟩
  · omega
  · injection e with _ _ e; omega
theorem Rd.al {w : World} {A : Option Addr} {n : Nat} {xs : List Int} (h : Rd w A n xs) (o : Obj) : Rd (w.alloc o) A n xs := h.same (below_alloc (Below.refl _ _) o)
theorem Rd.dr {w : World} {A : Option Addr} {n : Nat} {xs : List Int} (h : Rd w A n xs) : Rd w.drew A n xs := h
theorem Rd.drN {w : World} {A : Option Addr} {n : Nat} {xs : List Int} (h : Rd w A n xs) (k : Nat) : Rd (w.drewN k) A n xs := h
/-- A cut's numbers. -/
theorem Rd.take {w : World} {A : Option Addr} {n k : Nat} {xs : List Int} (h : Rd w A n xs) (hk : k ≤ n) : Rd w A k (xs.take k) := by
  refine ⟨by simp [h.1]; omega, fun h0 => ?_⟩
  obtain ⟨b, off, rfl, hb, hc⟩ := h.2 (by omega)
  refine ⟨b, off, rfl, hb, fun j hj => ?_⟩
  rw [hc j (by omega)]
  simp [List.getD_eq_getElem?_getD, hj]
theorem Rd.drop {w : World} {b off n k : Nat} {xs : List Int} (h : Rd w (some ⟨b, off, none⟩) n xs) (hk : k ≤ n) : Rd w (some ⟨b, off + k, none⟩) (n - k) (xs.drop k) := by
  refine ⟨by simp [h.1], fun h0 => ?_⟩
  obtain ⟨b', off', e, hb, hc⟩ := h.2 (by omega)
  simp only [Option.some.injEq, Addr.mk.injEq, and_true] at e
  obtain ⟨rfl, rfl⟩ := e
  refine ⟨b, off + k, rfl, hb, fun j hj => ?_⟩
  rw [Nat.add_assoc, hc (k + j) (by omega)]
  simp [List.getD_eq_getElem?_getD]
theorem Rd.kept {w w' : World} {A A2 : Option Addr} {n m c : Nat} {xs : List Int} (h : Rd w A2 m xs) (hg : w.grownBy w' (Value.slice A n c).ownBlock) (hne : ∀ b off, A2 = some ⟨b, off, none⟩ → (Value.slice A n c).ownBlock ≠ some b) : Rd w' A2 m xs := by
  refine ⟨h.1, fun h0 => ?_⟩
  obtain ⟨b, off, rfl, hb, hc⟩ := h.2 h0
  exact ⟨b, off, rfl, Nat.lt_of_lt_of_le hb hg.size, fun j hj => (World.cell?_of_block (a := ⟨b, off + j, none⟩) (hg.block b hb (fun e => hne b off rfl e.symm))).trans (hc j hj)⟩
/-- append as one step of a region that draws; the base is the world in which the region began. -/
theorem step_app2 {ops : Array Oper} {o : Oper} {a : Act} {K : Act → World → Prop} {Q : Exit → Act → World → Prop} {E : Prop} {W : World} (W0 : World) (hgd : o.guard = none) (s x : Operand)
    (ho : o.op = .call { callee := .builtin .append, args := #[s, x], argTypes := #[39, 39] })
    {n c : Nat} {A : Option Addr} (xs : List Int) (hs : a.eval s = .slice A n c) (hown : Own W W0.heap.size A n c xs) {A2 : Option Addr} {m : Nat} {c2 : Nat} (ys : List Int) (hx : a.eval x = .slice A2 m c2) (hr : Rd W A2 m ys) (hb : Below W0.heap.size W0 W) (hn : n + m ≤ 16777216)
    (h : ∀ A' c' W', Own W' W0.heap.size A' (n + m) c' (xs ++ ys) → Below W0.heap.size W0 W' → W.grownBy W' (Value.slice A n c).ownBlock → K (a.put o.dst (.slice A' (n + m) c')) W') :
    if Region.wanted o (yielded ops a.tmps) = true then Oper.wp Try.prog o a W K Q else E :=
  step_app hgd s x ho hs hown hx hr hn hb.size fun A' c' W' h1 h2 => h A' c' W' h1 (app_mark hb hown (Nat.le_refl _) h2) h2
end Go.Proofs.Ytkjhkcnmhakfcaa
