/- Slices of slices, known by their values; what is told of the rows abides while the outer slices grow. -/
import Derived.Test.YthpgenkdiokpeaaRowX
namespace Go.Proofs.Ythpgenkdiokpeaa
open Go.RowKit Go.Sort Go.Lib

/-- The blocks from lo to hi lie as they lay. -/
def SameIn (lo hi : Nat) (W W' : World) : Prop := ∀ k, lo ≤ k → k < hi → W'.heap[k]? = W.heap[k]?
/-- R holds whatever becomes of all blocks but those from lo to hi; two blocks that may grow lie outside. -/
def Hd (ob oc : Option Nat) (R : World → Prop) (W : World) : Prop :=
  ∃ lo hi, hi ≤ W.heap.size ∧ (∀ k, (ob = some k ∨ oc = some k) → k < lo ∨ hi ≤ k) ∧ ∀ W', W.heap.size ≤ W'.heap.size → SameIn lo hi W W' → R W'
section
variable {ob oc ob' oc' : Option Nat} {R : World → Prop} {W W' : World}
theorem Hd.out (h : Hd ob oc R W) : R W := by
  obtain ⟨lo, hi, h1, h2, h3⟩ := h
  exact h3 W (Nat.le_refl _) fun _ _ _ => rfl
theorem Hd.same (h : Hd ob oc R W) (hb : Below W.heap.size W W') : Hd ob oc R W' := by
  obtain ⟨lo, hi, h1, h2, h3⟩ := h
  exact ⟨lo, hi, Nat.le_trans h1 hb.size, h2, fun W2 hz hs => h3 W2 (Nat.le_trans hb.size hz) fun k k1 k2 => (hs k k1 k2).trans (hb.block k (by omega))⟩
theorem Hd.grow {row : Option Nat} (h : Hd ob oc R W) (hg : W.grownBy W' row) (hrow : row = ob ∨ row = oc) (hb : ob' = ob ∨ ∃ k, ob' = some k ∧ W.heap.size ≤ k) (hc : oc' = oc ∨ ∃ k, oc' = some k ∧ W.heap.size ≤ k) : Hd ob' oc' R W' := by
  obtain ⟨lo, hi, h1, h2, h3⟩ := h
  refine ⟨lo, hi, Nat.le_trans h1 hg.size, fun k hk => ?_, fun W2 hz hs => h3 W2 (Nat.le_trans hg.size hz) fun k k1 k2 => (hs k k1 k2).trans (hg.block k (by omega) fun e => ?_)⟩
  · rcases hk with hk | hk
    · rcases hb with e | ⟨j, e, hj⟩
      · exact h2 k (.inl (e ▸ hk))
      · rw [e] at hk; cases hk; right; omega
    · rcases hc with e | ⟨j, e, hj⟩
      · exact h2 k (.inr (e ▸ hk))
      · rw [e] at hk; cases hk; right; omega
  · have : ob = some k ∨ oc = some k := by rcases hrow with r | r <;> rw [r] at e <;> simp [e]
    have := h2 k this
    omega
theorem Hd.new (lo : Nat) (h : ∀ W', W.heap.size ≤ W'.heap.size → SameIn lo W.heap.size W W' → R W') (ho : ∀ k, (ob = some k ∨ oc = some k) → k < lo) : Hd ob oc R W := ⟨lo, _, Nat.le_refl _, fun k hk => .inl (ho k hk), h⟩
theorem Hd.arg {W0 : World} (hb : Below W0.heap.size W0 W) (h : ∀ W', W0.heap.size ≤ W'.heap.size → SameIn 0 W0.heap.size W0 W' → R W') (ho : ∀ k, (ob = some k ∨ oc = some k) → W0.heap.size ≤ k) : Hd ob oc R W :=
  ⟨0, _, hb.size, fun k hk => .inr (ho k hk), fun W' hz hs => h W' (Nat.le_trans hb.size hz) fun k k1 k2 => (hs k k1 k2).trans (hb.block k k2)⟩
end

theorem Rd.moved {lo : Nat} {w w' : World} {A : Option Addr} {n : Nat} {xs : List Int} (h : Rd w A n xs) (hlo : lo = 0) (hz : w.heap.size ≤ w'.heap.size) (hs : SameIn lo w.heap.size w w') : Rd w' A n xs :=
  ⟨h.1, fun hn => by
    obtain ⟨b, off, rfl, hlt, hc⟩ := h.2 hn
    exact ⟨b, off, rfl, by omega, fun j hj => (World.cell?_of_block (a := ⟨b, off + j, none⟩) (hs b (by omega) hlt)).trans (hc j hj)⟩⟩
theorem RdM.moved {w w' : World} {A : Option Addr} {n : Nat} {L : List (List Int)} (h : RdM w A n L) (hz : w.heap.size ≤ w'.heap.size) (hs : SameIn 0 w.heap.size w w') : RdM w' A n L :=
  ⟨h.1, fun hn => by
    obtain ⟨b, off, rfl, hlt, hc⟩ := h.2 hn
    refine ⟨b, off, rfl, by omega, fun j hj => ?_⟩
    obtain ⟨A', c', h1, h2⟩ := hc j hj
    exact ⟨A', c', (World.cell?_of_block (a := ⟨b, off + j, none⟩) (hs b (by omega) hlt)).trans h1, h2.moved rfl hz hs⟩⟩
theorem owns_moved {w w' : World} {B n sz : Nat} {E : TypeId} {v : Value} {xs : List Value} (h : w.ownsRow B E sz v n xs) (hs : SameIn B w.heap.size w w') : w'.ownsRow B E sz v n xs := by
  refine ⟨h.1, ?_⟩
  rcases h.2 with e | ⟨g, cap, cur, e, hb, hh, r⟩
  · exact .inl e
  · exact .inr ⟨g, cap, cur, e, hb, (hs g hb (Array.getElem?_eq_some_iff.1 hh).1).trans hh, r⟩
theorem OwnM.moved {w w' : World} {B n c : Nat} {A : Option Addr} {gs : List Nat} {L : List (List Int)} (h : OwnM w B A n c gs L) (hs : SameIn B w.heap.size w w') : OwnM w' B A n c gs L :=
  ⟨owns_moved h.row hs, h.len, h.nodup, fun i hi => ⟨(h.rows i hi).1, (hs _ (h.rows i hi).1 (h.rows i hi).2.lt).trans (h.rows i hi).2.1, (h.rows i hi).2.2⟩⟩

/-- The call's own slice of slices. -/
def OwnS (E : TypeId) (w : World) (B : Nat) (A : Option Addr) (n c : Nat) (vs : List Value) : Prop := w.ownsRow B E 1 (.slice A n c) n vs ∧ ∀ v ∈ vs, ∃ A m c, v = .slice A m c
theorem OwnS.one (E : TypeId) (w : World) {B : Nat} (hB : B ≤ w.heap.size) {A : Option Addr} {m c : Nat} : OwnS E (w.alloc (.cells #[.slice A m c] E)) B (some ⟨w.heap.size, 0, none⟩) 1 1 [.slice A m c] :=
  ⟨⟨rfl, .inr ⟨w.heap.size, 1, _, rfl, hB, World.alloc_heap_new w _, Nat.le_refl _, by unfold maxLen; omega, rfl, rfl⟩⟩, fun v hv => ⟨A, m, c, by simpa using hv⟩⟩
theorem OwnS.empty (E : TypeId) (w : World) {B : Nat} (hB : B ≤ w.heap.size) : OwnS E (w.alloc (.cells #[] E)) B (some ⟨w.heap.size, 0, none⟩) 0 0 [] :=
  ⟨⟨rfl, .inr ⟨w.heap.size, 0, _, rfl, hB, World.alloc_heap_new w _, Nat.le_refl _, by unfold maxLen; omega, rfl, rfl⟩⟩, fun _ hv => by cases hv⟩
theorem OwnS.nil_ (E : TypeId) (w : World) (B : Nat) : OwnS E w B none 0 0 [] := ⟨⟨rfl, .inl ⟨rfl, rfl⟩⟩, fun _ hv => by cases hv⟩
section
variable {E : TypeId} {w w' : World} {B n c : Nat} {A : Option Addr} {vs : List Value}
theorem OwnS.len (h : OwnS E w B A n c vs) : vs.length = n := by simpa using h.1.1
theorem OwnS.blk (h : OwnS E w B A n c vs) : ∀ k, (Value.slice A n c).ownBlock = some k → B ≤ k ∧ k < w.heap.size := fun k e => h.1.lt k e
theorem OwnS.kept {row : Option Nat} (h : OwnS E w B A n c vs) (hg : w.grownBy w' row) (hr : ∀ k, (Value.slice A n c).ownBlock = some k → row ≠ some k) : OwnS E w' B A n c vs := by
  refine ⟨h.1.kept hg ?_, h.2⟩
  cases hb : (Value.slice A n c).ownBlock with
  | none => exact .inl rfl
  | some k => exact .inr (fun e => hr k hb e.symm)
theorem OwnS.same (h : OwnS E w B A n c vs) (hb : Below w.heap.size w w') : OwnS E w' B A n c vs := h.kept (grown_of_below hb) (fun k _ e => by cases e)
theorem OwnS.at (h : OwnS E w B A n c vs) {j : Nat} (hj : j < n) : ∃ g, A = some ⟨g, 0, none⟩ ∧ g < w.heap.size ∧ w.cell? ⟨g, j, none⟩ = vs[j]? := by
  have hrow := h.1
  have hn := h.len
  rcases h.1.2 with ⟨e, e0⟩ | ⟨g, cap, cur, e, hb, hh, _⟩
  · omega
  · obtain ⟨rfl, rfl⟩ : A = some ⟨g, 0, none⟩ ∧ c = cap := by injection e with a b c; exact ⟨a, c⟩
    exact ⟨g, rfl, (Array.getElem?_eq_some_iff.1 hh).1, by rw [World.ownsRow.cellAt hrow j (by omega)]⟩
/-- Two slices that own blocks of other types own other blocks. -/
theorem owns_apart {E E2 : TypeId} {w : World} {B B2 n c n2 c2 sz sz2 : Nat} {A A2 : Option Addr} {xs ys : List Value} (h : w.ownsRow B E sz (.slice A n c) n xs) (h2 : w.ownsRow B2 E2 sz2 (.slice A2 n2 c2) n2 ys) (hE : E ≠ E2) : ∀ k, (Value.slice A n c).ownBlock = some k → (Value.slice A2 n2 c2).ownBlock ≠ some k := by
  intro k hk hk2
  rcases h.2 with ⟨e, _⟩ | ⟨g, cap, cur, e, _, hh, _⟩
  · rw [e] at hk; cases hk
  · rcases h2.2 with ⟨e2, _⟩ | ⟨g2, cap2, cur2, e2, _, hh2, _⟩
    · rw [e2] at hk2; cases hk2
    · rw [e] at hk; rw [e2] at hk2
      simp only [Value.ownBlock, Option.some.injEq] at hk hk2
      subst hk hk2
      rw [hh] at hh2
      simp only [Option.some.injEq, Obj.cells.injEq] at hh2
      exact hE hh2.2.1

/-- append of one slice. -/
theorem wpList_appS {S : TypeId} (hS : Try.prog.underlying S = some (.slice E)) (hE : (Try.prog.info? E).map (fun i => (i.zero, i.size, i.bytes)) = some (some (.slice none 0 0), 1, 24))
    {ops : Array Oper} {rest : List Oper} {o : Oper} {a : Act} {Q : Exit → Act → World → Prop} {W : World} (hgd : o.guard = none) (s x : Operand)
    (ho : o.op = .call { callee := .builtin .append, args := #[s, x], argTypes := #[S, S] })
    (hs : a.eval s = .slice A n c) (hown : OwnS E W B A n c vs) {b : Nat} {A1 : Option Addr} {m1 c1 : Nat} (hx : a.eval x = .slice (some ⟨b, 0, none⟩) 1 1) (hc : W.cell? ⟨b, 0, none⟩ = some (.slice A1 m1 c1)) (hn : n + 1 ≤ 1000000) (hB : B ≤ W.heap.size)
    (h : ∀ A' c' W', OwnS E W' B A' (n + 1) c' (vs ++ [.slice A1 m1 c1]) → W.grownBy W' (Value.slice A n c).ownBlock → ((Value.slice A' (n + 1) c').ownBlock = (Value.slice A n c).ownBlock ∨ ∃ k, (Value.slice A' (n + 1) c').ownBlock = some k ∧ W.heap.size ≤ k) → wpList Try.prog ops Q rest (a.put o.dst (.slice A' (n + 1) c')) W') : wpList Try.prog ops Q (o :: rest) a W := by
  obtain ⟨i0, hi, hz0, hz1, hz2⟩ := info_parts hE
  refine Go.wpList_append_own_at W hgd s x S ho B E i0 (.slice none 0 0) 1 24 hS hi hz0 hz1 hz2 rfl (by decide) _ n vs hs hown.1 ⟨b, 0, none⟩ 1 1 [.slice A1 m1 c1] hx rfl (fun j u hu => ?_) (fun u hu => ?_) (by unfold maxLen; omega) (by omega) hB fun v' w' r1 g1 _ at1 => ?_
  · match j, hu with
    | 0, hu =>
      obtain rfl : Value.slice A1 m1 c1 = u := by simpa using hu
      exact hc
  · obtain rfl : u = Value.slice A1 m1 c1 := by simpa using hu
    rfl
  · obtain ⟨A', c', rfl⟩ : ∃ A' c', v' = .slice A' (n + 1) c' := by
      rcases r1.2 with ⟨e, e0⟩ | ⟨g', cap, cur, e, _⟩
      · omega
      · exact ⟨_, _, e⟩
    exact h A' c' w' ⟨r1, fun v hv => (List.mem_append.1 hv).elim (hown.2 v) (fun hv => ⟨A1, m1, c1, by simpa using hv⟩)⟩ g1 (at1.imp id fun e => ⟨_, e, Nat.le_refl _⟩)
end
end Go.Proofs.Ythpgenkdiokpeaa
