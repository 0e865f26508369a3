/- A region whose reading operations are taken first and whose last operations may come in several orders; any class of worlds. Nothing of the program. -/
import Derived.Test.YtegpidlhhneilaaDoorFloat
namespace Go.Proofs.YtegpidlhhneilaaDoor
open Go.Sort Go.RowKit
section
variable {F : Fence} {n : Nat} {P : Program} {ops : Array Oper} {md : Region.Mode} {C : World → Prop} {Q : Exit → Act → World → Prop}

/-- As wpPick, but with R at the end. -/
def wpPickR (F : Fence) (n : Nat) (P : Program) (ops : Array Oper) (C : World → Prop) (m : Nat) (Q : Exit → Act → World → Prop) (R : Act → World → Prop) : List (Bool × Nat × Oper) → Act → World → Prop
  | [], a, w => R a w
  | (true, _, o) :: rest, a, w => C w ∧ ∃ v, Reads P C o v a ∧ wpPickR F n P ops C m Q R rest (a.put o.dst v) w
  | (false, i, o) :: rest, a, w => wpStep F n P ops Q o a w (fun a' w' => (i < m → C w') ∧ wpPickR F n P ops C m Q R rest a' w')
def pickRB (md : Region.Mode) (ops : Array Oper) (m : Nat) : List (Bool × Nat) → Array Bool → Bool
  | [], _ => true
  | (true, i) :: rest, listed => (Region.ready md ops listed).contains i && Region.free md ops listed i && ((List.range ops.size).all fun j => decide (j = i) || waitsT md ops ops.size j i || decide (j < m)) && pickRB md ops m rest (listed.setIfInBounds i true)
  | (false, i) :: rest, listed => decide (Region.ready md ops listed = [i]) && pickRB md ops m rest (listed.setIfInBounds i true)
def lsEnd : List (Bool × Nat) → Array Bool → Array Bool
  | [], L => L
  | x :: r, L => lsEnd r (L.setIfInBounds x.2 true)
theorem pickR_any {m g : Nat} {E : Array Bool} (hsel : Region.noSelect ops = true) (hnd : noDefers ops = true) (hQ : ∀ c a t u w, Q (.panic c) (Act.put a t u) w → Q (.panic c) a w) :
    ∀ (l : List (Bool × Nat × Oper)) (listed : Array Bool) (a : Act) (w : World), (∀ x ∈ l, ops[x.2.1]? = some x.2.2) → HeadInv md ops ops.size listed →
    pickRB md ops m (l.map fun x => (x.1, x.2.1)) listed = true → lsEnd (l.map fun x => (x.1, x.2.1)) listed = E → wpPickR F n P ops C m Q (wpAnyC F n P md ops C m Q g E) l a w → wpAnyC F n P md ops C m Q (l.length + g) listed a w
  | [], listed, a, w, _, _, hB, hE, h => by
    obtain rfl : listed = E := hE
    rw [List.length_nil, Nat.zero_add]
    exact h
  | (true, i, o) :: l, listed, a, w, hl, inv, hB, hE, h => by
    have h0 : ops[i]? = some o := hl (true, i, o) (by simp)
    simp only [List.map_cons, pickRB, Bool.and_eq_true] at hB
    obtain ⟨⟨⟨hr, hf⟩, hlow⟩, hB'⟩ := hB
    obtain ⟨hC, v, hy, hK⟩ := h
    have H := pickR_any hsel hnd hQ l (listed.setIfInBounds i true) (a.put o.dst v) w (fun x hx => hl x (by simp [hx])) (inv.set (by simpa using hr) (Array.getElem?_eq_some_iff.1 h0).1) hB' hE hK
    rw [List.length_cons, show l.length + 1 + g = (l.length + g) + 1 by omega]
    refine anyC_first h0 (Region.noSelect_spec hsel) hnd hQ (fun j hj hjk => ?_) _ listed a w inv (Region.free_spec h0 hf) (by simpa using hr) hy hC H
    have h1 := List.all_eq_true.1 hlow j (List.mem_range.2 hj)
    simp only [Bool.or_eq_true, decide_eq_true_eq] at h1
    rcases h1 with (h1 | h1) | h1
    · exact absurd h1 hjk
    · exact .inl ⟨_, h1⟩
    · exact .inr h1
  | (false, i, o) :: l, listed, a, w, hl, inv, hB, hE, h => by
    have h0 : ops[i]? = some o := hl (false, i, o) (by simp)
    simp only [List.map_cons, pickRB, Bool.and_eq_true, decide_eq_true_eq] at hB
    have hri : i ∈ Region.ready md ops listed := by rw [hB.1]; simp
    rw [List.length_cons, show l.length + 1 + g = (l.length + g) + 1 by omega]
    refine ⟨fun h1 => (by rw [hB.1] at h1; cases h1), fun k hk => ?_⟩
    obtain rfl : k = i := by rw [hB.1] at hk; simpa using hk
    have hw : wpOpIn F n P ops Q k (fun a' w' => (k < m → C w') ∧ wpPickR F n P ops C m Q (wpAnyC F n P md ops C m Q g E) l a' w') a w := by
      unfold wpOpIn
      simp only [h0]
      exact h
    exact wpOpIn_mono (fun a' w' h' => ⟨h'.1, pickR_any hsel hnd hQ l (listed.setIfInBounds k true) a' w' (fun x hx => hl x (by simp [hx])) (inv.set hri (Array.getElem?_eq_some_iff.1 h0).1) hB.2 hE h'.2⟩) hw
/-- THE LAW: the operations at 'is' first; the rest, of which E tells what is listed, in whatever order. -/
theorem region_pickR {id : Nat} {a : Act} {w : World} {l : List Oper} (C : World → Prop) (m g : Nat) (is : List (Bool × Nat)) (E : Array Bool) (hm : P.follows .mixedOrders = true)
    (hB : (Region.noSelect l.toArray && noDefers l.toArray && (is.all fun x => decide (x.2 < l.length)) && decide (is.length + g = l.length) && pickRB .any l.toArray m is (Array.replicate l.toArray.size false)) = true) (hE : lsEnd is (Array.replicate l.toArray.size false) = E) (hQ : ∀ c a t u w, Q (.panic c) (Act.put a t u) w → Q (.panic c) a w)
    (h : wpPickR F n P l.toArray C m Q (wpAnyC F n P .any l.toArray C m Q g E) (pickOps l is) a { w with drawn := w.drawn + 1 }) : (Code.region id l.toArray true).wpIn F n P Q a w := by
  simp only [Bool.and_eq_true, decide_eq_true_eq] at hB
  obtain ⟨⟨⟨⟨hsel, hnd⟩, hall⟩, hlen⟩, hpk⟩ := hB
  have hmap : (pickOps l is).map (fun x => (x.1, x.2.1)) = is := by
    unfold pickOps
    rw [List.map_map]
    conv => rhs; rw [← List.map_id is]
    exact List.map_congr_left fun x _ => rfl
  have H := pickR_any (F := F) (n := n) (P := P) (md := .any) (C := C) (Q := Q) (m := m) (g := g) (E := E) hsel hnd hQ (pickOps l is) (Array.replicate l.toArray.size false) a { w with drawn := w.drawn + 1 }
    (fun x hx => by
      unfold pickOps at hx
      obtain ⟨y, hy, rfl⟩ := List.mem_map.1 hx
      have h1 := List.all_eq_true.1 hall y hy
      have h2 : y.2 < l.length := by simpa using h1
      simp [List.getD_eq_getElem?_getD, h2])
    ⟨by simp, fun j oj _ hl => (by rw [getD_replicate_false] at hl; cases hl), fun t h1 h2 => absurd h1 (Nat.not_le.2 h2)⟩ (by rw [hmap]; exact hpk) (by rw [hmap]; exact hE) h
  have e : (pickOps l is).length + g = l.toArray.size := by unfold pickOps; simp [hlen]
  rw [e] at H
  exact wpIn_region_any hm (any_of_C _ _ _ _ H)
theorem pickR_read {m i : Nat} {o : Oper} {R : Act → World → Prop} {rest : List (Bool × Nat × Oper)} {a : Act} {w : World} (hC : C w) (v : Value) (hg : o.guard = none) (hc : ∀ w, o.about P w a.eval = none) (hr : ∀ w, C w → (execOp a.eval o).run P w = .ok (.value v) w) (h : wpPickR F n P ops C m Q R rest (a.put o.dst v) w) : wpPickR F n P ops C m Q R ((true, i, o) :: rest) a w :=
  ⟨hC, v, ⟨hg, hc, hr⟩, h⟩
theorem pickR_step {m i : Nat} {o : Oper} {R : Act → World → Prop} {rest : List (Bool × Nat × Oper)} {a : Act} {w : World} (h : ∀ K : Act → World → Prop, (∀ a' w', (i < m → C w') → wpPickR F n P ops C m Q R rest a' w' → K a' w') → wpStep F n P ops Q o a w K) : wpPickR F n P ops C m Q R ((false, i, o) :: rest) a w := h _ fun _ _ h1 h2 => ⟨h1, h2⟩
theorem anyC_op {m f : Nat} {i : Nat} {o : Oper} {listed : Array Bool} {a : Act} {w : World} (h0 : ops[i]? = some o) (h : ∀ K : Act → World → Prop, (∀ a' w', (i < m → C w') → wpAnyC F n P md ops C m Q f (listed.setIfInBounds i true) a' w' → K a' w') → wpStep F n P ops Q o a w K) :
    wpOpIn F n P ops Q i (fun a' w' => (i < m → C w') ∧ wpAnyC F n P md ops C m Q f (listed.setIfInBounds i true) a' w') a w := by
  have hw := h (fun a' w' => (i < m → C w') ∧ wpAnyC F n P md ops C m Q f (listed.setIfInBounds i true) a' w') (fun _ _ h1 h2 => ⟨h1, h2⟩)
  unfold wpOpIn
  simp only [h0]
  exact hw
theorem anyC_one {m f : Nat} (i : Nat) {o : Oper} {listed : Array Bool} {a : Act} {w : World} (hr : Region.ready md ops listed = [i]) (h0 : ops[i]? = some o) (h : ∀ K : Act → World → Prop, (∀ a' w', (i < m → C w') → wpAnyC F n P md ops C m Q f (listed.setIfInBounds i true) a' w' → K a' w') → wpStep F n P ops Q o a w K) : wpAnyC F n P md ops C m Q (f + 1) listed a w :=
  ⟨fun e => (by rw [hr] at e; cases e), fun k hk => by
    obtain rfl : k = i := by rw [hr] at hk; simpa using hk
    exact anyC_op h0 h⟩
theorem anyC_two {m f : Nat} (i j : Nat) {o o' : Oper} {listed : Array Bool} {a : Act} {w : World} (hr : Region.ready md ops listed = [i, j]) (h0 : ops[i]? = some o) (h1 : ops[j]? = some o') (h : ∀ K : Act → World → Prop, (∀ a' w', (i < m → C w') → wpAnyC F n P md ops C m Q f (listed.setIfInBounds i true) a' w' → K a' w') → wpStep F n P ops Q o a w K)
    (h' : ∀ K : Act → World → Prop, (∀ a' w', (j < m → C w') → wpAnyC F n P md ops C m Q f (listed.setIfInBounds j true) a' w' → K a' w') → wpStep F n P ops Q o' a w K) : wpAnyC F n P md ops C m Q (f + 1) listed a w :=
  ⟨fun e => (by rw [hr] at e; cases e), fun k hk => by
    have : k = i ∨ k = j := by rw [hr] at hk; simpa using hk
    rcases this with rfl | rfl
    · exact anyC_op h0 h
    · exact anyC_op h1 h'⟩
theorem anyC_done {m f : Nat} {listed : Array Bool} {a : Act} {w : World} (hr : Region.ready md ops listed = []) (h : Q .normal a w) : wpAnyC F n P md ops C m Q f listed a w := by
  cases f with
  | zero => exact ⟨hr, h⟩
  | succ f => exact ⟨fun _ => h, fun k hk => by rw [hr] at hk; cases hk⟩
end
end Go.Proofs.YtegpidlhhneilaaDoor
