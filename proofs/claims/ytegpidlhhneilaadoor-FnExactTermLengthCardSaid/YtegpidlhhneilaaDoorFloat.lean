/- Joined: Float, Pick. -/
import Derived.Test.YtegpidlhhneilaaDoorQuiTail
/- A region in a round whose first operations only read, and may come up late: read first, in the text's order; what may come up before them leaves the world alone but for new blocks. Nothing of the program. -/
namespace Go.Proofs.YtegpidlhhneilaaDoor
open Go.Sort Go.RowKit
section
variable {F : Fence} {n : Nat} {P : Program} {ops : Array Oper} {md : Region.Mode} {C : World → Prop} {Q : Exit → Act → World → Prop}

/-- Whatever order is picked; and behind each operation below m the world is of the class. -/
def wpAnyC (F : Fence) (n : Nat) (P : Program) (md : Region.Mode) (ops : Array Oper) (C : World → Prop) (m : Nat) (Q : Exit → Act → World → Prop) : Nat → Array Bool → Act → World → Prop
  | 0, listed, a, w => Region.ready md ops listed = [] ∧ Q .normal a w
  | f + 1, listed, a, w => (Region.ready md ops listed = [] → Q .normal a w) ∧
    ∀ i ∈ Region.ready md ops listed, wpOpIn F n P ops Q i (fun a' w' => (i < m → C w') ∧ wpAnyC F n P md ops C m Q f (listed.setIfInBounds i true) a' w') a w
theorem any_of_C {m : Nat} : ∀ (f : Nat) (listed : Array Bool) (a : Act) (w : World), wpAnyC F n P md ops C m Q f listed a w → wpAnyIn F n P md ops Q f listed a w
  | 0, _, _, _, h => h
  | f + 1, _, _, _, h => ⟨h.1, fun i hi => wpOpIn_mono (fun a' w' h' => any_of_C f _ a' w' h'.2) (h.2 i hi)⟩

/-- In state a the operation reads v, in every world of the class. -/
structure Reads (P : Program) (C : World → Prop) (o : Oper) (v : Value) (a : Act) : Prop where
  guard : o.guard = none
  calls : ∀ w, o.about P w a.eval = none
  run : ∀ w, C w → (execOp a.eval o).run P w = .ok (.value v) w
theorem Reads.op {i : Nat} {o : Oper} {v : Value} {a : Act} {K : Act → World → Prop} {w : World} (hr : Reads P C o v a) (hi : ops[i]? = some o) (hnd : ∀ c, o.op ≠ .defer c) (hC : C w) (h : K (a.put o.dst v) w) : wpOpIn F n P ops Q i K a w := by
  unfold wpOpIn
  simp only [hi]
  rw [if_pos (by simp [Region.wanted, hr.guard])]
  have hab : ∀ f, o.about P w a.eval = some f → F.fn f := fun f hf => by rw [hr.calls w] at hf; cases hf
  unfold Oper.wpIn
  refine ⟨hab, ?_⟩
  rw [Oper.semAt_eq F.round _ _ hnd, hr.run w hC]
  exact h
theorem Reads.put {oi oj : Oper} {v u : Value} {a : Act} (hr : Reads P C oi v a) (hs : ∀ cs b, oi.op ≠ .select cs b) (hap : oi.apart ops oj = true) : Reads P C oi v (a.put oj.dst u) := by
  obtain ⟨_, _, h3⟩ := Oper.apart_spec hap
  exact ⟨hr.guard, fun w => by rw [about_put (ops := ops) oi w a oj.dst u h3]; exact hr.calls w, fun w hw => by rw [execOp_put (ops := ops) oi hs a oj.dst u h3]; exact hr.run w hw⟩

/-- An operation apart from one that has read: it may as well come ahead of it. -/
theorem op_ahead {j : Nat} {oi oj : Oper} {v : Value} (hnd : ∀ c, oj.op ≠ .defer c) (hj : ops[j]? = some oj) (hap : oi.apart ops oj = true) (hsj : ∀ cs b, oj.op ≠ .select cs b)
    (hQ : ∀ c a w, Q (.panic c) (a.put oi.dst v) w → Q (.panic c) a w) {K : Act → World → Prop} {a : Act} {w : World} (hsi : ∀ cs b, oi.op ≠ .select cs b) (hr : Reads P C oi v a) (h : wpOpIn F n P ops Q j K (a.put oi.dst v) w) :
    wpOpIn F n P ops Q j (fun a' w' => Reads P C oi v a' ∧ K (a'.put oi.dst v) w') a w := by
  obtain ⟨h1, h2, _⟩ := Oper.apart_spec hap
  unfold wpOpIn at *
  simp only [hj] at *
  rw [wanted_put oj a oi.dst v h1, about_put oj w a oi.dst v h1] at h
  by_cases hw : Region.wanted oj (yielded ops a.tmps) = true
  · rw [if_pos hw] at h ⊢
    obtain ⟨ha, h⟩ := h
    rw [about_put oj w a oi.dst v h1] at ha
    refine ⟨ha, ?_⟩
    rw [Oper.semAt_eq F.round _ _ hnd, execOp_put oj hsj a oi.dst v h1] at h
    rw [Oper.semAt_eq F.round _ _ hnd]
    revert h
    generalize (execOp a.eval oj).run P w = r at *
    intro h
    match r, h with
    | .ok (.value u) w', h => exact ⟨hr.put hsi hap, by rw [← Act.put_comm a v u h2]; exact h⟩
    | .ok .skip w', h => exact ⟨hr.put hsi hap, by rw [← Act.put_comm a v undef h2]; exact h⟩
    | .ok (.defer d) w', h =>
      have hd : Reads P C oi v { a with defers := d :: a.defers } := ⟨hr.guard, hr.calls, hr.run⟩
      exact ⟨hd.put hsi hap, by rw [← Act.put_comm _ v undef h2, ← Act.put_defers]; exact h⟩
    | .ok (.enter f args) w', h =>
      refine ⟨h.1, CallsIn.mono h.2 fun e w'' he => ?_⟩
      match e, he with
      | .returned u, he => exact ⟨hr.put hsi hap, by rw [← Act.put_comm a v u h2]; exact he⟩
      | .panicked c, he => exact hQ _ _ _ he
      | .outgrown, he => exact he
    | .ok (.row row args) w', h => exact ⟨h.1, RowsIn.mono h.2 fun u w'' he => ⟨hr.put hsi hap, by rw [← Act.put_comm a v u h2]; exact he⟩⟩
    | .ok (.round l f tmps assign body) w', h =>
      refine ⟨h.1, RoundIn.mono h.2 fun e w'' he => ?_⟩
      match e, he with
      | .returned u, he => exact ⟨hr.put hsi hap, by rw [← Act.put_comm a v u h2]; exact he⟩
      | .panicked c, he => exact hQ _ _ _ he
      | .outgrown, he => exact he
    | .halt (.panic v') w', h => exact hQ _ _ _ h
  · rw [if_neg hw] at h ⊢
    exact ⟨h.1, hr.put hsi hap, by rw [← Act.put_comm a v undef h2]; exact h.2⟩

/-- Operation j waits for i, or for one that does. -/
def waitsT (md : Region.Mode) (ops : Array Oper) : Nat → Nat → Nat → Bool
  | 0, _, _ => false
  | f + 1, j, i => match ops[j]? with
    | some oj => oj.after.any fun e => Region.binds md e && (decide (e.on = i) || waitsT md ops f e.on i)
    | none => false
theorem waitsT_no {i : Nat} {listed : Array Bool} (inv : HeadInv md ops ops.size listed) (hi : listed.getD i true = false) : ∀ (f j : Nat) (oj : Oper), ops[j]? = some oj → (∀ e ∈ oj.after, Region.binds md e = true → listed.getD e.on false = true) → waitsT md ops f j i = false
  | 0, _, _, _, _ => rfl
  | f + 1, j, oj, hj, hall => by
    unfold waitsT
    simp only [hj]
    cases h : oj.after.any fun e => Region.binds md e && (decide (e.on = i) || waitsT md ops f e.on i) with
    | false => rfl
    | true =>
      obtain ⟨e, he, h1⟩ := Array.any_eq_true'.1 h
      simp only [Bool.and_eq_true, Bool.or_eq_true, decide_eq_true_eq] at h1
      have h2 := hall e he h1.1
      rcases h1.2 with h3 | h3
      · rw [h3, getD_both hi] at h2; cases h2
      · have hlt : e.on < ops.size := by
          rw [← inv.size]
          rcases Nat.lt_or_ge e.on listed.size with h4 | h4
          · exact h4
          · rw [Array.getD_eq_getD_getElem?, Array.getElem?_eq_none h4] at h2; cases h2
        have h5 : ops[e.on]? = some ops[e.on] := by simp [hlt]
        rw [waitsT_no inv hi f e.on _ h5 (fun e' he' hb' => inv.closed e.on _ h5 h2 e' he' hb')] at h3
        cases h3

/-- A reading operation that may come up now may be taken first, if what may come up before it leaves a world of the class. -/
theorem anyC_first {m i : Nat} {oi : Oper} {v : Value} (hi : ops[i]? = some oi) (hsel : ∀ (j : Nat) (o : Oper) cs b, ops[j]? = some o → o.op ≠ .select cs b) (hnd : noDefers ops = true)
    (hQ : ∀ c a t u w, Q (.panic c) (Act.put a t u) w → Q (.panic c) a w) (hlow : ∀ j, j < ops.size → j ≠ i → (∃ g, waitsT md ops g j i = true) ∨ j < m) (f : Nat) :
    ∀ (listed : Array Bool) (a : Act) (w : World), HeadInv md ops ops.size listed →
      (∀ j oj, ops[j]? = some oj → j ≠ i → listed.getD j true = false → (∀ e ∈ oj.after, Region.binds md e = true → e.on ≠ i) → oi.apart ops oj = true) →
      i ∈ Region.ready md ops listed → Reads P C oi v a → C w →
      wpAnyC F n P md ops C m Q f (listed.setIfInBounds i true) (a.put oi.dst v) w → wpAnyC F n P md ops C m Q (f + 1) listed a w := by
  induction f with
  | zero =>
    intro listed a w _ _ hr hy hC H
    refine ⟨fun h => absurd h (List.ne_nil_of_mem hr), fun j hj => ?_⟩
    by_cases hji : j = i
    · subst hji; exact hy.op hi (noDefers_at hnd hi) hC ⟨fun _ => hC, H⟩
    · have := ready_mono hj hji
      rw [H.1] at this
      cases this
  | succ f ih =>
    intro listed a w inv hfree hr hy hC H
    refine ⟨fun h => absurd h (List.ne_nil_of_mem hr), fun j hj => ?_⟩
    by_cases hji : j = i
    · subst hji; exact hy.op hi (noDefers_at hnd hi) hC ⟨fun _ => hC, H⟩
    · obtain ⟨hjun, oj, hoj, hall⟩ := mem_ready.1 hj
      have hun := (mem_ready.1 hr).1
      have hap : oi.apart ops oj = true := hfree j oj hoj hji hjun fun e he hb heq => by
        have h1 := hall e he hb
        rw [heq, getD_both hun] at h1
        cases h1
      have hjs : j < ops.size := (Array.getElem?_eq_some_iff.1 hoj).1
      have hjm : j < m := by
        rcases hlow j hjs hji with ⟨g, h1⟩ | h1
        · rw [waitsT_no inv hun g j oj hoj hall] at h1; cases h1
        · exact h1
      refine wpOpIn_mono (fun a' w' h3 => ?_) (op_ahead (noDefers_at hnd hoj) hoj hap (fun cs b => hsel j oj cs b hoj) (fun c a w h => hQ c a _ _ w h) (fun cs b => hsel i oi cs b hi) hy (H.2 j (ready_mono hj hji)))
      obtain ⟨hy', hC', h4⟩ := h3
      refine ⟨hC', ih (listed.setIfInBounds j true) a' w' (inv.set hj hjs) (fun k ok hk hki hunk hno => ?_) (ready_mono hr (Ne.symm hji)) hy' (hC' hjm) (by rw [Array.setIfInBounds_comm _ _ hji]; exact h4)⟩
      refine hfree k ok hk hki ?_ hno
      by_cases hjk : j = k
      · subst hjk; exact hjun
      · rwa [getD_set_ne true hjk] at hunk

/-- The operations that follow one by one. -/
def wpListC (F : Fence) (n : Nat) (P : Program) (ops : Array Oper) (C : World → Prop) (m : Nat) (Q : Exit → Act → World → Prop) : List Oper → Nat → Act → World → Prop
  | [], _, a, w => Q .normal a w
  | o :: rest, k, a, w =>
    if Region.wanted o (yielded ops a.tmps) then o.wpIn F n P a w (fun a' w' => (k < m → C w') ∧ wpListC F n P ops C m Q rest (k + 1) a' w') Q
    else (∀ f, o.about P w a.eval = some f → F.fn f) ∧ ((k < m → C w) ∧ wpListC F n P ops C m Q rest (k + 1) (a.put o.dst undef) w)
theorem listC_any {m : Nat} : ∀ (l : List Oper) (k : Nat) (listed : Array Bool) (a : Act) (w : World), (∀ j, l[j]? = ops[k + j]?) →
    Region.seqB md ops l.length k listed = true → wpListC F n P ops C m Q l k a w → wpAnyC F n P md ops C m Q l.length listed a w
  | [], _, _, _, _, _, hB, h => ⟨by simpa [Region.seqB] using hB, h⟩
  | o :: l, k, listed, a, w, hl, hB, h => by
    have h0 : ops[k]? = some o := by simpa using (hl 0).symm
    simp only [List.length_cons, Region.seqB, Bool.and_eq_true, decide_eq_true_eq] at hB
    refine ⟨fun h1 => (by rw [hB.1] at h1; cases h1), fun i hi => ?_⟩
    obtain rfl : i = k := by rw [hB.1] at hi; simpa using hi
    have hw : wpOpIn F n P ops Q i (fun a' w' => (i < m → C w') ∧ wpListC F n P ops C m Q l (i + 1) a' w') a w := by unfold wpOpIn; simp only [h0]; exact h
    exact wpOpIn_mono (fun a' w' h' => ⟨h'.1, listC_any l (i + 1) _ a' w' (fun j => by have := hl (j + 1); simpa [Nat.add_assoc, Nat.add_comm 1 j] using this) hB.2 h'.2⟩) hw
/-- Behind m it is the walk of a list. -/
theorem listC_of {m : Nat} : ∀ (l : List Oper) (k : Nat) (a : Act) (w : World), m ≤ k → wpListIn F n P ops Q l a w → wpListC F n P ops C m Q l k a w
  | [], _, _, _, _, h => h
  | o :: l, k, a, w, hk, h => by
    unfold wpListC
    unfold wpListIn at h
    by_cases hw : Region.wanted o (yielded ops a.tmps) = true
    · rw [if_pos hw] at h ⊢
      exact Oper.wpIn_mono (fun a' w' h' => ⟨fun e => absurd e (by omega), listC_of l (k + 1) a' w' (by omega) h'⟩) h
    · rw [if_neg hw] at h ⊢
      exact ⟨h.1, fun e => absurd e (by omega), listC_of l (k + 1) _ w (by omega) h.2⟩

/-- The reading operations, in the text's order. -/
def wpReads (P : Program) (C : World → Prop) (K : Act → Prop) : List Oper → Act → Prop
  | [], a => K a
  | o :: rest, a => ∃ v, Reads P C o v a ∧ wpReads P C K rest (a.put o.dst v)
def floatB (md : Region.Mode) (ops : Array Oper) (m g : Nat) : Nat → Nat → Array Bool → Bool
  | 0, k, listed => Region.seqB md ops g k listed
  | f + 1, k, listed => (Region.ready md ops listed).contains k && Region.free md ops listed k && ((List.range ops.size).all fun j => decide (j = k) || waitsT md ops ops.size j k || decide (j < m)) && floatB md ops m g f (k + 1) (listed.setIfInBounds k true)
theorem reads_any {m g : Nat} (hsel : Region.noSelect ops = true) (hnd : noDefers ops = true) (hQ : ∀ c a t u w, Q (.panic c) (Act.put a t u) w → Q (.panic c) a w) {tl : List Oper} {q : Nat} (htl : ∀ j, tl[j]? = ops[q + j]?) (hg : tl.length = g) {w : World} (hC : C w) :
    ∀ (l : List Oper) (k : Nat) (listed : Array Bool) (a : Act), (∀ j, j < l.length → l[j]? = ops[k + j]?) → k + l.length = q → HeadInv md ops ops.size listed →
    floatB md ops m g l.length k listed = true → wpReads P C (fun a' => wpListC F n P ops C m Q tl q a' w) l a →
    wpAnyC F n P md ops C m Q (l.length + g) listed a w
  | [], k, listed, a, _, hk, _, hB, h => by
    obtain rfl : k = q := by simpa using hk
    subst hg
    rw [List.length_nil, Nat.zero_add]
    exact listC_any tl k listed a w htl (by simpa [floatB] using hB) h
  | o :: l, k, listed, a, hl, hk, inv, hB, h => by
    have h0 : ops[k]? = some o := by simpa using (hl 0 (by simp)).symm
    simp only [List.length_cons, floatB, Bool.and_eq_true] at hB
    obtain ⟨⟨⟨hr, hf⟩, hlow⟩, hB'⟩ := hB
    obtain ⟨v, hy, hK⟩ := h
    have H := reads_any hsel hnd hQ htl hg hC l (k + 1) (listed.setIfInBounds k true) (a.put o.dst v) (fun j hj => by have := hl (j + 1) (by simp; omega); simpa [Nat.add_assoc, Nat.add_comm 1 j] using this) (by simp only [List.length_cons] at hk; omega) (inv.set (by simpa using hr) (Array.getElem?_eq_some_iff.1 h0).1) hB' hK
    rw [List.length_cons, show l.length + 1 + g = (l.length + g) + 1 by omega]
    refine anyC_first h0 (Region.noSelect_spec hsel) hnd hQ (fun j hj hjk => ?_) _ listed a w inv (Region.free_spec h0 hf) (by simpa using hr) hy hC H
    have h1 := List.all_eq_true.1 hlow j (List.mem_range.2 hj)
    simp only [Bool.or_eq_true, decide_eq_true_eq] at h1
    rcases h1 with (h1 | h1) | h1
    · exact absurd h1 hjk
    · exact .inl ⟨_, h1⟩
    · exact .inr h1

/-- THE LAW: the first q operations read; those below m that come before them leave a world of the class. -/
theorem region_float {id : Nat} {a : Act} {w : World} {l : List Oper} (q m : Nat) (hm : P.follows .mixedOrders = true)
    (hB : (Region.noSelect l.toArray && noDefers l.toArray && decide (q ≤ l.length) && floatB .any l.toArray m (l.drop q).length (l.take q).length 0 (Array.replicate l.toArray.size false)) = true) (hQ : ∀ c a t u w, Q (.panic c) (Act.put a t u) w → Q (.panic c) a w)
    (h : wpReads P (Rg w) (fun a' => wpListC F n P l.toArray (Rg w) m Q (l.drop q) q a' { w with drawn := w.drawn + 1 }) (l.take q) a) : (Code.region id l.toArray true).wpIn F n P Q a w := by
  simp only [Bool.and_eq_true, decide_eq_true_eq] at hB
  obtain ⟨⟨⟨hsel, hnd⟩, hq⟩, hfl⟩ := hB
  have hC0 : Rg w { w with drawn := w.drawn + 1 } := ⟨⟨w.drawn + 1, #[]⟩, by rw [grow_empty]; rfl⟩
  have H := reads_any (F := F) (n := n) (P := P) (md := .any) (tl := l.drop q) (q := q) hsel hnd hQ (fun j => by simp [List.getElem?_drop]) rfl hC0 (l.take q) 0 _ a (fun j hj => by
    have hj' : j < q := by simp at hj; omega
    simp [hj']) (by simp; omega) ⟨by simp, fun j oj _ hl => (by rw [getD_replicate_false] at hl; cases hl), fun t h1 h2 => absurd h1 (by omega)⟩ hfl h
  have e : (l.take q).length + (l.drop q).length = l.toArray.size := by simp; omega
  rw [e] at H
  exact wpIn_region_any hm (any_of_C _ _ _ _ H)
end
end Go.Proofs.YtegpidlhhneilaaDoor

/- A region whose reading operations, wherever they stand, are taken first; the others follow one by one. Nothing of the program. -/
namespace Go.Proofs.YtegpidlhhneilaaDoor
open Go.Sort Go.RowKit
section
variable {F : Fence} {n : Nat} {P : Program} {ops : Array Oper} {md : Region.Mode} {C : World → Prop} {Q : Exit → Act → World → Prop}

/-- One operation, which alone may come up. -/
def wpStep (F : Fence) (n : Nat) (P : Program) (ops : Array Oper) (Q : Exit → Act → World → Prop) (o : Oper) (a : Act) (w : World) (K : Act → World → Prop) : Prop :=
  if Region.wanted o (yielded ops a.tmps) then o.wpIn F n P a w K Q else (∀ f, o.about P w a.eval = some f → F.fn f) ∧ K (a.put o.dst undef) w
/-- The operations in an order of one's own: (true, i): it reads, and is taken ahead; (false, i): it alone may come up. -/
def wpPick (F : Fence) (n : Nat) (P : Program) (ops : Array Oper) (C : World → Prop) (m : Nat) (Q : Exit → Act → World → Prop) : List (Bool × Nat × Oper) → Act → World → Prop
  | [], a, w => Q .normal a w
  | (true, _, o) :: rest, a, w => C w ∧ ∃ v, Reads P C o v a ∧ wpPick F n P ops C m Q rest (a.put o.dst v) w
  | (false, i, o) :: rest, a, w => wpStep F n P ops Q o a w (fun a' w' => (i < m → C w') ∧ wpPick F n P ops C m Q rest a' w')
def pickB (md : Region.Mode) (ops : Array Oper) (m : Nat) : List (Bool × Nat) → Array Bool → Bool
  | [], listed => decide (Region.ready md ops listed = [])
  | (true, i) :: rest, listed => (Region.ready md ops listed).contains i && Region.free md ops listed i && ((List.range ops.size).all fun j => decide (j = i) || waitsT md ops ops.size j i || decide (j < m)) && pickB md ops m rest (listed.setIfInBounds i true)
  | (false, i) :: rest, listed => decide (Region.ready md ops listed = [i]) && pickB md ops m rest (listed.setIfInBounds i true)
theorem picks_any {m : Nat} (hsel : Region.noSelect ops = true) (hnd : noDefers ops = true) (hQ : ∀ c a t u w, Q (.panic c) (Act.put a t u) w → Q (.panic c) a w) :
    ∀ (l : List (Bool × Nat × Oper)) (listed : Array Bool) (a : Act) (w : World), (∀ x ∈ l, ops[x.2.1]? = some x.2.2) → HeadInv md ops ops.size listed →
    pickB md ops m (l.map fun x => (x.1, x.2.1)) listed = true → wpPick F n P ops C m Q l a w → wpAnyC F n P md ops C m Q l.length listed a w
  | [], listed, a, w, _, _, hB, h => ⟨by simpa [pickB] using hB, h⟩
  | (true, i, o) :: l, listed, a, w, hl, inv, hB, h => by
    have h0 : ops[i]? = some o := hl (true, i, o) (by simp)
    simp only [List.map_cons, pickB, Bool.and_eq_true] at hB
    obtain ⟨⟨⟨hr, hf⟩, hlow⟩, hB'⟩ := hB
    obtain ⟨hC, v, hy, hK⟩ := h
    have H := picks_any hsel hnd hQ l (listed.setIfInBounds i true) (a.put o.dst v) w (fun x hx => hl x (by simp [hx])) (inv.set (by simpa using hr) (Array.getElem?_eq_some_iff.1 h0).1) hB' hK
    refine anyC_first h0 (Region.noSelect_spec hsel) hnd hQ (fun j hj hjk => ?_) _ listed a w inv (Region.free_spec h0 hf) (by simpa using hr) hy hC H
    have h1 := List.all_eq_true.1 hlow j (List.mem_range.2 hj)
    simp only [Bool.or_eq_true, decide_eq_true_eq] at h1
    rcases h1 with (h1 | h1) | h1
    · exact absurd h1 hjk
    · exact .inl ⟨_, h1⟩
    · exact .inr h1
  | (false, i, o) :: l, listed, a, w, hl, inv, hB, h => by
    have h0 : ops[i]? = some o := hl (false, i, o) (by simp)
    simp only [List.map_cons, pickB, Bool.and_eq_true, decide_eq_true_eq] at hB
    have hri : i ∈ Region.ready md ops listed := by rw [hB.1]; simp
    refine ⟨fun h1 => (by rw [hB.1] at h1; cases h1), fun k hk => ?_⟩
    obtain rfl : k = i := by rw [hB.1] at hk; simpa using hk
    have hw : wpOpIn F n P ops Q k (fun a' w' => (k < m → C w') ∧ wpPick F n P ops C m Q l a' w') a w := by
      unfold wpOpIn
      simp only [h0]
      exact h
    exact wpOpIn_mono (fun a' w' h' => ⟨h'.1, picks_any hsel hnd hQ l (listed.setIfInBounds k true) a' w' (fun x hx => hl x (by simp [hx])) (inv.set hri (Array.getElem?_eq_some_iff.1 h0).1) hB.2 h'.2⟩) hw
/-- The operations at the places. -/
def pickOps (ops : List Oper) (is : List (Bool × Nat)) : List (Bool × Nat × Oper) := is.map fun x => (x.1, x.2, ops.getD x.2 default)
/-- THE LAW: the operations in an order of one's own; those below m leave a world of the class. -/
theorem region_pick {id : Nat} {a : Act} {w : World} {l : List Oper} (m : Nat) (is : List (Bool × Nat)) (hm : P.follows .mixedOrders = true)
    (hB : (Region.noSelect l.toArray && noDefers l.toArray && (is.all fun x => decide (x.2 < l.length)) && decide (is.length = l.length) && pickB .any l.toArray m is (Array.replicate l.toArray.size false)) = true) (hQ : ∀ c a t u w, Q (.panic c) (Act.put a t u) w → Q (.panic c) a w)
    (h : wpPick F n P l.toArray (Rg w) m Q (pickOps l is) a { w with drawn := w.drawn + 1 }) : (Code.region id l.toArray true).wpIn F n P Q a w := by
  simp only [Bool.and_eq_true, decide_eq_true_eq] at hB
  obtain ⟨⟨⟨⟨hsel, hnd⟩, hall⟩, hlen⟩, hpk⟩ := hB
  have hmap : (pickOps l is).map (fun x => (x.1, x.2.1)) = is := by
    unfold pickOps
    rw [List.map_map]
    conv => rhs; rw [← List.map_id is]
    exact List.map_congr_left fun x _ => rfl
  have H := picks_any (F := F) (n := n) (P := P) (md := .any) (C := Rg w) (Q := Q) (m := m) hsel hnd hQ (pickOps l is) (Array.replicate l.toArray.size false) a { w with drawn := w.drawn + 1 }
    (fun x hx => by
      unfold pickOps at hx
      obtain ⟨y, hy, rfl⟩ := List.mem_map.1 hx
      have h1 := List.all_eq_true.1 hall y hy
      have h2 : y.2 < l.length := by simpa using h1
      simp [List.getD_eq_getElem?_getD, h2])
    ⟨by simp, fun j oj _ hl => (by rw [getD_replicate_false] at hl; cases hl), fun t h1 h2 => absurd h1 (Nat.not_le.2 h2)⟩ (by rw [hmap]; exact hpk) h
  have e : (pickOps l is).length = l.toArray.size := by unfold pickOps; simp [hlen]
  rw [e] at H
  exact wpIn_region_any hm (any_of_C _ _ _ _ H)
/-- A reading operation is taken. -/
theorem pick_read {m i : Nat} {o : Oper} {rest : List (Bool × Nat × Oper)} {a : Act} {w : World} (hC : C w) (v : Value) (hg : o.guard = none) (hc : ∀ w, o.about P w a.eval = none) (hr : ∀ w, C w → (execOp a.eval o).run P w = .ok (.value v) w) (h : wpPick F n P ops C m Q rest (a.put o.dst v) w) : wpPick F n P ops C m Q ((true, i, o) :: rest) a w :=
  ⟨hC, v, ⟨hg, hc, hr⟩, h⟩
/-- An operation takes its turn. -/
theorem pick_step {m i : Nat} {o : Oper} {rest : List (Bool × Nat × Oper)} {a : Act} {w : World} (h : ∀ K : Act → World → Prop, (∀ a' w', (i < m → C w') → wpPick F n P ops C m Q rest a' w' → K a' w') → wpStep F n P ops Q o a w K) : wpPick F n P ops C m Q ((false, i, o) :: rest) a w := h _ fun _ _ h1 h2 => ⟨h1, h2⟩
end
end Go.Proofs.YtegpidlhhneilaaDoor
