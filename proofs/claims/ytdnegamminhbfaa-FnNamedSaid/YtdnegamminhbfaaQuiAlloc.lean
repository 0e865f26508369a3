/- A region in a round: operations that leave the world alone but for new blocks, two new blocks at any time among them, and some that follow one by one: walked once. Nothing of the program. -/
import Derived.Test.YtdnegamminhbfaaFloat
namespace Go.Proofs.Ytdnegamminhbfaa
open Go.Sort Go.RowKit
section
variable {F : Fence} {n : Nat} {P : Program} {ops : Array Oper} {md : Region.Mode} {W : World}

/-- What was there is as it was. -/
def Bel (w w' : World) : Prop := Below w.heap.size w w'
/-- One value; the world as it was, but for new blocks. -/
def bAtU (F : Fence) (n : Nat) (P : Program) (w : World) (v : Value) : Result Next → Prop
  | .ok (.value u) w' => w' = w ∧ u = v
  | .ok (.enter f args) w' => w' = w ∧ (F.depth.isSome = true → 1 ≤ n) ∧ CallsIn F (n - 1) P f args w (fun e w'' => e = .returned v ∧ Bel w w'')
  | _ => False
/-- In state a the operation gives v, in every world of the class. -/
structure YB (F : Fence) (n : Nat) (P : Program) (W : World) (o : Oper) (v : Value) (a : Act) : Prop where
  guard : o.guard = none
  calls : ∀ w, Rg W w → ∀ f, o.about P w a.eval = some f → F.fn f
  run : ∀ w, Rg W w → bAtU F n P w v ((execOp a.eval o).run P w)
theorem YB.put {oi oj : Oper} {v u : Value} {a : Act} (hr : YB F n P W oi v a) (hs : ∀ cs b, oi.op ≠ .select cs b) (hap : ∀ d, oj.dst = some d → d ∉ oi.looksAt ops) : YB F n P W oi v (a.put oj.dst u) :=
  ⟨hr.guard, fun w hw => by rw [about_put (ops := ops) oi w a oj.dst u hap]; exact hr.calls w hw, fun w hw => by rw [execOp_put (ops := ops) oi hs a oj.dst u hap]; exact hr.run w hw⟩
theorem YB.unput {oi oj : Oper} {v u : Value} {a : Act} (hr : YB F n P W oi v (a.put oj.dst u)) (hs : ∀ cs b, oi.op ≠ .select cs b) (hap : ∀ d, oj.dst = some d → d ∉ oi.looksAt ops) : YB F n P W oi v a :=
  ⟨hr.guard, fun w hw => by have := hr.calls w hw; rwa [about_put (ops := ops) oi w a oj.dst u hap] at this, fun w hw => by have := hr.run w hw; rwa [execOp_put (ops := ops) oi hs a oj.dst u hap] at this⟩

/-- The worlds that differ from W by draws and new blocks, some of them known. -/
def Cl (W : World) (S : List (Nat × Obj)) (w : World) : Prop := Rg W w ∧ ∀ p ∈ S, w.heap[p.1]? = some p.2
theorem rg_size {w : World} (h : Rg W w) : W.heap.size ≤ w.heap.size := by obtain ⟨⟨d, os⟩, rfl⟩ := h; exact (below_regrown W d os).size
theorem rg_below {w w' : World} (h : Rg W w) (hb : Below w.heap.size w w') : Rg W w' := by
  obtain ⟨⟨d, os⟩, rfl⟩ := h
  exact regrown_of_below ((below_regrown W d os).trans (hb.mono (below_regrown W d os).size))
theorem Cl.below {S : List (Nat × Obj)} {w w' : World} (h : Cl W S w) (hb : Below w.heap.size w w') : Cl W S w' :=
  ⟨rg_below h.1 hb, fun p hp => (hb.block _ (Array.getElem?_eq_some_iff.1 (h.2 p hp)).1).trans (h.2 p hp)⟩

/-- The operation makes one new block. -/
structure Mk (P : Program) (o : Oper) (ob : Obj) : Prop where
  guard : o.guard = none
  calls : ∀ w a, o.about P w (Act.eval a) = none
  run : ∀ w a, (execOp (Act.eval a) o).run P w = .ok (.value (.pointer (some ⟨w.heap.size, 0, none⟩))) (w.alloc ob)

/-- The first f operations to come are below m: they make the blocks of al, or are quiet; then L. -/
def hA (F : Fence) (n : Nat) (P : Program) (md : Region.Mode) (ops : Array Oper) (W : World) (m : Nat) (al : Nat → Option Obj) (L : Array Bool → List (Nat × Obj) → Act → Prop) : Nat → Array Bool → List (Nat × Obj) → Act → Prop
  | 0, listed, S, a => L listed S a
  | f + 1, listed, S, a => Region.ready md ops listed ≠ [] ∧ ∀ i ∈ Region.ready md ops listed, i < m ∧ ∃ o, ops[i]? = some o ∧
    ((∃ ob, al i = some ob ∧ Mk P o ob ∧ ∀ B, W.heap.size ≤ B → B ∉ S.map (·.1) → hA F n P md ops W m al L f (listed.setIfInBounds i true) ((B, ob) :: S) (a.put o.dst (.pointer (some ⟨B, 0, none⟩)))) ∨
     (al i = none ∧ ∃ v, YB F n P W o v a ∧ hA F n P md ops W m al L f (listed.setIfInBounds i true) S (a.put o.dst v)))

theorem any_of_hA {m g : Nat} {al : Nat → Option Obj} {L : Array Bool → List (Nat × Obj) → Act → Prop} {Q : Exit → Act → World → Prop} (hnd : noDefers ops = true) (hL : ∀ listed S a w, Cl W S w → L listed S a → wpAnyIn F n P md ops Q g listed a w) :
    ∀ (f : Nat) (listed : Array Bool) (S : List (Nat × Obj)) (a : Act) (w : World), Cl W S w → hA F n P md ops W m al L f listed S a → wpAnyIn F n P md ops Q (f + g) listed a w
  | 0, listed, S, a, w, hw, h => by rw [Nat.zero_add]; exact hL _ _ _ _ hw h
  | f + 1, listed, S, a, w, hw, h => by
    rw [show f + 1 + g = (f + g) + 1 by omega]
    refine ⟨fun h0 => absurd h0 h.1, fun i hi => ?_⟩
    obtain ⟨_, o, ho, h3⟩ := h.2 i hi
    have hndo := noDefers_at hnd ho
    unfold wpOpIn
    simp only [ho]
    rcases h3 with ⟨ob, _, hm, h4⟩ | ⟨_, v, hy, h4⟩
    · rw [if_pos (by simp [Region.wanted, hm.guard])]
      unfold Oper.wpIn
      have hab : ∀ f', o.about P w a.eval = some f' → F.fn f' := fun f' hf' => by rw [hm.calls w a] at hf'; cases hf'
      refine ⟨hab, ?_⟩
      rw [Oper.semAt_eq F.round _ _ hndo, hm.run w a]
      have hb : Below w.heap.size w (w.alloc ob) := (Below.refl _ w).alloc (Nat.le_refl _) ob
      refine any_of_hA hnd hL f _ _ _ _ ⟨rg_below hw.1 hb, fun p hp => ?_⟩ (h4 w.heap.size (rg_size hw.1) (fun hmem => ?_))
      · rcases List.mem_cons.1 hp with rfl | hp
        · show (w.heap.push ob)[w.heap.size]? = some ob
          simp
        · exact (hw.below hb).2 p hp
      · obtain ⟨p, hp, e⟩ := List.mem_map.1 hmem
        have := (Array.getElem?_eq_some_iff.1 (hw.2 p hp)).1
        omega
    · rw [if_pos (by simp [Region.wanted, hy.guard])]
      unfold Oper.wpIn
      refine ⟨hy.calls w hw.1, ?_⟩
      rw [Oper.semAt_eq F.round _ _ hndo]
      have h5 := hy.run w hw.1
      revert h5
      generalize (execOp a.eval o).run P w = r
      intro h5
      match r, h5 with
      | .ok (.value u) w', h5 => obtain ⟨e1, e2⟩ := h5; subst e1; subst e2; exact any_of_hA hnd hL f _ _ _ _ hw h4
      | .ok (.enter f' args) w', h5 =>
        obtain ⟨e1, hd, hc⟩ := h5
        subst e1
        exact ⟨hd, hc.mono fun e w'' ⟨he, hb⟩ => by subst he; exact any_of_hA hnd hL f _ _ _ _ (hw.below hb) h4⟩

theorem hA_first {m i : Nat} {oi : Oper} {v : Value} {al : Nat → Option Obj} {L : Array Bool → List (Nat × Obj) → Act → Prop} (hi : ops[i]? = some oi) (hali : al i = none) (hsel : ∀ (j : Nat) (o : Oper) cs b, ops[j]? = some o → o.op ≠ .select cs b)
    (hs : Region.sinkB md ops m = true) (hc : Region.chainB md ops m = true) (hm : m < ops.size) (him : i < m)
    (hdone : ∀ listed S a, L listed S a → ∀ j ∈ Region.ready md ops listed, m ≤ j) (f : Nat) :
    ∀ (listed : Array Bool) (S : List (Nat × Obj)) (a : Act), HeadInv md ops m listed →
      (∀ j oj, ops[j]? = some oj → j ≠ i → listed.getD j true = false → (∀ e ∈ oj.after, Region.binds md e = true → e.on ≠ i) → oi.apart ops oj = true) →
      i ∈ Region.ready md ops listed → YB F n P W oi v a →
      hA F n P md ops W m al L f (listed.setIfInBounds i true) S (a.put oi.dst v) → hA F n P md ops W m al L (f + 1) listed S a := by
  induction f with
  | zero =>
    intro listed S a inv _ hr hy H
    have hun := (mem_ready.1 hr).1
    refine ⟨List.ne_nil_of_mem hr, fun j hj => ?_⟩
    have hjm : j < m := Nat.lt_of_not_le fun h => tail_waits hs hc hm inv _ i rfl him hun j h hj
    refine ⟨hjm, ?_⟩
    by_cases hji : j = i
    · subst hji; exact ⟨oi, hi, .inr ⟨hali, v, hy, H⟩⟩
    · exact absurd (hdone _ _ _ H j (ready_mono hj hji)) (by omega)
  | succ f ih =>
    intro listed S a inv hfree hr hy H
    have hun := (mem_ready.1 hr).1
    refine ⟨List.ne_nil_of_mem hr, fun j hj => ?_⟩
    have hjm : j < m := Nat.lt_of_not_le fun h => tail_waits hs hc hm inv _ i rfl him hun j h hj
    refine ⟨hjm, ?_⟩
    by_cases hji : j = i
    · subst hji; exact ⟨oi, hi, .inr ⟨hali, v, hy, H⟩⟩
    · obtain ⟨hjun, oj, hoj, hall⟩ := mem_ready.1 hj
      have hap : oi.apart ops oj = true := hfree j oj hoj hji hjun fun e he hb heq => by
        have h1 := hall e he hb
        rw [heq, getD_both hun] at h1
        cases h1
      obtain ⟨h1, h2, h3⟩ := Oper.apart_spec hap
      have hsi := fun cs b => hsel i oi cs b hi
      have hsj := fun cs b => hsel j oj cs b hoj
      have hcond : ∀ k ok, ops[k]? = some ok → k ≠ i → (listed.setIfInBounds j true).getD k true = false → (∀ e ∈ ok.after, Region.binds md e = true → e.on ≠ i) → oi.apart ops ok = true := fun k ok hk hki hunk hno => by
        refine hfree k ok hk hki ?_ hno
        by_cases hjk : j = k
        · subst hjk; exact hjun
        · rwa [getD_set_ne true hjk] at hunk
      obtain ⟨_, oj', hoj', H2⟩ := H.2 j (ready_mono hj hji)
      obtain rfl : oj' = oj := Option.some.inj (hoj'.symm.trans hoj)
      refine ⟨oj', hoj, ?_⟩
      rcases H2 with ⟨ob, ha, hmk, H3⟩ | ⟨ha, v', hy', H3⟩
      · refine .inl ⟨ob, ha, hmk, fun B hB hf => ih (listed.setIfInBounds j true) _ _ (inv.set hj hjm) hcond (ready_mono hr (Ne.symm hji)) (hy.put hsi h3) ?_⟩
        rw [Array.setIfInBounds_comm _ _ hji, ← Act.put_comm a v _ h2]
        exact H3 B hB hf
      · refine .inr ⟨ha, v', hy'.unput hsj h1, ih (listed.setIfInBounds j true) _ _ (inv.set hj hjm) hcond (ready_mono hr (Ne.symm hji)) (hy.put hsi h3) ?_⟩
        rw [Array.setIfInBounds_comm _ _ hji, ← Act.put_comm a v _ h2]
        exact H3

/-- The quiet operations, in the text's order. -/
def wpB (F : Fence) (n : Nat) (P : Program) (W : World) (K : Act → Prop) : List Oper → Act → Prop
  | [], a => K a
  | o :: rest, a => ∃ v, YB F n P W o v a ∧ wpB F n P W K rest (a.put o.dst v)
def lexA (md : Region.Mode) (ops : Array Oper) (g : Nat) : Nat → Nat → Array Bool → Bool
  | 0, k, listed => decide (Region.ready md ops listed = [k, k + 1]) && decide (Region.ready md ops (listed.setIfInBounds k true) = [k + 1]) && decide (Region.ready md ops (listed.setIfInBounds (k + 1) true) = [k]) && Region.seqB md ops g (k + 2) ((listed.setIfInBounds k true).setIfInBounds (k + 1) true)
  | f + 1, k, listed => (Region.ready md ops listed).contains k && Region.free md ops listed k && lexA md ops g f (k + 1) (listed.setIfInBounds k true)

theorem hA_lex {q g : Nat} {o1 o2 : Oper} {b1 b2 : Obj} (h1 : ops[q]? = some o1) (h2 : ops[q + 1]? = some o2) (hm1 : Mk P o1 b1) (hm2 : Mk P o2 b2) (hd : ∀ d, o1.dst = some d → o2.dst ≠ some d)
    {Lq : Act → List (Nat × Obj) → Prop} (hLs : ∀ a S S', (∀ p, p ∈ S ↔ p ∈ S') → Lq a S → Lq a S') (hsel : Region.noSelect ops = true) (hs : Region.sinkB md ops (q + 2) = true) (hc : Region.chainB md ops (q + 2) = true) (hm : q + 2 < ops.size) :
    ∀ (l : List Oper) (k : Nat) (listed : Array Bool) (a : Act), (∀ j, j < l.length → l[j]? = ops[k + j]?) → k + l.length = q → HeadInv md ops (q + 2) listed →
    lexA md ops g l.length k listed = true → wpB F n P W (fun a' => ∀ B1 B2, W.heap.size ≤ B1 → W.heap.size ≤ B2 → B1 ≠ B2 → Lq ((a'.put o1.dst (.pointer (some ⟨B1, 0, none⟩))).put o2.dst (.pointer (some ⟨B2, 0, none⟩))) [(B1, b1), (B2, b2)]) l a →
    hA F n P md ops W (q + 2) (fun i => if i = q then some b1 else if i = q + 1 then some b2 else none) (fun listed' S a' => Region.seqB md ops g (q + 2) listed' = true ∧ Lq a' S) (l.length + 2) listed [] a
  | [], k, listed, a, _, hk, _, hB, h => by
    obtain rfl : k = q := by simpa using hk
    simp only [List.length_nil, lexA, Bool.and_eq_true, decide_eq_true_eq] at hB
    obtain ⟨⟨⟨r0, r1⟩, r2⟩, hsq⟩ := hB
    refine ⟨by rw [r0]; simp, fun i hi => ?_⟩
    rw [r0] at hi
    simp only [List.mem_cons, List.not_mem_nil, or_false] at hi
    rcases hi with rfl | rfl
    · refine ⟨by omega, o1, h1, .inl ⟨b1, by simp, hm1, fun B1 hB1 _ => ?_⟩⟩
      refine ⟨by rw [r1]; simp, fun j hj => ?_⟩
      rw [r1] at hj
      obtain rfl : j = i + 1 := by simpa using hj
      refine ⟨by omega, o2, h2, .inl ⟨b2, by simp, hm2, fun B2 hB2 hf => ⟨hsq, ?_⟩⟩⟩
      exact hLs _ _ _ (fun p => by simp [or_comm]) (h B1 B2 hB1 hB2 (fun e => hf (by simp [e])))
    · refine ⟨by omega, o2, h2, .inl ⟨b2, by simp, hm2, fun B2 hB2 _ => ?_⟩⟩
      refine ⟨by rw [r2]; simp, fun j hj => ?_⟩
      rw [r2] at hj
      obtain rfl : j = k := by simpa using hj
      refine ⟨by omega, o1, h1, .inl ⟨b1, by simp, hm1, fun B1 hB1 hf => ⟨by rw [Array.setIfInBounds_comm _ _ (by omega)]; exact hsq, ?_⟩⟩⟩
      rw [← Act.put_comm a _ _ hd]
      exact h B1 B2 hB1 hB2 (fun e => hf (by simp [e]))
  | o :: l, k, listed, a, hl, hk, inv, hB, h => by
    have h0 : ops[k]? = some o := by simpa using (hl 0 (by simp)).symm
    simp only [List.length_cons, lexA, Bool.and_eq_true] at hB
    have hkq : k < q := by simp only [List.length_cons] at hk; omega
    have hr : k ∈ Region.ready md ops listed := by simpa using hB.1.1
    obtain ⟨v, hy, hK⟩ := h
    rw [List.length_cons, show l.length + 1 + 2 = (l.length + 2) + 1 by omega]
    exact hA_first h0 (by rw [if_neg (by omega), if_neg (by omega)]) (Region.noSelect_spec hsel) hs hc hm (by omega) (fun _ _ _ hL => seqB_ready hL.1) _ listed [] a inv (Region.free_spec h0 hB.1.2) hr hy
      (hA_lex h1 h2 hm1 hm2 hd hLs hsel hs hc hm l (k + 1) _ _ (fun j hj => by have := hl (j + 1) (by simp; omega); simpa [Nat.add_assoc, Nat.add_comm 1 j] using this) (by simp only [List.length_cons] at hk; omega) (inv.set hr (by omega)) hB.2 hK)

/-- THE LAW: q quiet operations, two new blocks at any time, the rest behind them. -/
theorem region_qalloc {id : Nat} {Q : Exit → Act → World → Prop} {a : Act} {l : List Oper} (q : Nat) {o1 o2 : Oper} {b1 b2 : Obj} (h1 : l.toArray[q]? = some o1) (h2 : l.toArray[q + 1]? = some o2) (hm1 : Mk P o1 b1) (hm2 : Mk P o2 b2) (hd : ∀ d, o1.dst = some d → o2.dst ≠ some d) (hm : P.follows .mixedOrders = true)
    (hB : (Region.noSelect l.toArray && noDefers l.toArray && decide (q + 2 < l.toArray.size) && Region.sinkB .any l.toArray (q + 2) && Region.chainB .any l.toArray (q + 2) && lexA .any l.toArray (l.drop (q + 2)).length (l.take q).length 0 (Array.replicate l.toArray.size false)) = true)
    (h : wpB F n P W (fun a' => ∀ B1 B2, W.heap.size ≤ B1 → W.heap.size ≤ B2 → B1 ≠ B2 → ∀ w', Rg W w' → w'.heap[B1]? = some b1 → w'.heap[B2]? = some b2 →
      wpListIn F n P l.toArray Q (l.drop (q + 2)) ((a'.put o1.dst (.pointer (some ⟨B1, 0, none⟩))).put o2.dst (.pointer (some ⟨B2, 0, none⟩))) w') (l.take q) a) : (Code.region id l.toArray true).wpIn F n P Q a W := by
  simp only [Bool.and_eq_true, decide_eq_true_eq] at hB
  obtain ⟨⟨⟨⟨⟨hsel, hnd⟩, hsz⟩, hs⟩, hc⟩, hlex⟩ := hB
  have hsz' : q + 2 < l.length := by simpa using hsz
  have hC0 : Cl W [] { W with drawn := W.drawn + 1 } := ⟨⟨⟨W.drawn + 1, #[]⟩, by rw [grow_empty]; rfl⟩, fun p hp => by cases hp⟩
  have H := hA_lex (F := F) (n := n) (P := P) (W := W) (md := .any) (g := (l.drop (q + 2)).length) h1 h2 hm1 hm2 hd (Lq := fun a' S => ∀ w', Cl W S w' → wpListIn F n P l.toArray Q (l.drop (q + 2)) a' w')
    (fun a' S S' hS hL w' hw' => hL w' ⟨hw'.1, fun p hp => hw'.2 p ((hS p).1 hp)⟩) hsel hs hc hsz (l.take q) 0 _ a (fun j hj => by
      have hj' : j < q := by simp at hj; omega
      simp [hj']) (by simp; omega) ⟨by simp, fun j oj _ hl => (by rw [getD_replicate_false] at hl; cases hl), fun t _ ht => getD_in (by simpa using ht) (getD_replicate_false _ _)⟩ hlex
    (by
      have key : ∀ (l' : List Oper) (a' : Act) {K K' : Act → Prop}, (∀ a, K a → K' a) → wpB F n P W K l' a' → wpB F n P W K' l' a' := by
        intro l'
        induction l' with
        | nil => exact fun a' K K' hk h => hk _ h
        | cons o l' ih => exact fun a' K K' hk ⟨v, hy, h⟩ => ⟨v, hy, ih _ hk h⟩
      exact key _ _ (fun a' h' B1 B2 hB1 hB2 hne w' hw' => h' B1 B2 hB1 hB2 hne w' hw'.1 (hw'.2 (B1, b1) (by simp)) (hw'.2 (B2, b2) (by simp))) h)
  refine wpIn_region_any hm ?_
  have := any_of_hA (Q := Q) (g := (l.drop (q + 2)).length) hnd (fun listed S a' w' hw' hL => seq_round (F := F) (n := n) (P := P) (md := .any) (Q' := Q) (l.drop (q + 2)) (q + 2) listed a' w' (fun j => by simp [List.getElem?_drop]) hL.1 (hL.2 w' hw')) _ _ _ _ _ hC0 H
  rwa [show (l.take q).length + 2 + (l.drop (q + 2)).length = l.toArray.size by simp; omega] at this
end
end Go.Proofs.Ytdnegamminhbfaa
