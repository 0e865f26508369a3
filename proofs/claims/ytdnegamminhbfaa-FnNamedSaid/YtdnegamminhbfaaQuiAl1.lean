/- A region with quiet operations, one new block at any time among them, and a tail. Nothing of the program. -/
import Derived.Test.YtdnegamminhbfaaQuiAlloc
namespace Go.Proofs.Ytdnegamminhbfaa
open Go.Sort Go.RowKit
section
variable {F : Fence} {n : Nat} {P : Program} {ops : Array Oper} {md : Region.Mode} {W : World}

def lexA1 (md : Region.Mode) (ops : Array Oper) (g : Nat) : Nat → Nat → Array Bool → Bool
  | 0, k, listed => decide (Region.ready md ops listed = [k]) && Region.seqB md ops g (k + 1) (listed.setIfInBounds k true)
  | f + 1, k, listed => (Region.ready md ops listed).contains k && Region.free md ops listed k && lexA1 md ops g f (k + 1) (listed.setIfInBounds k true)

theorem hA_lex1 {q g : Nat} {o1 : Oper} {b1 : Obj} (h1 : ops[q]? = some o1) (hm1 : Mk P o1 b1)
    {Lq : Act → List (Nat × Obj) → Prop} (hsel : Region.noSelect ops = true) (hs : Region.sinkB md ops (q + 1) = true) (hc : Region.chainB md ops (q + 1) = true) (hm : q + 1 < ops.size) :
    ∀ (l : List Oper) (k : Nat) (listed : Array Bool) (a : Act), (∀ j, j < l.length → l[j]? = ops[k + j]?) → k + l.length = q → HeadInv md ops (q + 1) listed →
    lexA1 md ops g l.length k listed = true → wpB F n P W (fun a' => ∀ B1, W.heap.size ≤ B1 → Lq (a'.put o1.dst (.pointer (some ⟨B1, 0, none⟩))) [(B1, b1)]) l a →
    hA F n P md ops W (q + 1) (fun i => if i = q then some b1 else none) (fun listed' S a' => Region.seqB md ops g (q + 1) listed' = true ∧ Lq a' S) (l.length + 1) listed [] a
  | [], k, listed, a, _, hk, _, hB, h => by
    obtain rfl : k = q := by simpa using hk
    simp only [List.length_nil, lexA1, Bool.and_eq_true, decide_eq_true_eq] at hB
    obtain ⟨r0, hsq⟩ := hB
    refine ⟨by rw [r0]; simp, fun i hi => ?_⟩
    rw [r0] at hi
    simp only [List.mem_cons, List.not_mem_nil, or_false] at hi
    subst hi
    exact ⟨by omega, o1, h1, .inl ⟨b1, by simp, hm1, fun B1 hB1 _ => ⟨hsq, h B1 hB1⟩⟩⟩
  | o :: l, k, listed, a, hl, hk, inv, hB, h => by
    have h0 : ops[k]? = some o := by simpa using (hl 0 (by simp)).symm
    simp only [List.length_cons, lexA1, Bool.and_eq_true] at hB
    have hkq : k < q := by simp only [List.length_cons] at hk; omega
    have hr : k ∈ Region.ready md ops listed := by simpa using hB.1.1
    obtain ⟨v, hy, hK⟩ := h
    rw [List.length_cons, show l.length + 1 + 1 = (l.length + 1) + 1 by omega]
    exact hA_first h0 (by rw [if_neg (by omega)]) (Region.noSelect_spec hsel) hs hc hm (by omega) (fun _ _ _ hL => seqB_ready hL.1) _ listed [] a inv (Region.free_spec h0 hB.1.2) hr hy
      (hA_lex1 h1 hm1 hsel hs hc hm l (k + 1) _ _ (fun j hj => by have := hl (j + 1) (by simp; omega); simpa [Nat.add_assoc, Nat.add_comm 1 j] using this) (by simp only [List.length_cons] at hk; omega) (inv.set hr (by omega)) hB.2 hK)

/-- THE LAW: q quiet operations, one new block at any time, the rest behind them. -/
theorem region_qalloc1 {id : Nat} {Q : Exit → Act → World → Prop} {a : Act} {l : List Oper} (q : Nat) {o1 : Oper} {b1 : Obj} (h1 : l.toArray[q]? = some o1) (hm1 : Mk P o1 b1) (hm : P.follows .mixedOrders = true)
    (hB : (Region.noSelect l.toArray && noDefers l.toArray && decide (q + 1 < l.toArray.size) && Region.sinkB .any l.toArray (q + 1) && Region.chainB .any l.toArray (q + 1) && lexA1 .any l.toArray (l.drop (q + 1)).length (l.take q).length 0 (Array.replicate l.toArray.size false)) = true)
    (h : wpB F n P W (fun a' => ∀ B1, W.heap.size ≤ B1 → ∀ w', Rg W w' → w'.heap[B1]? = some b1 →
      wpListIn F n P l.toArray Q (l.drop (q + 1)) (a'.put o1.dst (.pointer (some ⟨B1, 0, none⟩))) w') (l.take q) a) : (Code.region id l.toArray true).wpIn F n P Q a W := by
  simp only [Bool.and_eq_true, decide_eq_true_eq] at hB
  obtain ⟨⟨⟨⟨⟨hsel, hnd⟩, hsz⟩, hs⟩, hc⟩, hlex⟩ := hB
  have hsz' : q + 1 < l.length := by simpa using hsz
  have hC0 : Cl W [] { W with drawn := W.drawn + 1 } := ⟨⟨⟨W.drawn + 1, #[]⟩, by rw [grow_empty]; rfl⟩, fun p hp => by cases hp⟩
  have H := hA_lex1 (F := F) (n := n) (P := P) (W := W) (md := .any) (g := (l.drop (q + 1)).length) h1 hm1 (Lq := fun a' S => ∀ w', Cl W S w' → wpListIn F n P l.toArray Q (l.drop (q + 1)) a' w')
    hsel hs hc hsz (l.take q) 0 _ a (fun j hj => by
      have hj' : j < q := by simp at hj; omega
      simp [hj']) (by simp; omega) ⟨by simp, fun j oj _ hl => (by rw [getD_replicate_false] at hl; cases hl), fun t _ ht => getD_in (by simpa using ht) (getD_replicate_false _ _)⟩ hlex
    (by
      have key : ∀ (l' : List Oper) (a' : Act) {K K' : Act → Prop}, (∀ a, K a → K' a) → wpB F n P W K l' a' → wpB F n P W K' l' a' := by
        intro l'
        induction l' with
        | nil => exact fun a' K K' hk h => hk _ h
        | cons o l' ih => exact fun a' K K' hk ⟨v, hy, h⟩ => ⟨v, hy, ih _ hk h⟩
      exact key _ _ (fun a' h' B1 hB1 w' hw' => h' B1 hB1 w' hw'.1 (hw'.2 (B1, b1) (by simp))) h)
  refine wpIn_region_any hm ?_
  have := any_of_hA (Q := Q) (g := (l.drop (q + 1)).length) hnd (fun listed S a' w' hw' hL => seq_round (F := F) (n := n) (P := P) (md := .any) (Q' := Q) (l.drop (q + 1)) (q + 1) listed a' w' (fun j => by simp [List.getElem?_drop]) hL.1 (hL.2 w' hw')) _ _ _ _ _ hC0 H
  rwa [show (l.take q).length + 1 + (l.drop (q + 1)).length = l.toArray.size by simp; omega] at this
end
end Go.Proofs.Ytdnegamminhbfaa
