/- Reaches of chains, of the program. -/
import Derived.Test.YtjciligkaamepaaChainS
import Derived.RangeFuncBox
namespace Go.Proofs.Ytjciligkaamepaa
open Go.RowKit Go.Sort

/-! Blocks of two cells, of one -/
theorem two_set {W : World} {g : Nat} {a b : Value} {T : TypeId} (h : W.heap[g]? = some (.cells #[a, b] T (0, 0))) (x y : Value) :
    ((W.setCell ⟨g, 0, none⟩ x).setCell ⟨g, 1, none⟩ y).heap[g]? = some (.cells #[x, y] T (0, 0)) := by
  have h1 := heap_setCell_same W g 0 _ _ x h
  have h2 := heap_setCell_same _ g 1 _ _ y h1
  simpa using h2
theorem two_cells {W : World} {g : Nat} {a b : Value} {T : TypeId} (h : W.heap[g]? = some (.cells #[a, b] T (0, 0))) :
    W.cell? ⟨g, 0, none⟩ = some a ∧ W.cell? ⟨g, 1, none⟩ = some b ∧ W.frozen? ⟨g, 0, none⟩ = false ∧ W.frozen? ⟨g, 1, none⟩ = false := by
  refine ⟨?_, ?_, frozen_of_row W _ 0 _ _ h, frozen_of_row W _ 1 _ _ h⟩
  · rw [cell_of_row W _ 0 _ _ _ h]; rfl
  · rw [cell_of_row W _ 1 _ _ _ h]; rfl
theorem two_below {w W : World} {g : Nat} (h : Below w.heap.size w W) (hg : w.heap.size ≤ g) (x y : Value) :
    Below w.heap.size w ((W.setCell ⟨g, 0, none⟩ x).setCell ⟨g, 1, none⟩ y) := (h.setCell (p := ⟨g, 0, none⟩) hg _).setCell (p := ⟨g, 1, none⟩) hg _
theorem one_cell {W : World} {g : Nat} {a : Value} {T : TypeId} (h : W.heap[g]? = some (.cells #[a] T (0, 0))) : W.cell? ⟨g, 0, none⟩ = some a := by
  rw [cell_of_row W _ 0 _ _ _ h]; rfl
/-- A reach. -/
abbrev rchV (l m : Int) : Value := .agg #[.int .i64 l, .int .i64 m]

theorem isApart_any (d : Int) (w : World) : Calls Try.prog 61 #[.int .i64 d] w fun e w' => e = .returned (.bool (inB d 0 1000)) ∧ w = w' := by
  unfold inB
  by_cases h1 : 0 ≤ d
  · go_enter Try.func61, Try.ntmps61
    go_wp2
    go_ret
    exact ⟨by simp [h1], rfl⟩
  · go_enter Try.func61, Try.ntmps61
    go_wp2
    go_ret
    exact ⟨by simp; omega, rfl⟩

theorem has_any (l m d : Int) (w : World) : Calls Try.prog 51 #[rchV l m, .int .i64 d] w fun e w' => e = .returned (.bool (decide (d ≥ l) && decide (d ≤ m))) ∧ Below w.heap.size w w' := by
  have hR := World.alloc_heap_new w (.cells #[.int .i64 l, .int .i64 m] 44)
  obtain ⟨k0, k1, _, _⟩ := two_cells hR
  have b := below_alloc (Below.refl w.heap.size w) (.cells #[.int .i64 l, .int .i64 m] 44)
  clear hR
  by_cases h1 : d ≥ l
  · go_enter Try.func51, Try.ntmps51
    go_wp2_with fail
    go_ret
    exact ⟨by simp [h1], b⟩
  · go_enter Try.func51, Try.ntmps51
    go_wp2_with fail
    go_ret
    exact ⟨by simp; omega, b⟩

/-- The call's own blocks: the chain, the answer. -/
structure ChB (w W : World) (A : Option Addr) (n c : Nat) : Prop where
  ch : W.heap[w.heap.size]? = some (.cells #[.slice A n c] 51 (0, 0))
  an : W.heap[w.heap.size + 1]? = some (.cells #[.int .i64 0, .int .i64 0] 44 (0, 0))
  bel : Below w.heap.size w W
theorem ChB.same {w W W' : World} {A : Option Addr} {n c : Nat} (h : ChB w W A n c) (hb : Below W.heap.size W W') : ChB w W' A n c :=
  ⟨(hb.block _ (Array.getElem?_eq_some_iff.1 h.ch).1).trans h.ch, (hb.block _ (Array.getElem?_eq_some_iff.1 h.an).1).trans h.an, h.bel.trans (hb.mono h.bel.size)⟩
theorem ChB.ld {w W : World} {A : Option Addr} {n c : Nat} (h : ChB w W A n c) : W.cell? ⟨w.heap.size, 0, none⟩ = some (.slice A n c) := one_cell h.ch
theorem ChB.made (w : World) (A : Option Addr) (n c : Nat) : ChB w ((w.alloc (.cells #[.slice A n c] 51)).alloc (.cells #[.int .i64 0, .int .i64 0] 44)).drew A n c := by
  refine ⟨?_, ?_, (below_alloc (below_alloc (Below.refl _ _) _) _).drew⟩
  · exact (Below.heap_alloc _ _ _ (by simp)).trans (World.alloc_heap_new w _)
  · have := World.alloc_heap_new (w.alloc (.cells #[.slice A n c] 51)) (.cells #[.int .i64 0, .int .i64 0] 44)
    rw [World.size_alloc] at this
    exact this

set_option maxRecDepth 100000 in
set_option maxHeartbeats 4000000 in
theorem reach_any (A : Option Addr) (n c : Nat) (xs : List Int) (w : World) (h : Rd w A n xs) (hb : Bundle xs) :
    Calls Try.prog 62 #[.agg #[.slice A n c]] w fun e w' => e = .returned (rchV (lowL xs) (sumL xs)) ∧ Below w.heap.size w w' := by
  have hn := bundle_n h hb
  have hG : ∀ W, ChB w W A n c → Calls Try.prog 53 #[.slice A n c] W fun e w' => e = .returned (.int .i64 (gapL xs)) ∧ Below W.heap.size W w' := fun W hW => implGap_any A n c xs W (h.same hW.bel) hn.1 (by omega) (bundle_small hb)
  have hS : ∀ W, ChB w W A n c → Calls Try.prog 52 #[.slice A n c] W fun e w' => e = .returned (.int .i64 (sumL xs)) ∧ Below W.heap.size W w' := fun W hW => implSum_any A n c xs W (h.same hW.bel) (by omega) (bundle_small hb)
  have hl := low_gap2 xs
  have hgd := gap_bd hb
  have hla := last_in hb
  have hgb : -60 ≤ gapL xs ∧ gapL xs ≤ 540 := by unfold gapL; omega
  have s0 := ChB.made w A n c
  have k0 := s0.ld
  generalize sumL xs = s at *
  generalize gapL xs = g at *
  generalize lowL xs = l at *
  have v1 : IntKind.i64.wrap (-g) = -g := wrap_is rfl (by omega) (by omega)
  clear hgd hla hb h
  rcases hl with ⟨q1, q2⟩ | ⟨q1, q2⟩
  · subst q2
    go_enter Try.func62, Try.ntmps62
    go_wp2_with fail
    go_region_with (first
      | (go_at_call 53; refine (hG _ (by first | exact sS | exact s0)).mono ?_; rintro e wG ⟨rfl, bG⟩; have sG : ChB w wG A n c := (by first | exact ChB.same sS bG | exact ChB.same s0 bG); have kG := sG.ld; obtain ⟨zG0, zG1, zG2, zG3⟩ := two_cells sG.an)
      | (go_at_call 52; refine (hS _ (by first | exact sG | exact s0)).mono ?_; rintro e wS ⟨rfl, bS⟩; have sS : ChB w wS A n c := (by first | exact ChB.same sG bS | exact ChB.same s0 bS); have kS := sS.ld; obtain ⟨zS0, zS1, zS2, zS3⟩ := two_cells sS.an))
    all_goals first
      | (go_wp2_with fail; have hRn := two_set sS.an (.int .i64 (-g)) (.int .i64 s); have b5 := two_below sS.bel (Nat.le_succ _) (.int .i64 (-g)) (.int .i64 s); generalize (wS.setCell ⟨w.heap.size + 1, 0, none⟩ (.int .i64 (-g))).setCell ⟨w.heap.size + 1, 1, none⟩ (.int .i64 s) = W4 at hRn b5 ⊢; obtain ⟨u0, u1, _, _⟩ := two_cells hRn; refine bodyPost_ret (v := rchV (-g) s) ?_ rfl ⟨rfl, b5⟩; simp [results, Try.f62, go_sem, u0, u1]; done)
      | (go_wp2_with fail; have hRn := two_set sG.an (.int .i64 (-g)) (.int .i64 s); have b5 := two_below sG.bel (Nat.le_succ _) (.int .i64 (-g)) (.int .i64 s); generalize (wG.setCell ⟨w.heap.size + 1, 0, none⟩ (.int .i64 (-g))).setCell ⟨w.heap.size + 1, 1, none⟩ (.int .i64 s) = W4 at hRn b5 ⊢; obtain ⟨u0, u1, _, _⟩ := two_cells hRn; refine bodyPost_ret (v := rchV (-g) s) ?_ rfl ⟨rfl, b5⟩; simp [results, Try.f62, go_sem, u0, u1]; done)
  · subst q2
    go_enter Try.func62, Try.ntmps62
    go_wp2_with fail
    go_region_with (first
      | (go_at_call 53; refine (hG _ (by first | exact sS | exact s0)).mono ?_; rintro e wG ⟨rfl, bG⟩; have sG : ChB w wG A n c := (by first | exact ChB.same sS bG | exact ChB.same s0 bG); have kG := sG.ld; obtain ⟨zG0, zG1, zG2, zG3⟩ := two_cells sG.an)
      | (go_at_call 52; refine (hS _ (by first | exact sG | exact s0)).mono ?_; rintro e wS ⟨rfl, bS⟩; have sS : ChB w wS A n c := (by first | exact ChB.same sG bS | exact ChB.same s0 bS); have kS := sS.ld; obtain ⟨zS0, zS1, zS2, zS3⟩ := two_cells sS.an))
    all_goals first
      | (go_wp2_with fail; have hRn := two_set sS.an (.int .i64 0) (.int .i64 s); have b5 := two_below sS.bel (Nat.le_succ _) (.int .i64 0) (.int .i64 s); generalize (wS.setCell ⟨w.heap.size + 1, 0, none⟩ (.int .i64 0)).setCell ⟨w.heap.size + 1, 1, none⟩ (.int .i64 s) = W4 at hRn b5 ⊢; obtain ⟨u0, u1, _, _⟩ := two_cells hRn; refine bodyPost_ret (v := rchV 0 s) ?_ rfl ⟨rfl, b5⟩; simp [results, Try.f62, go_sem, u0, u1]; done)
      | (go_wp2_with fail; have hRn := two_set sG.an (.int .i64 0) (.int .i64 s); have b5 := two_below sG.bel (Nat.le_succ _) (.int .i64 0) (.int .i64 s); generalize (wG.setCell ⟨w.heap.size + 1, 0, none⟩ (.int .i64 0)).setCell ⟨w.heap.size + 1, 1, none⟩ (.int .i64 s) = W4 at hRn b5 ⊢; obtain ⟨u0, u1, _, _⟩ := two_cells hRn; refine bodyPost_ret (v := rchV 0 s) ?_ rfl ⟨rfl, b5⟩; simp [results, Try.f62, go_sem, u0, u1]; done)
end Go.Proofs.Ytjciligkaamepaa
