/- Contracts of the program's counts of threes: StickMany, free. -/
import Derived.Test.YtiadnbdefcimiaaClos
namespace Go.Proofs.Ytiadnbdefcimiaa
open Go.RowKit Go.Shelf
attribute [local go_sem] Oper.semAt_some

/-- The number of threes that are sides, of a bundle. -/
noncomputable def manyM (xs : List Int) : Int := if bundleB xs then (cntT xs : Int) else 0
theorem manyM_yes {xs : List Int} (h : bundleB xs = true) : manyM xs = (cntT xs : Int) := by unfold manyM; rw [if_pos h]
theorem manyM_no {xs : List Int} (h : bundleB xs = false) : manyM xs = 0 := by unfold manyM; rw [h]; rfl

theorem ret_ib2 {x : Int} {a b : Bool} (h : b = a) : Ending.returned (.tuple #[.int .i64 x, .bool a]) = .returned (.tuple #[.int .i64 x, .bool b]) := by rw [h]
set_option maxRecDepth 100000 in
set_option maxHeartbeats 2000000 in
theorem free_any (A : Option Addr) (n c : Nat) (xs : List Int) (w : World) (h : Rd w A n xs) (hn1 : 1 ≤ n) (hn9 : n ≤ 9) (hz : ∀ j, j < xs.length → 1 ≤ xs.getD j 0 ∧ xs.getD j 0 ≤ 60) :
    Calls Try.prog 62 #[.slice A n c] w fun e w' => e = .returned (.bool (decide (cntT xs = 0))) ∧ Below w.heap.size w w' := by
  have HL := Lib.hid h.1
  have HZ := Lib.hid hz
  rw [h.1] at hz
  obtain ⟨b, off, rfl, hbl, hc⟩ := h.2 hn1
  refine (callsIn_wide (n := 5)).1 ?_
  refine callsIn_of_wp_marks Try.func62 rfl trivial ?_ rfl
  simp only [Try.ntmps62, List.size_toArray, List.length_cons, List.length_nil, Nat.reduceAdd, Nat.reduceSub, Array.replicate_succ, Array.replicate_zero, List.push_toArray, List.append_toArray, List.nil_append, List.cons_append]
  gi_wp2_with fail
  refine ⟨trivial, (closing_in Fence.wide _ trivial rfl _ _ _ _).mono ?_⟩
  rintro e w3 ⟨rfl, rfl⟩
  gi_wp2_with fail
  have bM := (Boxed.new w 4 (.bool false)).alloc (.cells #[.slice (some ⟨b, off, none⟩) n c] 39)
  have bS := Boxed.new (w.alloc (.cells #[.bool false] 4)) 39 (.slice (some ⟨b, off, none⟩) n c)
  rw [World.size_alloc] at bS
  have hB0 : Below w.heap.size w ((w.alloc (.cells #[.bool false] 4)).alloc (.cells #[.slice (some ⟨b, off, none⟩) n c] 39)) := below_alloc (below_alloc (Below.refl _ _) _) _
  have hsz : ((w.alloc (.cells #[.bool false] 4)).alloc (.cells #[.slice (some ⟨b, off, none⟩) n c] 39)).heap.size = w.heap.size + 2 := by simp
  obtain ⟨W0, hW0⟩ : ∃ W0, (w.alloc (.cells #[.bool false] 4)).alloc (.cells #[.slice (some ⟨b, off, none⟩) n c] 39) = W0 := ⟨_, rfl⟩
  rw [hW0] at bM bS hB0 hsz ⊢
  clear hW0
  have hcW : ∀ j, j < n → W0.cell? ⟨b, off + j, none⟩ = some (.int .i64 (xs.getD j 0)) := fun j hj => (hB0.cell (p := ⟨b, off + j, none⟩) hbl).trans (hc j hj)
  refine wpIn_rangeFunc_ownH (F := Fence.wide) rfl (by omega) (gf := 96) (lb := #[.pointer (some ⟨w.heap.size + 1, 0, none⟩)]) rfl trivial (enters_of Try.func96 (by kernel_rfl) rfl)
    (closing_stops _ (w.heap.size + 1) b off n c xs hn9 HL.out hz W0 bS.cell hcW (by omega) (by omega)) Kp2.trans (kp2_b (by omega) (by omega)) (Below.refl _ _) (fun _ => rfl)
    (fun pre W => ((pre = [] ∧ Boxed W w.heap.size 4 (.bool false)) ∧ w.heap.size + 2 ≤ W.heap.size) ∧ Below w.heap.size w W)
    (fun c' pre W => ((c' = .ret ∧ pre ≠ []) ∧ Boxed W w.heap.size 4 (.bool false)) ∧ Below w.heap.size w W)
    (OwnFrom.and (OwnFrom.and (OwnFrom.and (ownFrom_pure _ _) (Own.from (boxed_own _ _ (fun _ => Value.bool false)) _)) (own_size _ _)) (ownFrom_below (Nat.le_refl _) (by omega)))
    (fun _ => OwnFrom.and (OwnFrom.and (ownFrom_pure _ _) (Own.from (boxed_own _ _ (fun _ => Value.bool false)) _)) (ownFrom_below (Nat.le_refl _) (by omega)))
    ⟨⟨⟨rfl, bM⟩, by omega⟩, hB0⟩
    (fun x a' _ => a' = { tmps := #[.slice (some ⟨b, off, none⟩) n c, undef, .pointer (some ⟨w.heap.size, 0, none⟩), .slice (some ⟨b, off, none⟩) n c, .func (.func 96) #[] #[.pointer (some ⟨w.heap.size + 1, 0, none⟩)], trioV x], defers := [] })
    (fun _ _ _ _ _ _ hs _ _ => hs)
    ?assign ?body ?done ?stop
  case assign =>
    rintro l pre x W K ⟨⟨⟨ha, bM1⟩, hz1⟩, hB1⟩ hK
    simp only [encQ]
    gi_wp2
    exact hK _ _ ((KeepsOthers.refl _).from _) (Kp2.refl _ _ _) ⟨⟨⟨ha, bM1⟩, hz1⟩, hB1⟩ (by first | rfl | simp | go_simp)
  case body =>
    rintro l pre x a' W hl ⟨r, hr⟩ ⟨⟨⟨ha, bM1⟩, hz1⟩, hB1⟩ rfl hlt
    have cM := bM1.cell
    have fM := bM1.frozen
    gi_wp2
    exact ⟨(KeepsOthers.setCell _ _ _).from _, ⟨⟨rfl, by simp⟩, bM1.set _⟩, hB1.setCell (p := ⟨w.heap.size, 0, none⟩) (Nat.le_refl _) _⟩
  case done =>
    rintro D ys W hD rfl ⟨⟨⟨ha, bM1⟩, hz1⟩, hB1⟩ hK
    have HA := Lib.hid ha
    clear ha
    have hcr := bM1.cell
    have hfr := bM1.frozen
    gi_wp2
    have hK' := (KeepsOthers.setCell W ⟨w.heap.size, 0, none⟩ (.bool true)).same D _ hK rfl
    refine ⟨by simp, .inl ⟨_, _, rfl, run_takeDeferred hK', ?_⟩⟩
    have hc5 := cell_kept (World.cell?_setCell_same' W ⟨w.heap.size, 0, none⟩ (.bool true) (by rw [hcr]; rfl)) (grownBy_putObj' _ D (.deferred none)) (fun r e => by cases e; exact ⟨_, hK', rfl⟩)
    have h0 : cntT xs = 0 := (triP_nil xs).1 (by rw [HL.out]; exact HA.out)
    refine ⟨.bool true, ?_, by rw [h0]; rfl, (hB1.setCell (p := ⟨w.heap.size, 0, none⟩) (Nat.le_refl _) _).trans (belowK_b (w := w) (Nat.le_refl _) _ D _ _ (by omega) hK' rfl rfl)⟩
    simp [results, Try.f62, go_sem, hc5]
  case stop =>
    rintro D c' pre W hD hpre ⟨⟨⟨rfl, hne⟩, bM1⟩, hB1⟩ hK
    have hcr := bM1.cell
    have HP := Lib.hid hpre
    have HN := Lib.hid hne
    clear hpre hne
    gi_wp2
    refine ⟨by simp, .inl ⟨_, _, rfl, run_takeDeferred hK, ?_⟩⟩
    have hc5 := cell_kept hcr (grownBy_putObj' _ D (.deferred none)) (fun r e => by cases e; exact ⟨_, hK, rfl⟩)
    have h0 : ¬ cntT xs = 0 := fun h0 => by
      have e := (triP_nil xs).2 h0
      rw [HL.out] at e
      match pre, HN.out, HP.out with
      | [], hn, _ => exact hn rfl
      | t :: _, _, hp =>
        have := hp t (by simp)
        rw [e] at this
        cases this
    refine ⟨.bool false, ?_, by rw [decide_eq_false h0], hB1.trans (belowK_b (w := w) (Nat.le_refl _) W D _ _ (by omega) hK rfl rfl)⟩
    simp [results, Try.f62, go_sem, hc5]

theorem implStickFree_any (A : Option Addr) (n c : Nat) (xs : List Int) (w : World) (h : Rd w A n xs) (hn : n ≤ 1048576) :
    Calls Try.prog 28 #[.slice A n c] w fun e w' => e = .returned (.bool (bundleB xs && decide (cntT xs = 0))) ∧ Below w.heap.size w w' := by
  by_cases hb : bundleB xs = true
  · have hbd := bundleB_true hb
    have hn9 : n ≤ 9 := by rw [← h.1]; exact hbd.2.1
    have hn1 : 1 ≤ n := by rw [← h.1]; exact hbd.1
    have HB := Lib.hid hb
    have HD := Lib.hid hbd
    clear hb hbd
    go_enter Try.func28, Try.ntmps28
    go_wp2_with fail
    refine (valid_any _ _ _ xs _ h hn).mono ?_
    rintro e w1 ⟨rfl, b1⟩
    rw [HB.out]
    go_wp2_with fail
    refine (free_any _ _ _ xs _ (h.same b1) hn1 hn9 HD.out.2.2.1).mono ?_
    rintro e w2 ⟨rfl, b2⟩
    go_wp2_with fail
    go_ret
    exact ⟨by rw [HB.out]; simp, below_then b1 b2⟩
  · rw [Bool.not_eq_true] at hb
    have HB := Lib.hid hb
    clear hb
    go_enter Try.func28, Try.ntmps28
    go_wp2_with fail
    refine (valid_any _ _ _ xs _ h hn).mono ?_
    rintro e w1 ⟨rfl, b1⟩
    rw [HB.out]
    go_wp2_with fail
    go_ret
    exact ⟨by rw [HB.out]; rfl, b1⟩
end Go.Proofs.Ytiadnbdefcimiaa
