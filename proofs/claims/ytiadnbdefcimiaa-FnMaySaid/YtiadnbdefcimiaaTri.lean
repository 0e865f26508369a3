/- Contracts of chapter 2: triangles, their areas and kinds. -/
import Derived.Test.YtiadnbdefcimiaaSMany
import Derived.Test.YtiadnbdefcimiaaKit
import Derived.Lib.QuietBelow
namespace Go.Proofs.Ytiadnbdefcimiaa
open Go.RowKit Go.Sort

/-- A list that is a triangle. -/
noncomputable def triLB (xs : List Int) : Bool := decide (xs.length = 3) && bundleB xs && triB (xs.getD 0 0) (xs.getD 1 0) (xs.getD 2 0)
theorem triLB_len {xs : List Int} (h : ¬ xs.length = 3) : triLB xs = false := by unfold triLB; simp [h]
theorem triLB_not {xs : List Int} (h : bundleB xs = false) : triLB xs = false := by unfold triLB; simp [h]
theorem triLB_of {xs : List Int} (h3 : xs.length = 3) (h : bundleB xs = true) : triLB xs = triB (xs.getD 0 0) (xs.getD 1 0) (xs.getD 2 0) := by unfold triLB; simp [h3, h]
/-- Three lengths in order that are sides. -/
def TriP (a b c : Int) : Prop := 1 ≤ a ∧ a ≤ b ∧ b ≤ c ∧ c ≤ 60 ∧ c < a + b
theorem triB_asc {a b c : Int} (_h1 : 1 ≤ a) (h2 : a ≤ b) (h3 : b ≤ c) : triB a b c = decide (c < a + b) := by
  unfold triB
  rw [Bool.eq_iff_iff]
  simp only [Bool.and_eq_true, decide_eq_true_eq]
  omega
theorem triLB_yes {xs : List Int} (h : triLB xs = true) : xs.length = 3 ∧ bundleB xs = true ∧ TriP (xs.getD 0 0) (xs.getD 1 0) (xs.getD 2 0) := by
  unfold triLB at h
  simp only [Bool.and_eq_true, decide_eq_true_eq] at h
  obtain ⟨⟨h3, hb⟩, ht⟩ := h
  have hbd := bundleB_true hb
  have b0 := hbd.2.2.1 0 (by omega)
  have b2 := hbd.2.2.1 2 (by omega)
  have a0 := hbd.2.2.2 0 (by omega)
  have a1 := hbd.2.2.2 1 (by omega)
  refine ⟨h3, hb, b0.1, a0, a1, b2.2, ?_⟩
  rw [triB_asc b0.1 a0 a1] at ht
  simpa using ht
theorem triLB_mk {a b c : Int} (h : TriP a b c) : triLB [a, b, c] = true := by
  obtain ⟨h1, h2, h3, h4, h5⟩ := h
  have hb : bundleB [a, b, c] = true := bundleB_mk ⟨by simp, by simp, fun j hj => by
    match j, hj with
    | 0, _ => exact ⟨h1, by show a ≤ 60; omega⟩
    | 1, _ => exact ⟨by show 1 ≤ b; omega, by show b ≤ 60; omega⟩
    | 2, _ => exact ⟨by show 1 ≤ c; omega, h4⟩, fun j hj => by
    match j, hj with
    | 0, _ => exact h2
    | 1, _ => exact h3⟩
  rw [triLB_of rfl hb]
  show triB a b c = true
  rw [triB_asc h1 h2 h3]
  simpa using h5
theorem list3 {xs : List Int} (h : xs.length = 3) : xs = [xs.getD 0 0, xs.getD 1 0, xs.getD 2 0] :=
  match xs, h with
  | [_, _, _], _ => rfl
theorem keep_below {P : Program} {f : FuncId} {args : Array Value} {w : World} {v : Value} (h : Calls P f args w fun e w' => e = .returned v ∧ w = w') : Calls P f args w fun e w' => e = .returned v ∧ Below w.heap.size w w' :=
  h.mono fun _ _ ⟨he, hw⟩ => ⟨he, by subst hw; exact Below.refl _ _⟩
theorem mul_bd {a b A B : Int} (h1 : 0 ≤ a) (h2 : a ≤ A) (h3 : 0 ≤ b) (h4 : b ≤ B) : 0 ≤ a * b ∧ a * b ≤ A * B :=
  ⟨Int.mul_nonneg h1 h3, Int.mul_le_mul h2 h4 h3 (by omega)⟩

set_option maxRecDepth 100000 in
set_option maxHeartbeats 2000000 in
theorem triangleOf_yes (A : Option Addr) (n c : Nat) (xs : List Int) (w : World) (h : Rd w A n xs) (hn : n ≤ 1048576) (ht : triLB xs = true) :
    Calls Try.prog 67 #[.slice A n c] w fun e w' => e = .returned (.tuple #[.agg #[.int .i64 (xs.getD 0 0), .int .i64 (xs.getD 1 0), .int .i64 (xs.getD 2 0)], .bool true]) ∧ Below w.heap.size w w' := by
  have HL := Lib.hid h.1
  obtain ⟨hl, hB, g1, g2, g3, g4, g5⟩ := triLB_yes ht
  obtain rfl : n = 3 := by rw [← h.1]; exact hl
  have HB := Lib.hid hB
  have htb := (triLB_of hl hB).symm.trans ht
  obtain ⟨b, off, rfl, hbl, hc⟩ := h.2 (by omega)
  have hA := h.same (below_alloc (Below.refl _ _) (.cells #[.int .i64 0, .int .i64 0, .int .i64 0] 51))
  have q0 := hc 0 (by omega)
  have q1 := hc 1 (by omega)
  have q2 := hc 2 (by omega)
  obtain ⟨x, ex⟩ : ∃ x, x = xs.getD 0 0 := ⟨_, rfl⟩
  obtain ⟨y, ey⟩ : ∃ y, y = xs.getD 1 0 := ⟨_, rfl⟩
  obtain ⟨z, ez⟩ : ∃ z, z = xs.getD 2 0 := ⟨_, rfl⟩
  rw [← ex] at q0 g1 g2 g5 htb ⊢
  rw [← ey] at q1 g2 g3 g5 htb ⊢
  rw [← ez] at q2 g3 g4 g5 htb ⊢
  clear hl hB ht ex ey ez hc h
  go_enter Try.func67, Try.ntmps67
  go_wp2_with fail
  refine (implStickIn_any _ 3 c xs _ hA (by omega)).mono ?_
  rintro e w1 ⟨rfl, b1⟩
  rw [HB.out]
  have b2 := (below_alloc (Below.refl w.heap.size w) (.cells #[.int .i64 0, .int .i64 0, .int .i64 0] 51)).trans (b1.mono (by simp))
  have hr1 : w1.heap[w.heap.size]? = some (.cells #[.int .i64 0, .int .i64 0, .int .i64 0] 51 (0, 0)) := (b1.block w.heap.size (by simp)).trans (World.alloc_heap_new w _)
  have k0 := (b2.cell (p := ⟨b, off, none⟩) hbl).trans q0
  have k1 := (b2.cell (p := ⟨b, off + 1, none⟩) hbl).trans q1
  have k2 := (b2.cell (p := ⟨b, off + 2, none⟩) hbl).trans q2
  have hb1 : b < w1.heap.size := Nat.lt_of_lt_of_le hbl b2.size
  have k0' := (World.cell?_alloc_lt w1 (Obj.cells #[.int .i64 0, .int .i64 0, .int .i64 0] 51) ⟨b, off, none⟩ hb1).trans k0
  have k1' := (World.cell?_alloc_lt w1 (Obj.cells #[.int .i64 0, .int .i64 0, .int .i64 0] 51) ⟨b, off + 1, none⟩ hb1).trans k1
  have k2' := (World.cell?_alloc_lt w1 (Obj.cells #[.int .i64 0, .int .i64 0, .int .i64 0] 51) ⟨b, off + 2, none⟩ hb1).trans k2
  clear hA q0 q1 q2
  go_wp2_with fail
  go_region
  go_wp2_with fail
  refine (closes_is htb _ (by omega) (by omega) (by omega) (by omega) (by omega) (by omega)).mono ?_
  rintro e w3 ⟨rfl, o, rfl⟩
  have hb3 : Below w1.heap.size w1 ((w1.alloc (.cells #[.int .i64 x, .int .i64 y, .int .i64 z] 51)).drew.alloc (.cells o 51)) := (below_alloc (Below.refl _ _) _).drew.alloc (by show _ ≤ (w1.alloc _).heap.size; simp) _
  have hT : ((w1.alloc (.cells #[.int .i64 x, .int .i64 y, .int .i64 z] 51)).drew.alloc (.cells o 51)).heap[w1.heap.size]? = some (.cells #[.int .i64 x, .int .i64 y, .int .i64 z] 51 (0, 0)) :=
    (Below.heap_alloc _ _ _ (by show _ < (w1.alloc _).heap.size; simp)).trans (World.alloc_heap_new w1 _)
  have hR := (hb3.block w.heap.size (Nat.lt_of_lt_of_le (by simp) b1.size)).trans hr1
  generalize (w1.alloc (.cells #[.int .i64 x, .int .i64 y, .int .i64 z] 51)).drew.alloc (.cells o 51) = W3 at hb3 hT hR ⊢
  have b4 := below_then b2 hb3
  clear k0 k1 k2 k0' k1' k2' hr1
  have t0 : W3.cell? ⟨w1.heap.size, 0, none⟩ = some (.int .i64 x) := by rw [cell_of_row W3 _ 0 _ _ _ hT]; rfl
  have t1 : W3.cell? ⟨w1.heap.size, 1, none⟩ = some (.int .i64 y) := by rw [cell_of_row W3 _ 1 _ _ _ hT]; rfl
  have t2 : W3.cell? ⟨w1.heap.size, 2, none⟩ = some (.int .i64 z) := by rw [cell_of_row W3 _ 2 _ _ _ hT]; rfl
  have r0 : W3.cell? ⟨w.heap.size, 0, none⟩ = some (.int .i64 0) := by rw [cell_of_row W3 _ 0 _ _ _ hR]; rfl
  have r1 : W3.cell? ⟨w.heap.size, 1, none⟩ = some (.int .i64 0) := by rw [cell_of_row W3 _ 1 _ _ _ hR]; rfl
  have r2 : W3.cell? ⟨w.heap.size, 2, none⟩ = some (.int .i64 0) := by rw [cell_of_row W3 _ 2 _ _ _ hR]; rfl
  have f0 : W3.frozen? ⟨w.heap.size, 0, none⟩ = false := frozen_of_row W3 _ 0 _ _ hR
  have f1 : W3.frozen? ⟨w.heap.size, 1, none⟩ = false := frozen_of_row W3 _ 1 _ _ hR
  have f2 : W3.frozen? ⟨w.heap.size, 2, none⟩ = false := frozen_of_row W3 _ 2 _ _ hR
  go_wp2_with fail
  have hRn : (((W3.setCell ⟨w.heap.size, 0, none⟩ (.int .i64 x)).setCell ⟨w.heap.size, 1, none⟩ (.int .i64 y)).setCell ⟨w.heap.size, 2, none⟩ (.int .i64 z)).heap[w.heap.size]? = some (.cells #[.int .i64 x, .int .i64 y, .int .i64 z] 51 (0, 0)) := by
    have h1 := heap_setCell_same W3 w.heap.size 0 _ _ (.int .i64 x) hR
    have h2 := heap_setCell_same _ w.heap.size 1 _ _ (.int .i64 y) h1
    have h3 := heap_setCell_same _ w.heap.size 2 _ _ (.int .i64 z) h2
    simpa using h3
  have b5 : Below w.heap.size w (((W3.setCell ⟨w.heap.size, 0, none⟩ (.int .i64 x)).setCell ⟨w.heap.size, 1, none⟩ (.int .i64 y)).setCell ⟨w.heap.size, 2, none⟩ (.int .i64 z)) := ((b4.setCell (p := ⟨w.heap.size, 0, none⟩) (Nat.le_refl _) _).setCell (p := ⟨w.heap.size, 1, none⟩) (Nat.le_refl _) _).setCell (p := ⟨w.heap.size, 2, none⟩) (Nat.le_refl _) _
  generalize ((W3.setCell ⟨w.heap.size, 0, none⟩ (.int .i64 x)).setCell ⟨w.heap.size, 1, none⟩ (.int .i64 y)).setCell ⟨w.heap.size, 2, none⟩ (.int .i64 z) = W4 at hRn b5 ⊢
  have u0 : W4.cell? ⟨w.heap.size, 0, none⟩ = some (.int .i64 x) := by rw [cell_of_row W4 _ 0 _ _ _ hRn]; rfl
  have u1 : W4.cell? ⟨w.heap.size, 1, none⟩ = some (.int .i64 y) := by rw [cell_of_row W4 _ 1 _ _ _ hRn]; rfl
  have u2 : W4.cell? ⟨w.heap.size, 2, none⟩ = some (.int .i64 z) := by rw [cell_of_row W4 _ 2 _ _ _ hRn]; rfl
  refine bodyPost_ret (v := .tuple #[.agg #[.int .i64 x, .int .i64 y, .int .i64 z], .bool true]) ?_ rfl ⟨rfl, b5⟩
  simp [results, Try.f67, go_sem, u0, u1, u2]

theorem three_set {W : World} {g : Nat} {a b c : Value} {T : TypeId} (h : W.heap[g]? = some (.cells #[a, b, c] T (0, 0))) (x y z : Value) :
    (((W.setCell ⟨g, 0, none⟩ x).setCell ⟨g, 1, none⟩ y).setCell ⟨g, 2, none⟩ z).heap[g]? = some (.cells #[x, y, z] T (0, 0)) := by
  have h1 := heap_setCell_same W g 0 _ _ x h
  have h2 := heap_setCell_same _ g 1 _ _ y h1
  have h3 := heap_setCell_same _ g 2 _ _ z h2
  simpa using h3
theorem three_cells {W : World} {g : Nat} {a b c : Value} {T : TypeId} (h : W.heap[g]? = some (.cells #[a, b, c] T (0, 0))) :
    W.cell? ⟨g, 0, none⟩ = some a ∧ W.cell? ⟨g, 1, none⟩ = some b ∧ W.cell? ⟨g, 2, none⟩ = some c ∧ W.frozen? ⟨g, 0, none⟩ = false ∧ W.frozen? ⟨g, 1, none⟩ = false ∧ W.frozen? ⟨g, 2, none⟩ = false := by
  refine ⟨?_, ?_, ?_, frozen_of_row W _ 0 _ _ h, frozen_of_row W _ 1 _ _ h, frozen_of_row W _ 2 _ _ h⟩
  · rw [cell_of_row W _ 0 _ _ _ h]; rfl
  · rw [cell_of_row W _ 1 _ _ _ h]; rfl
  · rw [cell_of_row W _ 2 _ _ _ h]; rfl
theorem three_below {w W : World} {g : Nat} (h : Below w.heap.size w W) (hg : w.heap.size ≤ g) (x y z : Value) :
    Below w.heap.size w (((W.setCell ⟨g, 0, none⟩ x).setCell ⟨g, 1, none⟩ y).setCell ⟨g, 2, none⟩ z) :=
  ((h.setCell (p := ⟨g, 0, none⟩) hg _).setCell (p := ⟨g, 1, none⟩) hg _).setCell (p := ⟨g, 2, none⟩) hg _

/-- The answer 'none' of triangleOf. -/
def NoTri (w : World) (e : Ending) (w' : World) : Prop := e = .returned (.tuple #[.agg #[.int .i64 0, .int .i64 0, .int .i64 0], .bool false]) ∧ Below w.heap.size w w'
set_option maxRecDepth 100000 in
set_option maxHeartbeats 2000000 in
theorem triangleOf_no (A : Option Addr) (n c : Nat) (xs : List Int) (w : World) (h : Rd w A n xs) (hn : n ≤ 1048576) (ht : triLB xs = false) :
    Calls Try.prog 67 #[.slice A n c] w (NoTri w) := by
  have hA := h.same (below_alloc (Below.refl _ _) (.cells #[.int .i64 0, .int .i64 0, .int .i64 0] 51))
  have hR0 : (w.alloc (.cells #[.int .i64 0, .int .i64 0, .int .i64 0] 51)).heap[w.heap.size]? = some (.cells #[.int .i64 0, .int .i64 0, .int .i64 0] 51 (0, 0)) := World.alloc_heap_new w _
  by_cases h3 : n = 3
  · subst h3
    obtain ⟨b, off, rfl, hbl, hc⟩ := h.2 (by omega)
    by_cases hB : bundleB xs = true
    · have HB := Lib.hid hB
      have htb := (triLB_of h.1 hB).symm.trans ht
      have hz := (bundleB_true hB).2.2.1
      have g0 := hz 0 (by rw [h.1]; omega)
      have g1 := hz 1 (by rw [h.1]; omega)
      have g2 := hz 2 (by rw [h.1]; omega)
      have q0 := hc 0 (by omega)
      have q1 := hc 1 (by omega)
      have q2 := hc 2 (by omega)
      obtain ⟨x, ex⟩ : ∃ x, x = xs.getD 0 0 := ⟨_, rfl⟩
      obtain ⟨y, ey⟩ : ∃ y, y = xs.getD 1 0 := ⟨_, rfl⟩
      obtain ⟨z, ez⟩ : ∃ z, z = xs.getD 2 0 := ⟨_, rfl⟩
      rw [← ex] at q0 g0 htb
      rw [← ey] at q1 g1 htb
      rw [← ez] at q2 g2 htb
      clear hB ht ex ey ez hc h hz
      go_enter Try.func67, Try.ntmps67
      go_wp2_with fail
      refine (implStickIn_any _ 3 c xs _ hA (by omega)).mono ?_
      rintro e w1 ⟨rfl, b1⟩
      rw [HB.out]
      have b2 := (below_alloc (Below.refl w.heap.size w) (.cells #[.int .i64 0, .int .i64 0, .int .i64 0] 51)).trans (b1.mono (by simp))
      have hr1 := (b1.block w.heap.size (by simp)).trans hR0
      have hb1 : b < w1.heap.size := Nat.lt_of_lt_of_le hbl b2.size
      have k0 := (b2.cell (p := ⟨b, off, none⟩) hbl).trans q0
      have k1 := (b2.cell (p := ⟨b, off + 1, none⟩) hbl).trans q1
      have k2 := (b2.cell (p := ⟨b, off + 2, none⟩) hbl).trans q2
      have k0' := (World.cell?_alloc_lt w1 (Obj.cells #[.int .i64 0, .int .i64 0, .int .i64 0] 51) ⟨b, off, none⟩ hb1).trans k0
      have k1' := (World.cell?_alloc_lt w1 (Obj.cells #[.int .i64 0, .int .i64 0, .int .i64 0] 51) ⟨b, off + 1, none⟩ hb1).trans k1
      have k2' := (World.cell?_alloc_lt w1 (Obj.cells #[.int .i64 0, .int .i64 0, .int .i64 0] 51) ⟨b, off + 2, none⟩ hb1).trans k2
      clear hA q0 q1 q2
      go_wp2_with fail
      go_region
      go_wp2_with fail
      refine (closes_is htb _ g0.1 g0.2 g1.1 g1.2 g2.1 g2.2).mono ?_
      rintro e w3 ⟨rfl, o, rfl⟩
      have hb3 : Below w1.heap.size w1 ((w1.alloc (.cells #[.int .i64 x, .int .i64 y, .int .i64 z] 51)).drew.alloc (.cells o 51)) := (below_alloc (Below.refl _ _) _).drew.alloc (by show _ ≤ (w1.alloc _).heap.size; simp) _
      have hR := (hb3.block w.heap.size (Nat.lt_of_lt_of_le (by simp) b1.size)).trans hr1
      generalize (w1.alloc (.cells #[.int .i64 x, .int .i64 y, .int .i64 z] 51)).drew.alloc (.cells o 51) = W3 at hb3 hR ⊢
      have b4 := below_then b2 hb3
      clear k0 k1 k2 k0' k1' k2' hr1
      obtain ⟨r0, r1, r2, f0, f1, f2⟩ := three_cells hR
      have hRn := three_set hR (.int .i64 0) (.int .i64 0) (.int .i64 0)
      have b5 := three_below b4 (Nat.le_refl _) (.int .i64 0) (.int .i64 0) (.int .i64 0)
      have HRn := Lib.hid hRn
      clear hRn hR hb3
      go_wp2_with fail
      have hRn := HRn.out
      generalize ((W3.setCell ⟨w.heap.size, 0, none⟩ (.int .i64 0)).setCell ⟨w.heap.size, 1, none⟩ (.int .i64 0)).setCell ⟨w.heap.size, 2, none⟩ (.int .i64 0) = W4 at hRn b5 ⊢
      obtain ⟨u0, u1, u2, _, _, _⟩ := three_cells hRn
      refine bodyPost_ret (v := .tuple #[.agg #[.int .i64 0, .int .i64 0, .int .i64 0], .bool false]) ?_ rfl ⟨rfl, b5⟩
      simp [results, Try.f67, go_sem, u0, u1, u2]
    · rw [Bool.not_eq_true] at hB
      have HB := Lib.hid hB
      clear hB hc h
      go_enter Try.func67, Try.ntmps67
      go_wp2_with fail
      refine (implStickIn_any _ 3 c xs _ hA (by omega)).mono ?_
      rintro e w1 ⟨rfl, b1⟩
      rw [HB.out]
      have b2 := (below_alloc (Below.refl w.heap.size w) (.cells #[.int .i64 0, .int .i64 0, .int .i64 0] 51)).trans (b1.mono (by simp))
      have hR := (b1.block w.heap.size (by simp)).trans hR0
      obtain ⟨r0, r1, r2, f0, f1, f2⟩ := three_cells hR
      have HRn := Lib.hid (three_set hR (.int .i64 0) (.int .i64 0) (.int .i64 0))
      have b5 := three_below b2 (Nat.le_refl _) (.int .i64 0) (.int .i64 0) (.int .i64 0)
      clear hR hR0 hA
      go_wp2_with fail
      have hRn := HRn.out
      generalize ((w1.setCell ⟨w.heap.size, 0, none⟩ (.int .i64 0)).setCell ⟨w.heap.size, 1, none⟩ (.int .i64 0)).setCell ⟨w.heap.size, 2, none⟩ (.int .i64 0) = W4 at hRn b5 ⊢
      obtain ⟨u0, u1, u2, _, _, _⟩ := three_cells hRn
      refine bodyPost_ret (v := .tuple #[.agg #[.int .i64 0, .int .i64 0, .int .i64 0], .bool false]) ?_ rfl ⟨rfl, b5⟩
      simp [results, Try.f67, go_sem, u0, u1, u2]
  · have hd : ((n : Int) != 3) = true := by simp; omega
    have b2 := below_alloc (Below.refl w.heap.size w) (.cells #[.int .i64 0, .int .i64 0, .int .i64 0] 51)
    clear h hA
    go_enter Try.func67, Try.ntmps67
    go_wp2_with fail
    obtain ⟨u0, u1, u2, _, _, _⟩ := three_cells hR0
    refine bodyPost_ret (v := .tuple #[.agg #[.int .i64 0, .int .i64 0, .int .i64 0], .bool false]) ?_ rfl ⟨rfl, b2⟩
    simp [results, Try.f67, go_sem, u0, u1, u2]
end Go.Proofs.Ytiadnbdefcimiaa
