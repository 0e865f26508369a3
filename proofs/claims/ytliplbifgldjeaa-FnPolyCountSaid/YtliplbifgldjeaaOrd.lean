/- Three lengths in order. -/
import Derived.Test.YtliplbifgldjeaaMap
import Derived.Test.YtliplbifgldjeaaSort
namespace Go.Proofs.Ytliplbifgldjeaa
open Go.RowKit

set_option maxHeartbeats 1000000 in
theorem slicesSortI_any (A : Option Addr) (n c B : Nat) (xs : List Int) (w : World) (h : Own w B A n c xs) (hn : n ≤ 12) :
    Calls Try.prog 112 #[.slice A n c] w fun e w' => e = .returned (.tuple #[]) ∧ Own w' B A n c (isort xs) ∧ w.grownBy w' (Value.slice A n c).ownBlock := by
  go_enter Try.func112, Try.ntmps112
  go_wp2_with fail
  refine (bitsLen_any n (by omega) _).mono ?_
  rintro e w1 ⟨⟨k, rfl⟩, rfl⟩
  go_wp2_with fail
  refine (pdqSmall_any A n c B xs k _ h hn).mono ?_
  rintro e w2 ⟨rfl, ho, hg⟩
  go_wp2_with fail
  go_end0
  exact ⟨rfl, ho, hg⟩

set_option maxRecDepth 100000 in
set_option maxHeartbeats 2000000 in
theorem inOrder_any (a b c x y z : Int) (w : World) (hx : (isort [a, b, c]).getD 0 0 = x) (hy : (isort [a, b, c]).getD 1 0 = y) (hz : (isort [a, b, c]).getD 2 0 = z) :
    Calls Try.prog 98 #[.agg #[.int .i64 a, .int .i64 b, .int .i64 c]] w fun e w' => e = .returned (.agg #[.int .i64 x, .int .i64 y, .int .i64 z]) ∧ Below w.heap.size w w' := by
  have HX := Lib.hid hx
  have HY := Lib.hid hy
  have HZ := Lib.hid hz
  clear hx hy hz
  obtain ⟨W, hW⟩ : ∃ W, W = (w.alloc (.cells #[.int .i64 a, .int .i64 b, .int .i64 c] 66)).alloc (.cells #[.int .i64 0, .int .i64 0, .int .i64 0] 66) := ⟨_, rfl⟩
  have hR : W.heap[w.heap.size + 1]? = some (.cells #[.int .i64 0, .int .i64 0, .int .i64 0] 66 (0, 0)) := by
    have := World.alloc_heap_new (w.alloc (.cells #[.int .i64 a, .int .i64 b, .int .i64 c] 66)) (.cells #[.int .i64 0, .int .i64 0, .int .i64 0] 66)
    rw [World.size_alloc] at this; rw [hW]; exact this
  have bW : Below w.heap.size w W := by rw [hW]; exact below_alloc (below_alloc (Below.refl _ _) _) _
  have hWs : W.heap.size = w.heap.size + 1 + 1 := by rw [hW]; simp
  have hl : Own (W.alloc (.cells #[.int .i64 a, .int .i64 b, .int .i64 c] 3)) w.heap.size (some ⟨w.heap.size + 1 + 1, 0, none⟩) 3 3 [a, b, c] := by
    have := Own.lit W (B := w.heap.size) bW.size [a, b, c] (by simp)
    rw [hWs] at this
    exact this
  have HW := Lib.hid hW
  clear hW
  go_enter Try.func98, Try.ntmps98
  go_wp2_with fail
  rw [← HW.out]
  refine (slicesSortI_any _ 3 3 w.heap.size [a, b, c] _ hl (by omega)).mono ?_
  rintro e w2 ⟨rfl, o2, g2⟩
  have b2 : Below w.heap.size w w2 := app_mark (below_alloc bW _) hl (Nat.le_refl _) g2
  have hR2 : w2.heap[w.heap.size + 1]? = some (.cells #[.int .i64 0, .int .i64 0, .int .i64 0] 66 (0, 0)) := by
    rw [g2.block _ (by simp; omega) (by simp [Value.ownBlock]), Below.heap_alloc _ _ _ (by omega)]
    exact hR
  obtain ⟨r0, r1, r2, f0, f1, f2⟩ := three_cells hR2
  have k0 := o2.cell 0 (by omega)
  have k1 := o2.cell 1 (by omega)
  have k2 := o2.cell 2 (by omega)
  rw [HX.out] at k0
  rw [HY.out] at k1
  rw [HZ.out] at k2
  have HR2 := Lib.hid hR2
  clear o2 hl hR hR2 g2 HW HX HY HZ
  go_wp2_with fail
  go_region
  have b5 := (three_below b2 (by omega : w.heap.size ≤ w.heap.size + 1) (.int .i64 x) (.int .i64 y) (.int .i64 z)).drew
  have hRn : (((w2.setCell ⟨w.heap.size + 1, 0, none⟩ (.int .i64 x)).setCell ⟨w.heap.size + 1, 1, none⟩ (.int .i64 y)).setCell ⟨w.heap.size + 1, 2, none⟩ (.int .i64 z)).drew.heap[w.heap.size + 1]? = some (.cells #[.int .i64 x, .int .i64 y, .int .i64 z] 66 (0, 0)) := three_set HR2.out _ _ _
  generalize (((w2.setCell ⟨w.heap.size + 1, 0, none⟩ (.int .i64 x)).setCell ⟨w.heap.size + 1, 1, none⟩ (.int .i64 y)).setCell ⟨w.heap.size + 1, 2, none⟩ (.int .i64 z)).drew = W4 at b5 hRn ⊢
  obtain ⟨y0, y1, y2, _, _, _⟩ := three_cells hRn
  go_wp2_with fail
  refine bodyPost_ret (v := .agg #[.int .i64 x, .int .i64 y, .int .i64 z]) ?_ rfl ⟨rfl, b5⟩
  simp [results, Try.f98, go_sem, y0, y1, y2]
end Go.Proofs.Ytliplbifgldjeaa
