/- Contracts of the program's counts of threes: StickMany, free. -/
import Derived.Test.YtliplbifgldjeaaThrees
import Derived.Test.YtliplbifgldjeaaWid
namespace Go.Proofs.Ytliplbifgldjeaa
open Go.RowKit Go.Shelf
attribute [local go_sem] Oper.semAt_some

theorem threes_stops (m Bs b off n cap : Nat) (zs : List Int) (hn9 : n ≤ 9) (hzl : zs.length = n) (hz : ∀ j, j < n → 1 ≤ zs.getD j 0 ∧ zs.getD j 0 ≤ 60) (w0 : World)
    (hBs : w0.cell? ⟨Bs, 0, none⟩ = some (.slice (some ⟨b, off, none⟩) n cap)) (hc : ∀ j, j < n → w0.cell? ⟨b, off + j, none⟩ = some (.int .i64 (zs.getD j 0))) (h1 : Bs < w0.heap.size) (h2 : b < w0.heap.size) :
    SeqStopsK Fence.wide m Try.prog 92 #[.pointer (some ⟨Bs, 0, none⟩)] enc3 (Kp2 Bs b) (fun ys => ys = (allT zs).map up) (fun pre => ∀ t ∈ pre, Memb zs t.1) 1000000 w0 :=
  fun l J Jx W hW hJ _ hY h0 => threes1_in m l Bs b off n cap zs hn9 hzl hz J Jx _ hJ hY W ((hW.cell (p := ⟨Bs, 0, none⟩) h1).trans hBs) (fun j hj => (hW.cell (p := ⟨b, off + j, none⟩) h2).trans (hc j hj)) h0

def cnt60 (l : List T60) : Nat := l.countP (fun t => triT t.1)
theorem cnt60_yes {l : List T60} {t : T60} (h : triT t.1 = true) : cnt60 (l ++ [t]) = cnt60 l + 1 := by simp [cnt60, List.countP_append, h]
theorem cnt60_no {l : List T60} {t : T60} (h : triT t.1 = false) : cnt60 (l ++ [t]) = cnt60 l := by simp [cnt60, List.countP_append, h]
theorem cnt60_le (l : List T60) : cnt60 l ≤ l.length := List.countP_le_length
theorem cnt60_all {zs : List Int} (hz : ∀ j, j < zs.length → 1 ≤ zs.getD j 0 ∧ zs.getD j 0 ≤ 60) : cnt60 ((allT zs).map up) = cntT zs := by
  unfold cnt60 cntT cntL
  rw [List.countP_map]
  refine List.countP_congr fun t ht => ?_
  show triT (up t).1 = true ↔ triT t = true
  rw [up_val (memb60 hz (memb_iff.2 ht))]
theorem kp2_b {B x y : Nat} (hx : x < B) (hy : y < B) (W : World) (l : Nat) (o o' : Obj) (h : B ≤ l) (_ : W.heap[l]? = some o) (_ : o.isCells = false) (_ : o.isWalk = false) : Kp2 x y W (W.putObj l o') := by
  have hg := grownBy_putObj' W l o'
  constructor
  · rcases Nat.lt_or_ge x W.heap.size with h1 | h1
    · exact hg.block x h1 (fun e => by injection e; omega)
    · rw [Array.getElem?_eq_none h1]; exact Array.getElem?_eq_none (by show (W.putObj l o').heap.size ≤ x; unfold World.putObj; simp; omega)
  · rcases Nat.lt_or_ge y W.heap.size with h1 | h1
    · exact hg.block y h1 (fun e => by injection e; omega)
    · rw [Array.getElem?_eq_none h1]; exact Array.getElem?_eq_none (by show (W.putObj l o').heap.size ≤ y; unfold World.putObj; simp; omega)
theorem kp2_of {x y : Nat} {W W' : World} {row : Option Nat} (hg : W.grownBy W' row) (hx : x < W.heap.size) (hy : y < W.heap.size) (h1 : ∀ k, row = some k → k ≠ x ∧ k ≠ y) : Kp2 x y W W' :=
  ⟨hg.block x hx (fun e => (h1 x e.symm).1 rfl), hg.block y hy (fun e => (h1 y e.symm).2 rfl)⟩
theorem own_size {β : Type} (B k : Nat) : OwnFrom B (fun (_ : β) (W : World) => k ≤ W.heap.size) := fun _ _ _ _ hs hg _ => Nat.le_trans hs hg.size

/-- The number of threes that are sides, of a bundle. -/
noncomputable def manyM (xs : List Int) : Int := if bundleB xs then (cntT xs : Int) else 0
theorem manyM_yes {xs : List Int} (h : bundleB xs = true) : manyM xs = (cntT xs : Int) := by unfold manyM; rw [if_pos h]
theorem manyM_no {xs : List Int} (h : bundleB xs = false) : manyM xs = 0 := by unfold manyM; rw [h]; rfl

theorem ret_ib2 {x : Int} {a b : Bool} (h : b = a) : Ending.returned (.tuple #[.int .i64 x, .bool a]) = .returned (.tuple #[.int .i64 x, .bool b]) := by rw [h]
set_option maxRecDepth 100000 in
set_option maxHeartbeats 2000000 in
theorem implStickMany_any (A : Option Addr) (n c : Nat) (xs : List Int) (w : World) (h : Rd w A n xs) (hn : n ≤ 1048576) :
    Calls Try.prog 47 #[.slice A n c] w fun e w' => e = .returned (.tuple #[.int .i64 (manyM xs), .bool (bundleB xs)]) ∧ Below w.heap.size w w' := by
  by_cases hb : bundleB xs = true
  · have HM := Lib.hid (manyM_yes hb)
    have HB := Lib.hid hb
    have hbd := (bundleB_true hb)
    have HL := Lib.hid h.1
    have hn9 : n ≤ 9 := by rw [← h.1]; exact hbd.2.1
    have hn1 : 1 ≤ n := by rw [← h.1]; exact hbd.1
    have hz := hbd.2.2.1
    rw [h.1] at hz
    obtain ⟨b, off, rfl, hbl, hc⟩ := h.2 hn1
    clear hb hbd
    refine (callsIn_wide (n := 5)).1 ?_
    refine callsIn_of_wp_marks Try.func47 rfl trivial ?_ rfl
    simp only [Try.ntmps47, List.size_toArray, List.length_cons, List.length_nil, Nat.reduceAdd, Nat.reduceSub, Array.replicate_succ, Array.replicate_zero, List.push_toArray, List.append_toArray, List.nil_append, List.cons_append]
    gi_wp2_with fail
    refine ⟨trivial, (callsIn_wide.2 (valid_any _ _ _ xs _ h hn)).mono ?_⟩
    rintro e w1 ⟨rfl, b1⟩
    rw [HB.out]
    gi_wp2_with fail
    refine ⟨trivial, (threes_in Fence.wide _ trivial rfl _ _ _ _).mono ?_⟩
    rintro e w3 ⟨rfl, rfl⟩
    gi_wp2_with fail
    have hs1 := b1.size
    have bM := (Boxed.new w1 3 (.int .i64 0)).alloc (.cells #[.slice (some ⟨b, off, none⟩) n c] 42)
    have bS := Boxed.new (w1.alloc (.cells #[.int .i64 0] 3)) 42 (.slice (some ⟨b, off, none⟩) n c)
    rw [World.size_alloc] at bS
    have hB0 : Below w.heap.size w ((w1.alloc (.cells #[.int .i64 0] 3)).alloc (.cells #[.slice (some ⟨b, off, none⟩) n c] 42)) := below_alloc (below_alloc b1 _) _
    have hsz : ((w1.alloc (.cells #[.int .i64 0] 3)).alloc (.cells #[.slice (some ⟨b, off, none⟩) n c] 42)).heap.size = w1.heap.size + 2 := by simp
    obtain ⟨W0, hW0⟩ : ∃ W0, (w1.alloc (.cells #[.int .i64 0] 3)).alloc (.cells #[.slice (some ⟨b, off, none⟩) n c] 42) = W0 := ⟨_, rfl⟩
    rw [hW0] at bM bS hB0 hsz ⊢
    clear hW0
    have hcW : ∀ j, j < n → W0.cell? ⟨b, off + j, none⟩ = some (.int .i64 (xs.getD j 0)) := fun j hj => (hB0.cell (p := ⟨b, off + j, none⟩) hbl).trans (hc j hj)
    refine wpIn_rangeFunc_ownH (F := Fence.wide) rfl (by omega) (gf := 92) (lb := #[.pointer (some ⟨w1.heap.size + 1, 0, none⟩)]) rfl trivial (enters_of Try.func92 (by kernel_rfl) rfl)
      (threes_stops _ (w1.heap.size + 1) b off n c xs hn9 HL.out hz W0 bS.cell hcW (by omega) (by omega)) Kp2.trans (kp2_b (by omega) (by omega)) (Below.refl _ _) (fun _ => rfl)
      (fun pre W => (Boxed W w1.heap.size 3 (.int .i64 (cnt60 pre)) ∧ w1.heap.size + 2 ≤ W.heap.size) ∧ Below w.heap.size w W)
      (fun _ _ _ => False)
      (OwnFrom.and (OwnFrom.and (Own.from (boxed_own _ _ _) _) (own_size _ _)) (ownFrom_below (Nat.le_refl _) (by omega)))
      (fun _ _ _ _ _ hs _ _ => hs)
      ⟨⟨bM, by omega⟩, hB0⟩
      (fun x a' W => ∃ Bx, w1.heap.size + 2 ≤ Bx ∧ W.heap[Bx]? = some (.cells #[.int .i64 x.1.1, .int .i64 x.1.2.1, .int .i64 x.1.2.2] 66 (0, 0)) ∧ a' = { tmps := #[.slice (some ⟨b, off, none⟩) n c, undef, .int .i64 0, .bool false, .slice (some ⟨b, off, none⟩) n c, .pointer (some ⟨w1.heap.size, 0, none⟩), .pointer (some ⟨Bx, 0, none⟩), .slice (some ⟨b, off, none⟩) n c, .slice (some ⟨b, off, none⟩) n c, .bool true, .bool false, .slice (some ⟨b, off, none⟩) n c, .func (.func 92) #[] #[.pointer (some ⟨w1.heap.size + 1, 0, none⟩)], .agg #[.int .i64 x.1.1, .int .i64 x.1.2.1, .int .i64 x.1.2.2], undef, undef, undef, undef, undef], defers := [] })
      (fun x a' _ X Y row hs hg hr => by
        obtain ⟨Bx, h1, h2, h3⟩ := hs
        exact ⟨Bx, h1, (hg.block Bx (Array.getElem?_eq_some_iff.1 h2).1 (fun e => by obtain ⟨_, o, ho, hk⟩ := hr Bx e.symm; rw [h2] at ho; cases ho; cases hk)).trans h2, h3⟩)
      ?assign ?body ?done ?stop
    case assign =>
      rintro l pre x W K ⟨⟨bM1, hz1⟩, hB1⟩ hK
      simp only [enc3]
      gi_wp2
      have hs2 := hB1.size
      exact hK _ _ ((KeepsOthers.alloc _ _).from _) (kp2_of (World.grownBy_alloc W _ none) (by omega) (by omega) (fun k e => by cases e)) ⟨⟨bM1.alloc _, by simp; omega⟩, hB1.alloc hB1.size _⟩ ⟨W.heap.size, hz1, World.alloc_heap_new W _, rfl⟩
    case body =>
      rintro l pre x a' W hl ⟨r, hr⟩ ⟨⟨bM1, hz1⟩, hB1⟩ ⟨Bx, hBx, bX, rfl⟩ hlt
      have hs2 := hB1.size
      have k0 : W.cell? ⟨Bx, 0, none⟩ = some (.int .i64 x.1.1) := by rw [cell_of_row W Bx 0 _ _ _ bX]; rfl
      have k1 : W.cell? ⟨Bx, 1, none⟩ = some (.int .i64 x.1.2.1) := by rw [cell_of_row W Bx 1 _ _ _ bX]; rfl
      have k2 : W.cell? ⟨Bx, 2, none⟩ = some (.int .i64 x.1.2.2) := by rw [cell_of_row W Bx 2 _ _ _ bX]; rfl
      obtain ⟨⟨p1, p2⟩, ⟨p3, p4⟩, p5, p6⟩ := x.2
      have hle := cnt60_le pre
      by_cases ht : triT x.1 = true
      · have ht' : triB x.1.1 x.1.2.1 x.1.2.2 = true := ht
        gi_wp2_with fail
        refine ⟨trivial, (CallsIn.inRound l (callsIn_wide.2 (closes_is ht' _ p1 p2 p3 p4 p5 p6))).mono ?_⟩
        rintro e w' ⟨rfl, o, rfl⟩
        have bM2 := bM1.alloc (.cells o 66)
        have cM := bM2.cell
        have fM := bM2.frozen
        gi_wp2
        refine ⟨((KeepsOthers.alloc W _).trans (KeepsOthers.setCell _ _ _)).from _, (kp2_of (World.grownBy_alloc W _ none) (by omega) (by omega) (fun k e => by cases e)).trans (kp2_of (grownBy_setCell' _ _ _) (by simp; omega) (by simp; omega) (fun k e => by cases e; omega)), ⟨?_, by simp; omega⟩, (hB1.alloc hB1.size _).setCell (p := ⟨w1.heap.size, 0, none⟩) hs1 _⟩
        rw [cnt60_yes ht]
        exact bM2.set _
      · rw [Bool.not_eq_true] at ht
        have ht' : triB x.1.1 x.1.2.1 x.1.2.2 = false := ht
        gi_wp2_with fail
        refine ⟨trivial, (CallsIn.inRound l (callsIn_wide.2 (closes_is ht' _ p1 p2 p3 p4 p5 p6))).mono ?_⟩
        rintro e w' ⟨rfl, o, rfl⟩
        gi_wp2
        refine ⟨(KeepsOthers.alloc W _).from _, kp2_of (World.grownBy_alloc W _ none) (by omega) (by omega) (fun k e => by cases e), ⟨?_, by simp; omega⟩, hB1.alloc hB1.size _⟩
        rw [cnt60_no ht]
        exact bM1.alloc _
    case done =>
      rintro D ys W hD rfl ⟨⟨bM1, hz1⟩, hB1⟩ hK
      have cM := bM1.cell
      rw [cnt60_all (by rw [HL.out]; exact hz), ← HM.out] at cM
      gi_wp2
      refine ⟨by simp, .inl ⟨_, _, rfl, run_takeDeferred hK, ?_⟩⟩
      refine ⟨_, results_tmp2 rfl _ _ _, ?_⟩
      exact ⟨ret_ib2 HB.out, hB1.trans (belowK_b (w := w) (Nat.le_refl _) W D _ _ (by omega) hK rfl rfl)⟩
    case stop =>
      rintro D c' pre W _ _ h _
      exact h.elim
  · rw [Bool.not_eq_true] at hb
    have HM := Lib.hid (manyM_no hb)
    have HB := Lib.hid hb
    clear hb
    go_enter Try.func47, Try.ntmps47
    go_wp2_with fail
    refine (valid_any _ _ _ xs _ h hn).mono ?_
    rintro e w1 ⟨rfl, b1⟩
    rw [HB.out]
    go_wp2_with fail
    go_ret2
    exact ⟨by rw [HB.out, HM.out]; rfl, b1⟩

end Go.Proofs.Ytliplbifgldjeaa
