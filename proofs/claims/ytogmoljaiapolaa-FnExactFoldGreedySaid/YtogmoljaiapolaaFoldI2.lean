/- Contracts of the program's functions of chapter 5: backwards; greedy foldings. -/
import Derived.Test.YtogmoljaiapolaaFoldI
import Derived.Test.YtogmoljaiapolaaParts
import Derived.Test.YtogmoljaiapolaaFoldS3
import Derived.RangeFuncBox
namespace Go.Proofs.Ytogmoljaiapolaa
open Go.RowKit Go.Sort

theorem SRel.rev {w wr : World} {B n c g k j : Nat} {xs : List Int} (h : SRel w B n c (some ⟨g, 0, none⟩) (RevAt xs k) wr) (hn : xs.length = n) (hj : j + k + 1 = n) (hkj : k < j) {x y : Int}
    (hx : wr.cell? ⟨g, k, none⟩ = some (.int .i64 x)) (hy : wr.cell? ⟨g, j, none⟩ = some (.int .i64 y)) :
    SRel w B n c (some ⟨g, 0, none⟩) (RevAt xs (k + 1)) ((wr.setCell ⟨g, k, none⟩ (.int .i64 y)).setCell ⟨g, j, none⟩ (.int .i64 x)) := by
  obtain ⟨ys, h1, h2, h3⟩ := h
  have ex := h1.cell k (by omega)
  have ey := h1.cell j (by omega)
  rw [hx] at ex
  rw [hy] at ey
  have ex' : x = ys.getD k 0 := by injection ex with e; injection e
  have ey' : y = ys.getD j 0 := by injection ey with e; injection e
  have s1 := h1.stored k y
  have s2 := s1.1.stored j x
  refine ⟨_, s2.1, ?_, grown_trans_row (grown_trans_row h3 s1.2) s2.2⟩
  exact rev_step h2 (by omega) hkj (by rw [ex']; exact rev_lo h2 (by omega)) (by rw [ey']; exact rev_hi h2 (by omega) (by omega))

set_option maxRecDepth 100000 in
set_option maxHeartbeats 1000000 in
theorem reverseI_any (A : Option Addr) (n c B : Nat) (xs : List Int) (w : World) (h : Own w B A n c xs) (hn : n ≤ 1048576) :
    Calls Try.prog 60 #[.slice A n c] w fun e w' => e = .returned (.tuple #[]) ∧ Own w' B A n c xs.reverse ∧ w.grownBy w' (Value.slice A n c).ownBlock := by
  have HL := Lib.hid h.len
  have v1 : IntKind.i64.wrap ((n : Int) - 1) = (n : Int) - 1 := wrap_is rfl (by omega) (by omega)
  go_enter Try.func60, Try.ntmps60
  go_wp2_with fail
  go_loopw [2, 3] (fun i j wr => ∃ k : Nat, k + k ≤ n + 1 ∧ i = .int .i64 k ∧ j = .int .i64 ((n : Int) - 1 - k) ∧ SRel w B n c A (RevAt xs k) wr) (fun i _ _ => n - (intOf i).toNat)
  case atStart => exact ⟨0, by omega, rfl, by simp, xs, h, rev_zero xs, World.grownBy.refl w _⟩
  case round =>
    obtain ⟨k, hk, rfl, rfl, hs⟩ := hrel
    by_cases hlt : k + k + 1 < n
    · obtain ⟨g, rfl, _, _⟩ := h.form (by omega)
      obtain ⟨j, hj⟩ : ∃ j, j + k + 1 = n := ⟨n - k - 1, by omega⟩
      have ej : (n : Int) - 1 - k = (j : Int) := by omega
      rw [ej]
      obtain ⟨x, y, hcx, hcy, hfx, hfy⟩ : ∃ x y : Int, wr.cell? ⟨g, k, none⟩ = some (.int .i64 x) ∧ wr.cell? ⟨g, j, none⟩ = some (.int .i64 y) ∧ wr.frozen? ⟨g, k, none⟩ = false ∧ wr.frozen? ⟨g, j, none⟩ = false := by
        obtain ⟨ys, h1, h2, _⟩ := hs
        exact ⟨_, _, h1.cell k (by omega), h1.cell j (by omega), h1.free _, h1.free _⟩
      have hkj : k < j := by omega
      have hjn : j < n := by omega
      have hkn : k < n := by omega
      have v2 : IntKind.i64.wrap ((j : Int) - 1) = (j : Int) - 1 := wrap_is rfl (by omega) (by omega)
      have HS := Lib.hid (hs.rev HL.out hj hkj hcx hcy)
      have HJ := Lib.hid hj
      clear hs h hj ej
      go_wp2_with fail
      go_region
      go_wp2_with fail
      go_roundw
      case rel => exact ⟨k + 1, by omega, by go_num, by have := HJ.out; congr 1; omega, HS.out.drN _⟩
      case measure => simp [intOf]; omega
    · have d1 : decide ((k : Int) < (n : Int) - 1 - k) = false := by rw [decide_eq_false_iff_not]; omega
      clear h v1
      go_wp2_with fail
      go_end0
      obtain ⟨ys, h1, h2, h3⟩ := hs
      obtain rfl : ys = xs.reverse := rev_done h2 (by rw [HL.out]; omega)
      exact ⟨rfl, h1, h3⟩

theorem ret_lbq {A : Option Addr} {n c : Nat} {a b : Bool} (h : a = b) : Ending.returned (.tuple #[.slice A n c, .bool a]) = .returned (.tuple #[.slice A n c, .bool b]) := by rw [h]

set_option maxRecDepth 100000 in
set_option maxHeartbeats 1000000 in
theorem implFoldBack_any (A : Option Addr) (n c : Nat) (xs : List Int) (w : World) (h : Rd w A n xs) (hn : n ≤ 1048576) (hA : A = none → n = 0 ∧ c = 0) :
    Calls Try.prog 24 #[.slice A n c] w fun e w' => ∃ (A' : Option Addr) (n' c' : Nat), e = .returned (.tuple #[.slice A' n' c', .bool (rulB xs)]) ∧ Own w' w.heap.size A' n' c' (bakM xs) ∧ n' ≤ 1048576 ∧ Below w.heap.size w w' := by
  have hV := rvalid_any A n c xs w h hn hA
  by_cases hR : rulB xs = true
  · have HR := Lib.hid hR
    have hC := fun w1 (b1 : Below w.heap.size w w1) => cloneI_any A n c xs w1 (h.same b1) hn hA
    rw [hR] at hV
    clear hA hR
    go_enter Try.func24, Try.ntmps24
    go_wp2_with fail
    refine hV.mono ?_
    rintro e w1 ⟨rfl, b1⟩
    go_wp2_with fail
    refine (hC _ b1).mono ?_
    rintro e w2 ⟨A2, c2, rfl, o2, b2⟩
    have b3 := below_then b1 b2
    have o2 := o2.lower b1.size
    go_wp2_with fail
    refine (reverseI_any A2 n c2 _ xs _ o2 hn).mono ?_
    rintro e w3 ⟨rfl, o3, g3⟩
    have b4 := app_mark b3 o2 (Nat.le_refl _) g3
    go_wp2_with fail
    refine bodyPost_ret (results_tmp2 rfl _ _ _) rfl ?_
    exact ⟨A2, n, c2, ret_lbq HR.out.symm, by rw [bakM_yes HR.out]; exact o3, hn, b4⟩
  · rw [Bool.not_eq_true] at hR
    have HR := Lib.hid hR
    rw [hR] at hV
    clear hA hR
    go_enter Try.func24, Try.ntmps24
    go_wp2_with fail
    refine hV.mono ?_
    rintro e w1 ⟨rfl, b1⟩
    have hl := Own.lit w1 (B := w.heap.size) b1.size [] (by simp)
    go_wp2_with fail
    refine bodyPost_ret (results_tmp2 rfl _ _ _) rfl ?_
    exact ⟨_, 0, 0, ret_lbq HR.out.symm, by rw [bakM_no HR.out]; exact hl, by omega, below_alloc b1 _⟩

theorem specFoldBackR_any (A : Option Addr) (n c : Nat) (xs : List Int) (w : World) (h : Rd w A n xs) (hn : n ≤ 1048576) :
    Calls Try.prog 45 #[.slice A n c] w fun e w' => ∃ (A' : Option Addr) (n' c' : Nat), e = .returned (.tuple #[.slice A' n' c', .bool (rulB xs)]) ∧ Rd w' A' n' (bakM xs) ∧ n' ≤ 1048576 ∧ Below w.heap.size w w' :=
  (specFoldBack_any A n c xs w h hn).mono fun _ _ ⟨A', n', c', he, ho, hl, hb⟩ => ⟨A', n', c', he, ho.rd, by omega, hb⟩

/-! Foldings: a text, an end, the least and the greatest place -/
abbrev fldV (s : ByteArray) (e l m : Int) : Value := .agg #[.string s, .int .i64 e, .int .i64 l, .int .i64 m]
abbrev fldC (s : ByteArray) (e l m : Int) : Array Value := #[.string s, .int .i64 e, .int .i64 l, .int .i64 m]
theorem four_cells {W : World} {g : Nat} {a b c d : Value} {T : TypeId} (h : W.heap[g]? = some (.cells #[a, b, c, d] T (0, 0))) :
    W.cell? ⟨g, 0, none⟩ = some a ∧ W.cell? ⟨g, 1, none⟩ = some b ∧ W.cell? ⟨g, 2, none⟩ = some c ∧ W.cell? ⟨g, 3, none⟩ = some d ∧ ∀ j, W.frozen? ⟨g, j, none⟩ = false := by
  refine ⟨?_, ?_, ?_, ?_, fun j => frozen_of_row W _ j _ _ h⟩
  · rw [cell_of_row W _ 0 _ _ _ h]; rfl
  · rw [cell_of_row W _ 1 _ _ _ h]; rfl
  · rw [cell_of_row W _ 2 _ _ _ h]; rfl
  · rw [cell_of_row W _ 3 _ _ _ h]; rfl
abbrev four_put (W : World) (g : Nat) (a b c d : Value) : World := (((W.setCell ⟨g, 0, none⟩ a).setCell ⟨g, 1, none⟩ b).setCell ⟨g, 2, none⟩ c).setCell ⟨g, 3, none⟩ d
theorem four_set {W : World} {g : Nat} {a b c d : Value} {T : TypeId} (h : W.heap[g]? = some (.cells #[a, b, c, d] T (0, 0))) (x y z u : Value) :
    (four_put W g x y z u).heap[g]? = some (.cells #[x, y, z, u] T (0, 0)) := by
  have h1 := heap_setCell_same W g 0 _ _ x h
  have h2 := heap_setCell_same _ g 1 _ _ y h1
  have h3 := heap_setCell_same _ g 2 _ _ z h2
  have h4 := heap_setCell_same _ g 3 _ _ u h3
  simpa using h4
theorem four_below {B : Nat} {w W : World} {g : Nat} (h : Below B w W) (hg : B ≤ g) (x y z u : Value) : Below B w (four_put W g x y z u) :=
  (((h.setCell (p := ⟨g, 0, none⟩) hg _).setCell (p := ⟨g, 1, none⟩) hg _).setCell (p := ⟨g, 2, none⟩) hg _).setCell (p := ⟨g, 3, none⟩) hg _

set_option maxRecDepth 100000 in
set_option maxHeartbeats 1000000 in
theorem fspan_any (s : ByteArray) (e l m : Int) (w : World) (hl : -1000000 ≤ l ∧ l ≤ 1000000) (hm : -1000000 ≤ m ∧ m ≤ 1000000) :
    Calls Try.prog 63 #[fldV s e l m] w fun r w' => r = .returned (.int .i64 (m - l)) ∧ Below w.heap.size w w' := by
  have hR := World.alloc_heap_new w (.cells (fldC s e l m) 45)
  obtain ⟨k0, k1, k2, k3, _⟩ := four_cells hR
  have b := below_alloc (Below.refl w.heap.size w) (.cells (fldC s e l m) 45)
  have v1 : IntKind.i64.wrap (m - l) = m - l := wrap_is rfl (by omega) (by omega)
  clear hR
  go_enter Try.func63, Try.ntmps63
  go_wp2_with fail
  go_ret
  exact ⟨rfl, b⟩
end Go.Proofs.Ytogmoljaiapolaa
