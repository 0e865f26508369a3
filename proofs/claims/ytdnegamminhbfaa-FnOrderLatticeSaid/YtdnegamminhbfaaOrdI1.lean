/- The program's lists of steps: copies, runs in opposite order. -/
import Derived.Test.YtdnegamminhbfaaPathW
import Derived.Test.YtdnegamminhbfaaOrdP
import Derived.Test.YtdnegamminhbfaaPathS
import Derived.Test.YtdnegamminhbfaaRowH
namespace Go.Proofs.Ytdnegamminhbfaa
open Go.RowKit Go.Sort Go.Lib

set_option maxHeartbeats 1000000 in
theorem cloneV_any (b off n c : Nat) (l : List Pt) (w : World) (h : RdV w (some ⟨b, off, none⟩) n l) (hn : n ≤ 1000) :
    Calls Try.prog 119 #[.slice (some ⟨b, off, none⟩) n c] w fun e w' => ∃ A' c', e = .returned (.slice A' n c') ∧ OwnV w' w.heap.size A' n c' l ∧ Below w.heap.size w w' := by
  have hl := OwnV.empty w (Nat.le_refl w.heap.size)
  have hr := h.same (below_alloc (Below.refl _ _) (.cells #[] 65))
  have hnn := fun (W : World) => Lib.run_eql_slice_nil (P := Try.prog) W 60 65 (some ⟨b, off, none⟩) n c 0 0 Try.underlying60
  go_enter Try.func119, Try.ntmps119
  go_wp2_with (at_builtin; refine wpList_appV 60 Try.underlying60 rfl (.tmp 5) (.tmp 6) rfl rfl hl rfl hr (by omega) (by simp) ?_; intro A' c' W' ho' hg')
  go_ret
  have hb := app_markV (below_alloc (Below.refl _ _) _) hl (Nat.le_refl _) hg'
  simp only [Nat.zero_add, List.nil_append] at ho'
  exact ⟨A', c', ret_sl (by simp), ho', hb⟩

/-- A part of the list, its first k and its last k exchanged. -/
def RevS (l : List Pt) (f m k : Nat) (ys : List Pt) : Prop := ys.length = l.length ∧ ∀ i, i < l.length → atP ys i = if f ≤ i ∧ i < f + m ∧ (i < f + k ∨ f + m ≤ i + k) then atP l (f + (f + m - 1) - i) else atP l i
theorem RevS.zero (l : List Pt) (f m : Nat) : RevS l f m 0 l := ⟨rfl, fun i hi => by rw [if_neg (by omega)]⟩
theorem RevS.step {l ys : List Pt} {f m k j : Nat} (h : RevS l f m k ys) (hm : f + m ≤ l.length) (hj : j + k + 1 = m) (hkj : k < j) : RevS l f m (k + 1) ((ys.set (f + k) (atP ys (f + j))).set (f + j) (atP ys (f + k))) := by
  have hl := h.1
  refine ⟨by simp [hl], fun i hi => ?_⟩
  rw [atP_set (by rw [List.length_set]; omega), atP_set (by omega)]
  by_cases e1 : i = f + j
  · rw [if_pos e1, h.2 _ (by omega), if_neg (by omega), if_pos (by omega)]
    congr 1; omega
  · rw [if_neg e1]
    by_cases e2 : i = f + k
    · rw [if_pos e2, h.2 _ (by omega), if_neg (by omega), if_pos (by omega)]
      congr 1; omega
    · rw [if_neg e2, h.2 i hi]
      by_cases e3 : f ≤ i ∧ i < f + m ∧ (i < f + k ∨ f + m ≤ i + k)
      · rw [if_pos e3, if_pos (by omega)]
      · rw [if_neg e3, if_neg (by omega)]
theorem RevS.done {l ys : List Pt} {f m k : Nat} (h : RevS l f m k ys) (h0 : 0 < m) (hm : f + m ≤ l.length) (hk : m ≤ k + k + 1) : ys = runP l f (f + m - 1) := by
  refine ext_atP (by rw [h.1, runP_len l (by omega)]) fun i hi => ?_
  rw [h.1] at hi
  rw [h.2 i hi, runP_at (by omega) (by omega)]
  by_cases e3 : f ≤ i ∧ i < f + m ∧ (i < f + k ∨ f + m ≤ i + k)
  · rw [if_pos e3, if_pos (by omega)]
  · rw [if_neg e3]
    by_cases e4 : f ≤ i ∧ i ≤ f + m - 1
    · rw [if_pos e4]; congr 1; omega
    · rw [if_neg e4]
def SRevV (w : World) (B n c g : Nat) (l : List Pt) (f m k : Nat) (wr : World) : Prop := ∃ ys, OwnV wr B (some ⟨g, 0, none⟩) n c ys ∧ RevS l f m k ys ∧ w.grownBy wr (some g)
theorem SRevV.dr {w wr : World} {B n c g : Nat} {l : List Pt} {f m k : Nat} (h : SRevV w B n c g l f m k wr) : SRevV w B n c g l f m k wr.drew := by
  obtain ⟨ys, h1, h2, h3⟩ := h; exact ⟨ys, h1, h2, ⟨h3.os, h3.tape, h3.output, h3.size, h3.block⟩⟩
theorem SRevV.step {w wr : World} {B n c g k j : Nat} {l : List Pt} {f m : Nat} (h : SRevV w B n c g l f m k wr) (hn : l.length = n) (hm : f + m ≤ n) (hj : j + k + 1 = m) (hkj : k < j) {x y u v : Int}
    (hx : wr.cell? ⟨g, f * 2 + k * 2, none⟩ = some (.int .i64 x)) (hy : wr.cell? ⟨g, f * 2 + k * 2 + 1, none⟩ = some (.int .i64 y)) (hu : wr.cell? ⟨g, f * 2 + j * 2, none⟩ = some (.int .i64 u)) (hv : wr.cell? ⟨g, f * 2 + j * 2 + 1, none⟩ = some (.int .i64 v)) :
    SRevV w B n c g l f m (k + 1) ((((wr.setCell ⟨g, f * 2 + k * 2, none⟩ (.int .i64 u)).setCell ⟨g, f * 2 + k * 2 + 1, none⟩ (.int .i64 v)).setCell ⟨g, f * 2 + j * 2, none⟩ (.int .i64 x)).setCell ⟨g, f * 2 + j * 2 + 1, none⟩ (.int .i64 y)) := by
  obtain ⟨ys, h1, h2, h3⟩ := h
  have ek : f * 2 + k * 2 = (f + k) * 2 := by omega
  have ej : f * 2 + j * 2 = (f + j) * 2 := by omega
  rw [ek] at hx hy ⊢
  rw [ej] at hu hv ⊢
  obtain ⟨a1, a2⟩ := h1.cell (f + k) (by omega)
  obtain ⟨a3, a4⟩ := h1.cell (f + j) (by omega)
  rw [a1] at hx
  rw [a2] at hy
  rw [a3] at hu
  rw [a4] at hv
  have e1 : (atP ys (f + k)).1 = x := by injection hx with e; injection e
  have e2 : (atP ys (f + k)).2 = y := by injection hy with e; injection e
  have e3 : (atP ys (f + j)).1 = u := by injection hu with e; injection e
  have e4 : (atP ys (f + j)).2 = v := by injection hv with e; injection e
  have s1 := h1.stored (j := f + k) (by omega) (atP ys (f + j))
  have s2 := s1.1.stored (j := f + j) (by omega) (atP ys (f + k))
  rw [e1, e2, e3, e4] at s2
  rw [e3, e4] at s1
  exact ⟨_, s2.1, h2.step (by omega) hj hkj, (h3.trans s1.2).trans s2.2⟩

set_option maxRecDepth 100000 in
set_option maxHeartbeats 4000000 in
theorem listsOf_any (A : Option Addr) (n c : Nat) (l : List Pt) (w : World) (h : RdV w A n l) (hn : n ≤ 1000) :
    Calls Try.prog 84 #[.slice A n c] w fun e w' => ∃ A' c' gs, e = .returned (.slice A' n c') ∧ OwnM w' w.heap.size A' n c' gs (rowsOf l) ∧ Below w.heap.size w w' := by
  have hl := h.1
  have HL := Lib.hid hl
  have HR := Lib.hid h
  have HO := Lib.hid (OwnM.empty w (Nat.le_refl w.heap.size))
  clear hl h
  go_enter Try.func84, Try.ntmps84
  go_wp2_with fail
  go_loopw [3, 5, 9] (fun sl _ i wr => ∃ (k : Nat) (A1 : Option Addr) (c1 : Nat) (gs : List Nat), k ≤ n ∧ i = .int .i64 k ∧ sl = .slice A1 k c1 ∧ OwnM wr w.heap.size A1 k c1 gs (rowsOf (l.take k)) ∧ Below w.heap.size w wr) (fun _ _ i _ => n - (intOf i).toNat)
  case atStart => exact ⟨0, _, 0, [], Nat.zero_le _, rfl, rfl, HO.out, below_alloc (Below.refl _ _) _⟩
  case round =>
    obtain ⟨k, A1, c1, gs, hk, rfl, rfl, ho, hb⟩ := hrel
    by_cases hlt : k < n
    · obtain ⟨b, off, rfl, hbl, hc⟩ := (HR.out.below (Nat.le_refl _) hb).2 (by omega)
      obtain ⟨y1, y2⟩ := hc k hlt
      have HTK := Lib.hid (show rowsOf (l.take (k + 1)) = rowsOf (l.take k) ++ [[(atP l k).1, (atP l k).2]] by
        rw [List.take_succ_eq_append_getElem (by rw [HL.out]; exact hlt), ← atP_lt (by rw [HL.out]; exact hlt)]; simp [rowsOf])
      have hV := World.alloc_heap_new wr (vecO (atP l k).1 (atP l k).2)
      obtain ⟨v0, v1, _, _⟩ := pr_cells hV
      have HW2 := Lib.hid (below_alloc hb (vecO (atP l k).1 (atP l k).2))
      have HO1 := Lib.hid (ho.al (vecO (atP l k).1 (atP l k).2))
      generalize (atP l k).1 = qx at *
      generalize (atP l k).2 = qy at *
      have HLs := Lib.hid (list_any qx qy)
      have HSZ := Lib.hid hb.size
      clear hc hV ho hb
      go_wp2_with fail
      refine (HLs.out _).mono ?_
      rintro e w3 ⟨rfl, hrow, b3⟩
      have o3 := HO1.out.same b3
      have o4 := o3.al (.cells #[rowW ((wr.alloc (vecO qx qy)).heap.size + 1) [qx, qy]] 30)
      have hrow4 : RowBlk (w3.alloc (.cells #[rowW ((wr.alloc (vecO qx qy)).heap.size + 1) [qx, qy]] 30)) ((wr.alloc (vecO qx qy)).heap.size + 1) [qx, qy] := ⟨al_old hrow.1, hrow.2⟩
      have hb4 := below_alloc (below_then HW2.out b3) (.cells #[rowW ((wr.alloc (vecO qx qy)).heap.size + 1) [qx, qy]] 30)
      have hcb := box_one w3 (rowW ((wr.alloc (vecO qx qy)).heap.size + 1) [qx, qy]) 30
      have hni : (wr.alloc (vecO qx qy)).heap.size + 1 ∉ gs := fun hm => by have := (HO1.out.mem hm).2; omega
      have hge : w.heap.size ≤ (wr.alloc (vecO qx qy)).heap.size + 1 := by have := HW2.out.size; omega
      rw [World.size_alloc] at hrow4 hcb hni hge o4 hb4
      clear b3 o3 hrow
      go_wp2_with (at_builtin; refine wpList_appRowM rfl (.tmp 13) (.tmp 16) rfl rfl o4 (r := [qx, qy]) rfl hcb hrow4 hge hni (by omega) hb4.size ?_; intro A5 c5 W5 o5 g5 _)
      have hb5 := hb4.grown g5 hb4.size (fun k e => (o4.blk k e).1)
      go_roundw
      case rel =>
        have o6 := o5
        rw [← HTK.out] at o6
        first
          | exact ⟨k + 1, A5, c5, _, by omega, by go_num, rfl, o6, hb5⟩
          | ((repeat apply Exists.intro); exact ⟨⟨k + 1, A5, c5, _, by omega, by go_num, rfl, o6, hb5⟩, rfl⟩)
      case measure => simp [intOf]; omega
    · obtain rfl : k = n := by omega
      rw [List.take_of_length_le (by rw [HL.out]; exact Nat.le_refl _)] at ho
      have HO1 := Lib.hid ho
      clear ho
      go_wp2_with fail
      go_ret
      exact ⟨A1, c1, gs, rfl, HO1.out, hb⟩
end Go.Proofs.Ytdnegamminhbfaa
