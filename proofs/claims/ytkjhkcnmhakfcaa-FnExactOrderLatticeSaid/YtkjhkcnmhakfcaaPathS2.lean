/- The model's corners, areas, rims. -/
import Derived.Test.YtkjhkcnmhakfcaaPathS
import Derived.Test.YtkjhkcnmhakfcaaDiv
import Derived.BigQuiet
namespace Go.Proofs.Ytkjhkcnmhakfcaa
open Go.RowKit Go.Sort Go.Lib

abbrev ptRow (p : Pt) : List Int := [p.1, p.2]
/-- Points as rows. -/
def rowsOf (ps : List Pt) : List (List Int) := ps.map ptRow
theorem rowsOf_len (ps : List Pt) : (rowsOf ps).length = ps.length := by simp [rowsOf]
theorem rowsOf_at {ps : List Pt} {i : Nat} (h : i < ps.length) : rowL (rowsOf ps) i = ptRow (atP ps i) := by
  simp [rowL, rowsOf, atP, List.getD_eq_getElem?_getD, h]
theorem rowsOf_succ {f : Nat → Pt} (k : Nat) : rowsOf ((List.range (k + 1)).map f) = rowsOf ((List.range k).map f) ++ [ptRow (f k)] := by
  simp [rowsOf, List.range_succ]
theorem OwnM.fresh {w : World} {B n c : Nat} {A : Option Addr} {gs : List Nat} {L : List (List Int)} (h : OwnM w B A n c gs L) : w.heap.size ∉ gs := fun hm => by
  obtain ⟨i, hi, e⟩ := List.getElem_of_mem hm
  have hi' : i < L.length := by rw [← h.len]; exact hi
  have := (h.rows i hi').2.lt
  have e2 : gs.getD i 0 = w.heap.size := by simp [List.getD_eq_getElem?_getD, hi, e]
  omega
theorem box_two (w : World) (o : Obj) (v : Value) (t : TypeId) : ((w.alloc o).alloc (.cells #[v] t)).cell? ⟨w.heap.size + 1, 0, none⟩ = some v := by
  rw [cell_of_row _ (w.heap.size + 1) 0 _ _ _ (al_new2 w _ _)]; rfl
theorem row_new (w : World) (r : List Int) (o : Obj) (h : r.length ≤ 16777216) : RowBlk ((w.alloc (.cells (ints r).toArray 3)).alloc o) w.heap.size r := ⟨al_old (World.alloc_heap_new w _), h⟩
theorem box_one (w : World) (v : Value) (t : TypeId) : (w.alloc (.cells #[v] t)).cell? ⟨w.heap.size, 0, none⟩ = some v := by
  rw [cell_of_row _ w.heap.size 0 _ _ _ (World.alloc_heap_new w _)]; rfl

set_option maxRecDepth 100000 in
set_option maxHeartbeats 2000000 in
theorem l6sCross_any (A A' : Option Addr) (c c' : Nat) (r r' : List Int) (w : World) (h : Rd w A 2 r) (h' : Rd w A' 2 r') (hb : ∀ a b : Int, (a = r.getD 0 0 ∨ a = r.getD 1 0) → (b = r'.getD 0 0 ∨ b = r'.getD 1 0) → -1000000 ≤ a * b ∧ a * b ≤ 1000000) :
    Calls Try.prog 97 #[.slice A 2 c, .slice A' 2 c'] w fun e w' => e = .returned (.int .i64 (crs (rowPt r) (rowPt r'))) ∧ Below w.heap.size w w' := by
  obtain ⟨b, off, rfl, hbl, hc⟩ := h.2 (by omega)
  obtain ⟨b', off', rfl, hbl', hc'⟩ := h'.2 (by omega)
  have c0 := hc 0 (by omega)
  have c1 := hc 1 (by omega)
  have c2 := hc' 0 (by omega)
  have c3 := hc' 1 (by omega)
  have h1 := hb (r.getD 0 0) (r'.getD 1 0) (.inl rfl) (.inr rfl)
  have h2 := hb (r.getD 1 0) (r'.getD 0 0) (.inr rfl) (.inl rfl)
  have he : crs (rowPt r) (rowPt r') = r.getD 0 0 * r'.getD 1 0 - r.getD 1 0 * r'.getD 0 0 := rfl
  rw [he]
  rw [Nat.add_zero] at c0 c2
  generalize r.getD 0 0 = x at *
  generalize r.getD 1 0 = y at *
  generalize r'.getD 0 0 = u at *
  generalize r'.getD 1 0 = v at *
  have v1 : IntKind.i64.wrap (x * v) = x * v := wrap_is rfl (by omega) (by omega)
  have v2 : IntKind.i64.wrap (y * u) = y * u := wrap_is rfl (by omega) (by omega)
  have v3 : IntKind.i64.wrap (x * v - y * u) = x * v - y * u := wrap_is rfl (by omega) (by omega)
  clear hc hc' h h' h1 h2 he hb
  go_enter Try.func97, Try.ntmps97
  go_wp2_with fail
  go_quiet (fail)
  go_wp2_with fail
  go_ret
  exact ⟨rfl, below_drewN (Below.refl _ _) _⟩

set_option maxRecDepth 100000 in
set_option maxHeartbeats 2000000 in
theorem l6sCorners_any (A : Option Addr) (n c : Nat) (L : List (List Int)) (w : World) (h : RdM w A n L) (hp : pathB L = true) :
    Calls Try.prog 78 #[.slice A n c] w fun e w' => ∃ A' c', e = .returned (.slice A' n c') ∧ (∃ gs, OwnM w' w.heap.size A' n c' gs (rowsOf (corL (ptsL L)))) ∧ Below w.heap.size w w' := by
  obtain ⟨hP, hst⟩ := pathB_true hp
  have hl := h.1
  have HL := Lib.hid hl
  have hn8 : n ≤ 8 := by have := hP.hi; simp at this; omega
  have HS := Lib.hid (show ∀ i, i < n → stepRow (rowL L i) = true from fun i hi => hst i (by omega))
  have HE := Lib.hid (show corL (ptsL L) = (List.range n).map (cor (ptsL L)) by unfold corL; simp [hl])
  rw [HE.out]
  have h0 := OwnM.empty w (B := w.heap.size) (Nat.le_refl _)
  have H0 := Lib.hid h0
  clear hP hst hl hp h0
  go_enter Try.func78, Try.ntmps78
  go_wp2_with fail
  go_loopw [3, 4, 5, 6] (fun out x y i wr => ∃ (k : Nat) (A' : Option Addr) (c' : Nat) (gs : List Nat), k ≤ n ∧ i = .int .i64 k ∧ x = .int .i64 (cor (ptsL L) k).1 ∧ y = .int .i64 (cor (ptsL L) k).2 ∧ out = .slice A' k c' ∧ OwnM wr w.heap.size A' k c' gs (rowsOf ((List.range k).map (cor (ptsL L)))) ∧ Below w.heap.size w wr) (fun _ _ _ i _ => n - (intOf i).toNat)
  case atStart => exact ⟨0, some ⟨w.heap.size, 0, none⟩, 0, [], Nat.zero_le _, rfl, by rw [cor_zero], by rw [cor_zero], rfl, H0.out, below_alloc (Below.refl _ _) _⟩
  case round =>
    obtain ⟨k, A', c', gs, hk, rfl, rfl, rfl, rfl, ho, hb⟩ := hrel
    by_cases hlt : k < n
    · obtain ⟨b, off, rfl, hbl, hc⟩ := h.2 (by omega)
      obtain ⟨A1, c1, x1, r1⟩ := hc k hlt
      have hr2 := (stepRow_pt (HS.out k hlt))
      have hbd := part_bd (L := L) (k := k) (by rw [HL.out]; omega) (fun i hi => HS.out i (by omega))
      have hcs := cor_succ (l := ptsL L) (i := k) (by simp; rw [HL.out]; exact hlt)
      rw [ptsL_at (by rw [HL.out]; exact hlt)] at hcs
      rw [hr2.2] at x1 r1
      obtain ⟨b1, off1, rfl, hbl1, hc1⟩ := r1.2 (by omega)
      have HO := Lib.hid (show rowsOf ((List.range (k + 1)).map (cor (ptsL L))) = rowsOf ((List.range k).map (cor (ptsL L))) ++ [[(cor (ptsL L) k).1, (cor (ptsL L) k).2]] from rowsOf_succ (f := cor (ptsL L)) k)
      have p1 : -9 ≤ (rowL L k).getD 0 0 ∧ (rowL L k).getD 0 0 ≤ 9 := hr2.1.1
      have p2 : -9 ≤ (rowL L k).getD 1 0 ∧ (rowL L k).getD 1 0 ≤ 9 := hr2.1.2.1
      have E1 := Lib.hid (show (cor (ptsL L) (k + 1)).1 = (cor (ptsL L) k).1 + (rowL L k).getD 0 0 by rw [hcs]; rfl)
      have E2 := Lib.hid (show (cor (ptsL L) (k + 1)).2 = (cor (ptsL L) k).2 + (rowL L k).getD 1 0 by rw [hcs]; rfl)
      have hw1 : ∀ W, Below w.heap.size w W → W.cell? ⟨b, off + k, none⟩ = some (.slice (some ⟨b1, off1, none⟩) 2 c1) ∧ W.cell? ⟨b1, off1, none⟩ = some (.int .i64 ((rowL L k).getD 0 0)) ∧ W.cell? ⟨b1, off1 + 1, none⟩ = some (.int .i64 ((rowL L k).getD 1 0)) := fun W hW =>
        ⟨(hW.cell (p := ⟨b, off + k, none⟩) hbl).trans x1, (hW.cell (p := ⟨b1, off1 + 0, none⟩) hbl1).trans (hc1 0 (by omega)), (hW.cell (p := ⟨b1, off1 + 1, none⟩) hbl1).trans (hc1 1 (by omega))⟩
      generalize (rowL L k).getD 0 0 = px at *
      generalize (rowL L k).getD 1 0 = py at *
      generalize (cor (ptsL L) k).1 = cx at *
      generalize (cor (ptsL L) k).2 = cy at *
      have v1 : IntKind.i64.wrap (cx + px) = cx + px := wrap_is rfl (by omega) (by omega)
      have v2 : IntKind.i64.wrap (cy + py) = cy + py := wrap_is rfl (by omega) (by omega)
      have HB := Lib.hid hb
      have HOW := Lib.hid ho
      have HW := Lib.hid hw1
      clear hc h x1 r1 hc1 hr2 hbd hcs p1 p2 hb ho hw1
      go_wp2_with (first
        | (at_builtin; refine wpList_appRowM rfl _ _ rfl rfl ((HOW.out.al (.cells (ints [cx, cy]).toArray 3)).al _) (r := [cx, cy]) (g := wr.heap.size) rfl (box_two _ _ _ _) (row_new wr [cx, cy] _ (by simp)) HB.out.size (by have := HOW.out.fresh; exact this) (by omega) (by have := HB.out.size; simp; omega) ?_; intro A5 c5 W5 o5 g5 at5; have hb5 : Below w.heap.size w W5 := (below_alloc (below_alloc HB.out _) _).grown g5 (by have := HB.out.size; simp; omega) (fun k e => (HOW.out.blk k e).1); obtain ⟨z0, z1, z2⟩ := HW.out W5 hb5))
      go_wp2_with fail
      go_roundw
      case rel => exact ⟨k + 1, A5, c5, _, by omega, by go_num, by rw [E1.out], by rw [E2.out], rfl, by rw [HO.out]; exact o5, hb5⟩
      case measure => simp [intOf]; omega
    · obtain rfl : k = n := by omega
      clear h
      go_wp2_with fail
      go_ret
      exact ⟨A', c', rfl, ⟨gs, ho⟩, hb⟩
end Go.Proofs.Ytkjhkcnmhakfcaa
