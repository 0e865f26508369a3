/- Joined: PathS, PathS2, PathS3, PathS4. -/
import Derived.Test.YtdnegamminhbfaaPathR
import Derived.Test.YtdnegamminhbfaaKit
import Derived.Test.YtdnegamminhbfaaDiv
import Derived.BigQuiet
/- The model's reading of a path; its corners. -/
namespace Go.Proofs.Ytdnegamminhbfaa
open Go.RowKit Go.Sort Go.Lib

set_option maxRecDepth 100000 in
set_option maxHeartbeats 2000000 in
theorem l6sStep_any (A : Option Addr) (n c : Nat) (r : List Int) (w : World) (h : Rd w A n r) (hn : n ≤ 1048576) :
    Calls Try.prog 125 #[.slice A n c] w fun e w' => e = .returned (.bool (stepRow r)) ∧ w = w' := by
  have hl := h.1
  by_cases h2 : n = 2
  · subst h2
    obtain ⟨b, off, rfl, hbl, hc⟩ := h.2 (by omega)
    have c0 := hc 0 (by omega)
    have c1 := hc 1 (by omega)
    have hS : stepRow r = (inB (r.getD 0 0) (-9) 9 && inB (r.getD 1 0) (-9) 9 && !(decide (r.getD 0 0 = 0) && decide (r.getD 1 0 = 0))) := by unfold stepRow inB; rw [hl]; simp
    rw [hS]
    obtain ⟨x, ex⟩ : ∃ x, x = r.getD 0 0 := ⟨_, rfl⟩
    obtain ⟨y, ey⟩ : ∃ y, y = r.getD 1 0 := ⟨_, rfl⟩
    rw [← ex, ← ey]
    rw [← ex] at c0
    rw [← ey] at c1
    rw [Nat.add_zero] at c0
    clear hc h hl ex ey hS
    cases hx : inB x (-9) 9 with
    | true =>
      cases hy : inB y (-9) 9 with
      | true =>
        have HX := Lib.hid hx
        have HY := Lib.hid hy
        clear hx hy
        by_cases hx0 : x = 0
        · by_cases hy0 : y = 0
          · subst hx0 hy0
            go_enter Try.func125, Try.ntmps125
            go_wp2_with (first | (go_at_call 101; refine (l6In_is HX.out _).mono ?_; rintro e w' ⟨rfl, rfl⟩) | (go_at_call 101; refine (l6In_is HY.out _).mono ?_; rintro e w' ⟨rfl, rfl⟩))
            go_ret
            exact ⟨rfl, rfl⟩
          · subst hx0
            have d1 : (y != 0) = true := by simpa using hy0
            have HY0 := Lib.hid hy0
            clear hy0
            go_enter Try.func125, Try.ntmps125
            go_wp2_with (first | (go_at_call 101; with_reducible refine (l6In_is HX.out _).mono ?_; rintro e w' ⟨rfl, rfl⟩) | (go_at_call 101; with_reducible refine (l6In_is HY.out _).mono ?_; rintro e w' ⟨rfl, rfl⟩))
            go_ret
            exact ⟨by simp [HY0.out], rfl⟩
        · have d1 : (x != 0) = true := by simpa using hx0
          have HX0 := Lib.hid hx0
          clear hx0
          go_enter Try.func125, Try.ntmps125
          go_wp2_with (first | (go_at_call 101; with_reducible refine (l6In_is HX.out _).mono ?_; rintro e w' ⟨rfl, rfl⟩) | (go_at_call 101; with_reducible refine (l6In_is HY.out _).mono ?_; rintro e w' ⟨rfl, rfl⟩))
          go_ret
          exact ⟨by simp [HX0.out], rfl⟩
      | false =>
        have HX := Lib.hid hx
        have HY := Lib.hid hy
        clear hx hy
        go_enter Try.func125, Try.ntmps125
        go_wp2_with (first | (go_at_call 101; with_reducible refine (l6In_is HX.out _).mono ?_; rintro e w' ⟨rfl, rfl⟩) | (go_at_call 101; with_reducible refine (l6In_is HY.out _).mono ?_; rintro e w' ⟨rfl, rfl⟩))
        go_ret
        exact ⟨rfl, rfl⟩
    | false =>
      have HX := Lib.hid hx
      clear hx
      go_enter Try.func125, Try.ntmps125
      go_wp2_with (go_at_call 101; with_reducible refine (l6In_is HX.out _).mono ?_; rintro e w' ⟨rfl, rfl⟩)
      go_ret
      exact ⟨rfl, rfl⟩
  · have hS : stepRow r = false := by unfold stepRow; rw [hl]; simp [h2]
    have d1 : ((n : Int) == 2) = false := by simp; omega
    rw [hS]
    clear h hl hS h2
    go_enter Try.func125, Try.ntmps125
    go_wp2_with fail
    go_ret
    exact ⟨rfl, rfl⟩

set_option maxRecDepth 100000 in
set_option maxHeartbeats 2000000 in
theorem l6sSum_any (A : Option Addr) (n c : Nat) (L : List (List Int)) (w : World) (h : RdM w A n L) (hs : SmallM L) (hst : ∀ i, i < n → stepRow (rowL L i) = true) :
    Calls Try.prog 126 #[.slice A n c] w fun e w' => e = .returned (.tuple #[.int .i64 (tot (ptsL L)).1, .int .i64 (tot (ptsL L)).2]) ∧ Below w.heap.size w w' := by
  have hl := h.1
  have hn : n ≤ 1048576 := by rw [← hl]; exact hs.len
  have HL := Lib.hid hl
  have HT := Lib.hid (show cor (ptsL L) n = tot (ptsL L) by rw [← hl, show L.length = (ptsL L).length by simp]; exact cor_len _)
  have HS := Lib.hid hst
  rw [← HT.out]
  clear hst hs hl
  go_enter Try.func126, Try.ntmps126
  go_wp2_with fail
  go_loopw [4, 5, 6] (fun x y i wr => ∃ k : Nat, k ≤ n ∧ i = .int .i64 k ∧ x = .int .i64 (cor (ptsL L) k).1 ∧ y = .int .i64 (cor (ptsL L) k).2 ∧ Below w.heap.size w wr) (fun _ _ i _ => n - (intOf i).toNat)
  case atStart => exact ⟨0, Nat.zero_le _, rfl, by rw [cor_zero], by rw [cor_zero], Below.refl _ _⟩
  case round =>
    obtain ⟨k, hk, rfl, rfl, rfl, hb⟩ := hrel
    by_cases hlt : k < n
    · obtain ⟨b, off, rfl, hbl, hc⟩ := h.2 (by omega)
      obtain ⟨A1, c1, x1, r1⟩ := hc k hlt
      have hr2 := (stepRow_pt (HS.out k hlt))
      have hbd := part_bd (L := L) (k := k) (by rw [HL.out]; omega) (fun i hi => HS.out i (by omega))
      have hcs := cor_succ (l := ptsL L) (i := k) (by simp; rw [HL.out]; exact hlt)
      rw [ptsL_at (by rw [HL.out]; exact hlt)] at hcs
      have hcx : wr.cell? ⟨b, off + k, none⟩ = some (.slice A1 (rowL L k).length c1) := (hb.cell (p := ⟨b, off + k, none⟩) hbl).trans x1
      rw [hr2.2] at hcx r1
      obtain ⟨b1, off1, rfl, hbl1, hc1⟩ := r1.2 (by omega)
      have c0 := (hb.cell (p := ⟨b1, off1 + 0, none⟩) hbl1).trans (hc1 0 (by omega))
      have c1' := (hb.cell (p := ⟨b1, off1 + 1, none⟩) hbl1).trans (hc1 1 (by omega))
      rw [Nat.add_zero] at c0
      have hp := hr2.1
      have e1 : (cor (ptsL L) (k + 1)).1 = (cor (ptsL L) k).1 + (rowL L k).getD 0 0 := by rw [hcs]; rfl
      have e2 : (cor (ptsL L) (k + 1)).2 = (cor (ptsL L) k).2 + (rowL L k).getD 1 0 := by rw [hcs]; rfl
      have p1 : -9 ≤ (rowL L k).getD 0 0 ∧ (rowL L k).getD 0 0 ≤ 9 := hp.1
      have p2 : -9 ≤ (rowL L k).getD 1 0 ∧ (rowL L k).getD 1 0 ≤ 9 := hp.2.1
      have v1 : IntKind.i64.wrap ((cor (ptsL L) k).1 + (rowL L k).getD 0 0) = (cor (ptsL L) k).1 + (rowL L k).getD 0 0 := wrap_is rfl (by omega) (by omega)
      have v2 : IntKind.i64.wrap ((cor (ptsL L) k).2 + (rowL L k).getD 1 0) = (cor (ptsL L) k).2 + (rowL L k).getD 1 0 := wrap_is rfl (by omega) (by omega)
      have E1 := Lib.hid e1
      have E2 := Lib.hid e2
      have HB := Lib.hid hb
      generalize (rowL L k).getD 0 0 = px at *
      generalize (rowL L k).getD 1 0 = py at *
      generalize (cor (ptsL L) k).1 = cx at *
      generalize (cor (ptsL L) k).2 = cy at *
      clear hc h x1 r1 hc1 hr2 hbd hcs e1 e2 hp p1 p2 hb
      go_wp2_with fail
      go_roundw
      case rel => exact ⟨k + 1, by omega, by go_num, by rw [E1.out], by rw [E2.out], HB.out⟩
      case measure => simp [intOf]; omega
    · obtain rfl : k = n := by omega
      clear h
      go_wp2_with fail
      refine bodyPost_ret (results_tmp2 rfl _ _ _) rfl ?_
      exact ⟨rfl, hb⟩

set_option maxRecDepth 100000 in
set_option maxHeartbeats 2000000 in
theorem specPathIn_any (A : Option Addr) (n c : Nat) (L : List (List Int)) (w : World) (h : RdM w A n L) (hs : SmallM L) :
    Calls Try.prog 80 #[.slice A n c] w fun e w' => e = .returned (.bool (pathB L)) ∧ Below w.heap.size w w' := by
  have hl := h.1
  have hn : n ≤ 1048576 := by rw [← hl]; exact hs.len
  have HL := Lib.hid hl
  have HS := Lib.hid hs
  have HH := Lib.hid h
  obtain ⟨pb, epb⟩ : ∃ pb, pb = pathB L := ⟨_, rfl⟩
  rw [← epb]
  have EPB := Lib.hid epb
  clear epb hs hl
  go_enter Try.func80, Try.ntmps80
  go_wp2_with fail
  go_loopw [3] (fun i wr => ∃ k : Nat, k ≤ n ∧ i = .int .i64 k ∧ (∀ j, j < k → stepRow (rowL L j) = true) ∧ Below w.heap.size w wr) (fun i _ => n - (intOf i).toNat)
  case atStart => exact ⟨0, Nat.zero_le _, rfl, fun j hj => absurd hj (by omega), Below.refl _ _⟩
  case round =>
    obtain ⟨k, hk, rfl, hst, hb⟩ := hrel
    by_cases hlt : k < n
    · obtain ⟨b, off, rfl, hbl, hc⟩ := h.2 (by omega)
      obtain ⟨A1, c1, x1, r1⟩ := hc k hlt
      have hcx : wr.cell? ⟨b, off + k, none⟩ = some (.slice A1 (rowL L k).length c1) := (hb.cell (p := ⟨b, off + k, none⟩) hbl).trans x1
      have hSt := l6sStep_any A1 (rowL L k).length c1 (rowL L k) wr (r1.same hb) (HS.out.row (by rw [HL.out]; exact hlt))
      have HB := Lib.hid hb
      have HST := Lib.hid hst
      cases hsr : stepRow (rowL L k) with
      | false =>
        have HF := Lib.hid (EPB.out.trans (pathB_row (by rw [HL.out]; exact hlt) hsr))
        rw [hsr] at hSt
        generalize (rowL L k).length = m at *
        clear hc h x1 r1 hb hst hsr
        go_wp2_with fail
        refine hSt.mono ?_
        rintro e w2 ⟨rfl, rfl⟩
        go_wp2_with fail
        go_ret
        exact ⟨ret_b HF.out.symm, HB.out⟩
      | true =>
        have HN := Lib.hid (show ∀ j, j < k + 1 → stepRow (rowL L j) = true from fun j hj => by
          by_cases e : j = k
          · rw [e]; exact hsr
          · exact hst j (by omega))
        rw [hsr] at hSt
        generalize (rowL L k).length = m at *
        clear hc h x1 r1 hb hst hsr
        go_wp2_with fail
        refine hSt.mono ?_
        rintro e w2 ⟨rfl, rfl⟩
        go_wp2_with fail
        go_roundw
        case rel => exact ⟨k + 1, by omega, by go_num, HN.out, HB.out⟩
        case measure => simp [intOf]; omega
    · obtain rfl : k = n := by omega
      have hSm := l6sSum_any A k c L wr (h.same hb) HS.out hst
      have hp : pathB L = (inB (k : Int) 3 8 && ((tot (ptsL L)).1 == 0) && ((tot (ptsL L)).2 == 0)) := by
        have h1 : L.all stepRow = true := List.all_eq_true.2 fun r hr => by
          obtain ⟨i, hi, rfl⟩ := List.getElem_of_mem hr
          have := hst i (by rw [← HL.out]; exact hi)
          simpa [rowL, List.getD_eq_getElem?_getD, hi] using this
        unfold pathB inB
        have h2 : decide (tot (L.map rowPt) = (0, 0)) = (((tot (L.map rowPt)).1 == 0) && ((tot (L.map rowPt)).2 == 0)) := by
          obtain ⟨a, b⟩ := tot (L.map rowPt)
          simp only [Prod.mk.injEq]
          rw [Bool.eq_iff_iff]
          simp
        have h3 : (decide (3 ≤ k) && decide (k ≤ 8)) = (decide (3 ≤ (k : Int)) && decide ((k : Int) ≤ 8)) := by
          rw [Bool.eq_iff_iff]; simp only [Bool.and_eq_true, decide_eq_true_eq]; omega
        rw [h1, HL.out, h2, h3, Bool.true_and, Bool.and_assoc, Bool.and_assoc, Bool.and_assoc]
      have HP := Lib.hid (EPB.out.trans hp)
      have HB := Lib.hid hb
      clear h hst hb hp
      cases hi : inB (k : Int) 3 8 with
      | false =>
        have HI := Lib.hid hi
        clear hi
        go_wp2_with fail
        refine hSm.mono ?_
        rintro e w2 ⟨rfl, b2⟩
        go_wp2_with (go_at_call 101; refine (l6In_is HI.out _).mono ?_; rintro e w' ⟨rfl, rfl⟩)
        go_ret
        exact ⟨ret_b (by rw [HP.out, HI.out]; rfl), below_then HB.out b2⟩
      | true =>
        have HI := Lib.hid hi
        clear hi
        generalize (tot (ptsL L)).1 = tx at *
        generalize (tot (ptsL L)).2 = ty at *
        by_cases hx : tx = 0
        · subst hx
          go_wp2_with fail
          refine hSm.mono ?_
          rintro e w2 ⟨rfl, b2⟩
          go_wp2_with (go_at_call 101; refine (l6In_is HI.out _).mono ?_; rintro e w' ⟨rfl, rfl⟩)
          go_ret
          exact ⟨ret_b (by rw [HP.out, HI.out]; rfl), below_then HB.out b2⟩
        · have d1 : (tx == 0) = false := by simpa using hx
          have D1 := Lib.hid d1
          clear hx
          go_wp2_with fail
          refine hSm.mono ?_
          rintro e w2 ⟨rfl, b2⟩
          go_wp2_with (go_at_call 101; refine (l6In_is HI.out _).mono ?_; rintro e w' ⟨rfl, rfl⟩)
          go_ret
          exact ⟨ret_b (by rw [HP.out, HI.out, D1.out]; rfl), below_then HB.out b2⟩
end Go.Proofs.Ytdnegamminhbfaa

/- The model's corners, areas, rims. -/
namespace Go.Proofs.Ytdnegamminhbfaa
open Go.RowKit Go.Sort Go.Lib

abbrev ptRow (p : Pt) : List Int := [p.1, p.2]
/-- Points as rows. -/
def rowsOf (ps : List Pt) : List (List Int) := ps.map ptRow
theorem rowsOf_len (ps : List Pt) : (rowsOf ps).length = ps.length := by simp [rowsOf]
theorem rowsOf_at {ps : List Pt} {i : Nat} (h : i < ps.length) : rowL (rowsOf ps) i = ptRow (atP ps i) := by
  simp [rowL, rowsOf, atP, List.getD_eq_getElem?_getD, h]
theorem rowsOf_succ {f : Nat → Pt} (k : Nat) : rowsOf ((List.range (k + 1)).map f) = rowsOf ((List.range k).map f) ++ [ptRow (f k)] := by
  simp [rowsOf, List.range_succ]
theorem OwnM.fresh {w : World} {B n c : Nat} {A : Option Addr} {gs : List Nat} {L : List (List Int)} (h : OwnM w B A n c gs L) : w.heap.size ∉ gs := fun hm => by
  obtain ⟨i, hi, e⟩ := List.getElem_of_mem hm
  have hi' : i < L.length := by rw [← h.len]; exact hi
  have := (h.rows i hi').2.lt
  have e2 : gs.getD i 0 = w.heap.size := by simp [List.getD_eq_getElem?_getD, hi, e]
  omega
theorem box_two (w : World) (o : Obj) (v : Value) (t : TypeId) : ((w.alloc o).alloc (.cells #[v] t)).cell? ⟨w.heap.size + 1, 0, none⟩ = some v := by
  rw [cell_of_row _ (w.heap.size + 1) 0 _ _ _ (al_new2 w _ _)]; rfl
theorem row_new (w : World) (r : List Int) (o : Obj) (h : r.length ≤ 16777216) : RowBlk ((w.alloc (.cells (ints r).toArray 3)).alloc o) w.heap.size r := ⟨al_old (World.alloc_heap_new w _), h⟩
theorem box_one (w : World) (v : Value) (t : TypeId) : (w.alloc (.cells #[v] t)).cell? ⟨w.heap.size, 0, none⟩ = some v := by
  rw [cell_of_row _ w.heap.size 0 _ _ _ (World.alloc_heap_new w _)]; rfl

set_option maxRecDepth 100000 in
set_option maxHeartbeats 2000000 in
theorem l6sCross_any (A A' : Option Addr) (c c' : Nat) (r r' : List Int) (w : World) (h : Rd w A 2 r) (h' : Rd w A' 2 r') (hb : ∀ a b : Int, (a = r.getD 0 0 ∨ a = r.getD 1 0) → (b = r'.getD 0 0 ∨ b = r'.getD 1 0) → -1000000 ≤ a * b ∧ a * b ≤ 1000000) :
    Calls Try.prog 147 #[.slice A 2 c, .slice A' 2 c'] w fun e w' => e = .returned (.int .i64 (crs (rowPt r) (rowPt r'))) ∧ Below w.heap.size w w' := by
  obtain ⟨b, off, rfl, hbl, hc⟩ := h.2 (by omega)
  obtain ⟨b', off', rfl, hbl', hc'⟩ := h'.2 (by omega)
  have c0 := hc 0 (by omega)
  have c1 := hc 1 (by omega)
  have c2 := hc' 0 (by omega)
  have c3 := hc' 1 (by omega)
  have h1 := hb (r.getD 0 0) (r'.getD 1 0) (.inl rfl) (.inr rfl)
  have h2 := hb (r.getD 1 0) (r'.getD 0 0) (.inr rfl) (.inl rfl)
  have he : crs (rowPt r) (rowPt r') = r.getD 0 0 * r'.getD 1 0 - r.getD 1 0 * r'.getD 0 0 := rfl
  rw [he]
  rw [Nat.add_zero] at c0 c2
  generalize r.getD 0 0 = x at *
  generalize r.getD 1 0 = y at *
  generalize r'.getD 0 0 = u at *
  generalize r'.getD 1 0 = v at *
  have v1 : IntKind.i64.wrap (x * v) = x * v := wrap_is rfl (by omega) (by omega)
  have v2 : IntKind.i64.wrap (y * u) = y * u := wrap_is rfl (by omega) (by omega)
  have v3 : IntKind.i64.wrap (x * v - y * u) = x * v - y * u := wrap_is rfl (by omega) (by omega)
  clear hc hc' h h' h1 h2 he hb
  go_enter Try.func147, Try.ntmps147
  go_wp2_with fail
  go_quiet (fail)
  go_wp2_with fail
  go_ret
  exact ⟨rfl, below_drewN (Below.refl _ _) _⟩

set_option maxRecDepth 100000 in
set_option maxHeartbeats 2000000 in
theorem l6sCorners_any (A : Option Addr) (n c : Nat) (L : List (List Int)) (w : World) (h : RdM w A n L) (hp : pathB L = true) :
    Calls Try.prog 146 #[.slice A n c] w fun e w' => ∃ A' c', e = .returned (.slice A' n c') ∧ (∃ gs, OwnM w' w.heap.size A' n c' gs (rowsOf (corL (ptsL L)))) ∧ Below w.heap.size w w' := by
  obtain ⟨hP, hst⟩ := pathB_true hp
  have hl := h.1
  have HL := Lib.hid hl
  have hn8 : n ≤ 8 := by have := hP.hi; simp at this; omega
  have HS := Lib.hid (show ∀ i, i < n → stepRow (rowL L i) = true from fun i hi => hst i (by omega))
  have HE := Lib.hid (show corL (ptsL L) = (List.range n).map (cor (ptsL L)) by unfold corL; simp [hl])
  rw [HE.out]
  have h0 := OwnM.empty w (B := w.heap.size) (Nat.le_refl _)
  have H0 := Lib.hid h0
  clear hP hst hl hp h0
  go_enter Try.func146, Try.ntmps146
  go_wp2_with fail
  go_loopw [3, 4, 5, 6] (fun out x y i wr => ∃ (k : Nat) (A' : Option Addr) (c' : Nat) (gs : List Nat), k ≤ n ∧ i = .int .i64 k ∧ x = .int .i64 (cor (ptsL L) k).1 ∧ y = .int .i64 (cor (ptsL L) k).2 ∧ out = .slice A' k c' ∧ OwnM wr w.heap.size A' k c' gs (rowsOf ((List.range k).map (cor (ptsL L)))) ∧ Below w.heap.size w wr) (fun _ _ _ i _ => n - (intOf i).toNat)
  case atStart => exact ⟨0, some ⟨w.heap.size, 0, none⟩, 0, [], Nat.zero_le _, rfl, by rw [cor_zero], by rw [cor_zero], rfl, H0.out, below_alloc (Below.refl _ _) _⟩
  case round =>
    obtain ⟨k, A', c', gs, hk, rfl, rfl, rfl, rfl, ho, hb⟩ := hrel
    by_cases hlt : k < n
    · obtain ⟨b, off, rfl, hbl, hc⟩ := h.2 (by omega)
      obtain ⟨A1, c1, x1, r1⟩ := hc k hlt
      have hr2 := (stepRow_pt (HS.out k hlt))
      have hbd := part_bd (L := L) (k := k) (by rw [HL.out]; omega) (fun i hi => HS.out i (by omega))
      have hcs := cor_succ (l := ptsL L) (i := k) (by simp; rw [HL.out]; exact hlt)
      rw [ptsL_at (by rw [HL.out]; exact hlt)] at hcs
      rw [hr2.2] at x1 r1
      obtain ⟨b1, off1, rfl, hbl1, hc1⟩ := r1.2 (by omega)
      have HO := Lib.hid (show rowsOf ((List.range (k + 1)).map (cor (ptsL L))) = rowsOf ((List.range k).map (cor (ptsL L))) ++ [[(cor (ptsL L) k).1, (cor (ptsL L) k).2]] from rowsOf_succ (f := cor (ptsL L)) k)
      have p1 : -9 ≤ (rowL L k).getD 0 0 ∧ (rowL L k).getD 0 0 ≤ 9 := hr2.1.1
      have p2 : -9 ≤ (rowL L k).getD 1 0 ∧ (rowL L k).getD 1 0 ≤ 9 := hr2.1.2.1
      have E1 := Lib.hid (show (cor (ptsL L) (k + 1)).1 = (cor (ptsL L) k).1 + (rowL L k).getD 0 0 by rw [hcs]; rfl)
      have E2 := Lib.hid (show (cor (ptsL L) (k + 1)).2 = (cor (ptsL L) k).2 + (rowL L k).getD 1 0 by rw [hcs]; rfl)
      have hw1 : ∀ W, Below w.heap.size w W → W.cell? ⟨b, off + k, none⟩ = some (.slice (some ⟨b1, off1, none⟩) 2 c1) ∧ W.cell? ⟨b1, off1, none⟩ = some (.int .i64 ((rowL L k).getD 0 0)) ∧ W.cell? ⟨b1, off1 + 1, none⟩ = some (.int .i64 ((rowL L k).getD 1 0)) := fun W hW =>
        ⟨(hW.cell (p := ⟨b, off + k, none⟩) hbl).trans x1, (hW.cell (p := ⟨b1, off1 + 0, none⟩) hbl1).trans (hc1 0 (by omega)), (hW.cell (p := ⟨b1, off1 + 1, none⟩) hbl1).trans (hc1 1 (by omega))⟩
      generalize (rowL L k).getD 0 0 = px at *
      generalize (rowL L k).getD 1 0 = py at *
      generalize (cor (ptsL L) k).1 = cx at *
      generalize (cor (ptsL L) k).2 = cy at *
      have v1 : IntKind.i64.wrap (cx + px) = cx + px := wrap_is rfl (by omega) (by omega)
      have v2 : IntKind.i64.wrap (cy + py) = cy + py := wrap_is rfl (by omega) (by omega)
      have HB := Lib.hid hb
      have HOW := Lib.hid ho
      have HW := Lib.hid hw1
      clear hc h x1 r1 hc1 hr2 hbd hcs p1 p2 hb ho hw1
      go_wp2_with (first
        | (at_builtin; refine wpList_appRowM rfl _ _ rfl rfl ((HOW.out.al (.cells (ints [cx, cy]).toArray 3)).al _) (r := [cx, cy]) (g := wr.heap.size) rfl (box_two _ _ _ _) (row_new wr [cx, cy] _ (by simp)) HB.out.size (by have := HOW.out.fresh; exact this) (by omega) (by have := HB.out.size; simp; omega) ?_; intro A5 c5 W5 o5 g5 at5; have hb5 : Below w.heap.size w W5 := (below_alloc (below_alloc HB.out _) _).grown g5 (by have := HB.out.size; simp; omega) (fun k e => (HOW.out.blk k e).1); obtain ⟨z0, z1, z2⟩ := HW.out W5 hb5))
      go_wp2_with fail
      go_roundw
      case rel => exact ⟨k + 1, A5, c5, _, by omega, by go_num, by rw [E1.out], by rw [E2.out], rfl, by rw [HO.out]; exact o5, hb5⟩
      case measure => simp [intOf]; omega
    · obtain rfl : k = n := by omega
      clear h
      go_wp2_with fail
      go_ret
      exact ⟨A', c', rfl, ⟨gs, ho⟩, hb⟩
end Go.Proofs.Ytdnegamminhbfaa

/- The model's areas and rims. -/
namespace Go.Proofs.Ytdnegamminhbfaa
open Go.RowKit Go.Sort Go.Lib

theorem cor_sq {l : List Pt} (h : IsPath l) {i j : Nat} (hi : i ≤ l.length) (hj : j ≤ l.length) : ∀ a b : Int, (a = (cor l i).1 ∨ a = (cor l i).2) → (b = (cor l j).1 ∨ b = (cor l j).2) → -1000000 ≤ a * b ∧ a * b ≤ 1000000 := fun a b ha hb => by
  have h1 := h.bd72 hi
  have h2 := h.bd72 hj
  have := mul_sq (a := a) (b := b) (A := 72) (B := 72) (by rcases ha with rfl | rfl <;> omega) (by rcases ha with rfl | rfl <;> omega) (by rcases hb with rfl | rfl <;> omega) (by rcases hb with rfl | rfl <;> omega)
  omega

set_option maxRecDepth 100000 in
set_option maxHeartbeats 4000000 in
theorem l6sArea_any (A : Option Addr) (n c : Nat) (L : List (List Int)) (w : World) (h : RdM w A n L) (hp : pathB L = true) :
    Calls Try.prog 127 #[.slice A n c] w fun e w' => e = .returned (.int .i64 (areaP (ptsL L))) ∧ Below w.heap.size w w' := by
  have hK := l6sCorners_any A n c L w h hp
  obtain ⟨hP, hst⟩ := pathB_true hp
  have hl : (ptsL L).length = n := by simp [h.1]
  have hn8 : n ≤ 8 := by have := hP.hi; omega
  have hn3 : 3 ≤ n := by have := hP.lo; omega
  generalize ptsL L = l at *
  obtain ⟨F, eF⟩ : ∃ F : Nat → Int, F = fun i => crs (cor l i) (cor l ((i + 1) % l.length)) := ⟨_, rfl⟩
  have hA : areaP l = sumF F n := by rw [eF, ← hl]; rfl
  rw [hA]
  have HF := Lib.hid eF
  have HP := Lib.hid hP
  have HL := Lib.hid hl
  have hbd : ∀ k, k ≤ n → -82944 ≤ sumF F k ∧ sumF F k ≤ 82944 := fun k hk => by rw [eF]; exact areaP_part_bd hP (by omega)
  have HBd := Lib.hid hbd
  clear h hp hst hA hP hl eF hbd
  go_enter Try.func127, Try.ntmps127
  go_wp2_with fail
  refine hK.mono ?_
  rintro e w1 ⟨A1, c1, rfl, ⟨gs, ho⟩, hb1⟩
  have HO := Lib.hid ho
  have HB1 := Lib.hid hb1
  clear hK ho hb1
  go_wp2_with fail
  go_loopw [3, 5] (fun v i wr => ∃ k : Nat, k ≤ n ∧ i = .int .i64 k ∧ v = .int .i64 (sumF F k) ∧ Below w1.heap.size w1 wr) (fun _ i _ => n - (intOf i).toNat)
  case atStart => exact ⟨0, Nat.zero_le _, rfl, rfl, Below.refl _ _⟩
  case round =>
    obtain ⟨k, hk, rfl, rfl, hb⟩ := hrel
    by_cases hlt : k < n
    · have hm : (k + 1) % n < n := Nat.mod_lt _ (by omega)
      have ho := HO.out.same hb
      obtain ⟨g, rfl, _, _, hc1⟩ := ho.at_ hlt
      obtain ⟨g', e, _, _, hc2⟩ := ho.at_ hm
      cases e
      have r1 := (ho.rows k (by rw [rowsOf_len, corL_len, HL.out]; exact hlt)).2.rd
      have r2 := (ho.rows ((k + 1) % n) (by rw [rowsOf_len, corL_len, HL.out]; exact hm)).2.rd
      have e1 : rowL (rowsOf (corL l)) k = ptRow (cor l k) := by rw [rowsOf_at (by rw [corL_len, HL.out]; exact hlt), corL_at (by rw [HL.out]; exact hlt)]
      have e2 : rowL (rowsOf (corL l)) ((k + 1) % n) = ptRow (cor l ((k + 1) % n)) := by rw [rowsOf_at (by rw [corL_len, HL.out]; exact hm), corL_at (by rw [HL.out]; exact hm)]
      rw [e1] at hc1 r1
      rw [e2] at hc2 r2
      have hF : F k = crs (cor l k) (cor l ((k + 1) % n)) := by rw [HF.out, HL.out]
      have hsq := cor_sq HP.out (i := k) (j := (k + 1) % n) (by rw [HL.out]; omega) (by rw [HL.out]; omega)
      have hC := fun W (h1 : Rd W (some ⟨gs.getD k 0, 0, none⟩) 2 (ptRow (cor l k))) (h2 : Rd W (some ⟨gs.getD ((k + 1) % n) 0, 0, none⟩) 2 (ptRow (cor l ((k + 1) % n)))) => l6sCross_any (some ⟨gs.getD k 0, 0, none⟩) (some ⟨gs.getD ((k + 1) % n) 0, 0, none⟩) 2 2 (ptRow (cor l k)) (ptRow (cor l ((k + 1) % n))) W h1 h2 hsq
      have hv : ∀ W, Rd W (some ⟨gs.getD k 0, 0, none⟩) 2 (ptRow (cor l k)) → Rd W (some ⟨gs.getD ((k + 1) % n) 0, 0, none⟩) 2 (ptRow (cor l ((k + 1) % n))) → Calls Try.prog 147 #[.slice (some ⟨gs.getD k 0, 0, none⟩) 2 2, .slice (some ⟨gs.getD ((k + 1) % n) 0, 0, none⟩) 2 2] W fun e w' => e = .returned (.int .i64 (F k)) ∧ Below W.heap.size W w' := fun W h1 h2 => by rw [hF]; exact hC W h1 h2
      have cE : ∀ d os, Calls Try.prog 147 #[.slice (some ⟨gs.getD k 0, 0, none⟩) 2 2, .slice (some ⟨gs.getD ((k + 1) % n) 0, 0, none⟩) 2 2] (grow (redrawn wr d) os) fun e w'' => e = .returned (.int .i64 (F k)) ∧ ∃ p : Regrown, w'' = grow (redrawn wr p.d) p.os := fun d os =>
        Calls.regrown_of (hv _ (r1.same (below_regrown wr d os)) (r2.same (below_regrown wr d os)))
      have y1 : ∀ d os, (grow (redrawn wr d) os).cell? ⟨g, k, none⟩ = some (.slice (some ⟨gs.getD k 0, 0, none⟩) 2 2) := fun d os => cell_regrown hc1 d os
      have y2 : ∀ d os, (grow (redrawn wr d) os).cell? ⟨g, (k + 1) % n, none⟩ = some (.slice (some ⟨gs.getD ((k + 1) % n) 0, 0, none⟩) 2 2) := fun d os => cell_regrown hc2 d os
      have b1 := HBd.out k (by omega)
      have b2 := HBd.out (k + 1) (by omega)
      have HSn := Lib.hid (show sumF F (k + 1) = sumF F k + F k from rfl)
      rw [HSn.out] at b2
      have v1 : IntKind.i64.wrap (sumF F k + F k) = sumF F k + F k := wrap_is rfl (by omega) (by omega)
      have v2 : IntKind.i64.wrap ((k : Int) + 1) = (k : Int) + 1 := wrap_is rfl (by omega) (by omega)
      have t1 : Int.tmod ((k : Int) + 1) (n : Int) = (((k + 1) % n : Nat) : Int) := rfl
      have d0 : ((n : Int) == 0) = false := by simp; omega
      have HB := Lib.hid hb
      have HM := Lib.hid hm
      have g1 : (k : Int) < (n : Int) := by omega
      have g2 : (0 : Int) ≤ (k : Int) := by omega
      have g3 : ((k : Int)).toNat = k := by omega
      generalize gs.getD k 0 = ga at *
      generalize gs.getD ((k + 1) % n) 0 = gb at *
      generalize (k + 1) % n = m at *
      have g4 : (m : Int) < (n : Int) := by omega
      have g5 : (0 : Int) ≤ (m : Int) := by omega
      have g6 : ((m : Int)).toNat = m := by omega
      generalize F k = fk at *
      clear ho hc1 hc2 r1 r2 e1 e2 hF hsq hC hv b1 b2 hm hb
      go_wp2_with fail
      refine wp_region_quiet_below (by kernel_rfl) (by kernel_rfl) ?_
      repeat (go_big_quiet_step (with_reducible exact cE _ _))
      refine wpQuiet_nil ?_
      intro _ hw'
      obtain ⟨⟨dq, osq⟩, hw''⟩ := hw'
      subst hw''
      have bq := below_regrown wr dq osq
      generalize Go.Sort.grow (redrawn wr dq) osq = wq at bq ⊢
      go_wp2_with fail
      go_roundw
      case rel => exact ⟨k + 1, by omega, by go_num, by rw [HSn.out], HB.out.trans (bq.mono HB.out.size)⟩
      case measure => simp [intOf]; omega
    · obtain rfl : k = n := by omega
      go_wp2_with fail
      go_ret
      exact ⟨rfl, HB1.out.trans (hb.mono HB1.out.size)⟩
end Go.Proofs.Ytdnegamminhbfaa

/- The model's divisors and rims; areas, rims, corners of lists. -/
namespace Go.Proofs.Ytdnegamminhbfaa
open Go.RowKit Go.Sort Go.Lib

/-- What is told of a path, or 0. -/
noncomputable def ifP (L : List (List Int)) (f : List Pt → Int) : Int := if pathB L then f (ptsL L) else 0
theorem ifP_yes {L : List (List Int)} (f : List Pt → Int) (h : pathB L = true) : ifP L f = f (ptsL L) := by unfold ifP; rw [if_pos h]
theorem ifP_no {L : List (List Int)} (f : List Pt → Int) (h : pathB L = false) : ifP L f = 0 := by unfold ifP; rw [h]; rfl
/-- The rows that are told of a path, or none. -/
noncomputable def ifR (L : List (List Int)) (f : List Pt → List (List Int)) : List (List Int) := if pathB L then f (ptsL L) else []
theorem ifR_yes {L : List (List Int)} (f : List Pt → List (List Int)) (h : pathB L = true) : ifR L f = f (ptsL L) := by unfold ifR; rw [if_pos h]
theorem ifR_no {L : List (List Int)} (f : List Pt → List (List Int)) (h : pathB L = false) : ifR L f = [] := by unfold ifR; rw [h]; rfl
theorem ret_ib3 {x y : Int} {a b : Bool} (h1 : x = y) (h : a = b) : Ending.returned (.tuple #[.int .i64 x, .bool a]) = .returned (.tuple #[.int .i64 y, .bool b]) := by rw [h, h1]
theorem ret_sb3 {A : Option Addr} {n c m : Nat} {a b : Bool} (h1 : n = m) (h : a = b) : Ending.returned (.tuple #[.slice A n c, .bool a]) = .returned (.tuple #[.slice A m c, .bool b]) := by rw [h, h1]

end Go.Proofs.Ytdnegamminhbfaa
