/- The model's reading of a path; its corners. -/
import Derived.Test.YtkjhkcnmhakfcaaPathR
import Derived.Test.YtkjhkcnmhakfcaaCalc1
namespace Go.Proofs.Ytkjhkcnmhakfcaa
open Go.RowKit Go.Sort Go.Lib

set_option maxRecDepth 100000 in
set_option maxHeartbeats 2000000 in
theorem l6sStep_any (A : Option Addr) (n c : Nat) (r : List Int) (w : World) (h : Rd w A n r) (hn : n ≤ 1048576) :
    Calls Try.prog 72 #[.slice A n c] w fun e w' => e = .returned (.bool (stepRow r)) ∧ w = w' := by
  have hl := h.1
  by_cases h2 : n = 2
  · subst h2
    obtain ⟨b, off, rfl, hbl, hc⟩ := h.2 (by omega)
    have c0 := hc 0 (by omega)
    have c1 := hc 1 (by omega)
    have hS : stepRow r = (inB (r.getD 0 0) (-9) 9 && inB (r.getD 1 0) (-9) 9 && !(decide (r.getD 0 0 = 0) && decide (r.getD 1 0 = 0))) := by unfold stepRow inB; rw [hl]; simp
    rw [hS]
    obtain ⟨x, ex⟩ : ∃ x, x = r.getD 0 0 := ⟨_, rfl⟩
    obtain ⟨y, ey⟩ : ∃ y, y = r.getD 1 0 := ⟨_, rfl⟩
    rw [← ex, ← ey]
    rw [← ex] at c0
    rw [← ey] at c1
    rw [Nat.add_zero] at c0
    clear hc h hl ex ey hS
    cases hx : inB x (-9) 9 with
    | true =>
      cases hy : inB y (-9) 9 with
      | true =>
        have HX := Lib.hid hx
        have HY := Lib.hid hy
        clear hx hy
        by_cases hx0 : x = 0
        · by_cases hy0 : y = 0
          · subst hx0 hy0
            go_enter Try.func72, Try.ntmps72
            go_wp2_with (first | (go_at_call 74; refine (l6In_is HX.out _).mono ?_; rintro e w' ⟨rfl, rfl⟩) | (go_at_call 74; refine (l6In_is HY.out _).mono ?_; rintro e w' ⟨rfl, rfl⟩))
            go_ret
            exact ⟨rfl, rfl⟩
          · subst hx0
            have d1 : (y != 0) = true := by simpa using hy0
            have HY0 := Lib.hid hy0
            clear hy0
            go_enter Try.func72, Try.ntmps72
            go_wp2_with (first | (go_at_call 74; with_reducible refine (l6In_is HX.out _).mono ?_; rintro e w' ⟨rfl, rfl⟩) | (go_at_call 74; with_reducible refine (l6In_is HY.out _).mono ?_; rintro e w' ⟨rfl, rfl⟩))
            go_ret
            exact ⟨by simp [HY0.out], rfl⟩
        · have d1 : (x != 0) = true := by simpa using hx0
          have HX0 := Lib.hid hx0
          clear hx0
          go_enter Try.func72, Try.ntmps72
          go_wp2_with (first | (go_at_call 74; with_reducible refine (l6In_is HX.out _).mono ?_; rintro e w' ⟨rfl, rfl⟩) | (go_at_call 74; with_reducible refine (l6In_is HY.out _).mono ?_; rintro e w' ⟨rfl, rfl⟩))
          go_ret
          exact ⟨by simp [HX0.out], rfl⟩
      | false =>
        have HX := Lib.hid hx
        have HY := Lib.hid hy
        clear hx hy
        go_enter Try.func72, Try.ntmps72
        go_wp2_with (first | (go_at_call 74; with_reducible refine (l6In_is HX.out _).mono ?_; rintro e w' ⟨rfl, rfl⟩) | (go_at_call 74; with_reducible refine (l6In_is HY.out _).mono ?_; rintro e w' ⟨rfl, rfl⟩))
        go_ret
        exact ⟨rfl, rfl⟩
    | false =>
      have HX := Lib.hid hx
      clear hx
      go_enter Try.func72, Try.ntmps72
      go_wp2_with (go_at_call 74; with_reducible refine (l6In_is HX.out _).mono ?_; rintro e w' ⟨rfl, rfl⟩)
      go_ret
      exact ⟨rfl, rfl⟩
  · have hS : stepRow r = false := by unfold stepRow; rw [hl]; simp [h2]
    have d1 : ((n : Int) == 2) = false := by simp; omega
    rw [hS]
    clear h hl hS h2
    go_enter Try.func72, Try.ntmps72
    go_wp2_with fail
    go_ret
    exact ⟨rfl, rfl⟩

set_option maxRecDepth 100000 in
set_option maxHeartbeats 2000000 in
theorem l6sSum_any (A : Option Addr) (n c : Nat) (L : List (List Int)) (w : World) (h : RdM w A n L) (hs : SmallM L) (hst : ∀ i, i < n → stepRow (rowL L i) = true) :
    Calls Try.prog 73 #[.slice A n c] w fun e w' => e = .returned (.tuple #[.int .i64 (tot (ptsL L)).1, .int .i64 (tot (ptsL L)).2]) ∧ Below w.heap.size w w' := by
  have hl := h.1
  have hn : n ≤ 1048576 := by rw [← hl]; exact hs.len
  have HL := Lib.hid hl
  have HT := Lib.hid (show cor (ptsL L) n = tot (ptsL L) by rw [← hl, show L.length = (ptsL L).length by simp]; exact cor_len _)
  have HS := Lib.hid hst
  rw [← HT.out]
  clear hst hs hl
  go_enter Try.func73, Try.ntmps73
  go_wp2_with fail
  go_loopw [4, 5, 6] (fun x y i wr => ∃ k : Nat, k ≤ n ∧ i = .int .i64 k ∧ x = .int .i64 (cor (ptsL L) k).1 ∧ y = .int .i64 (cor (ptsL L) k).2 ∧ Below w.heap.size w wr) (fun _ _ i _ => n - (intOf i).toNat)
  case atStart => exact ⟨0, Nat.zero_le _, rfl, by rw [cor_zero], by rw [cor_zero], Below.refl _ _⟩
  case round =>
    obtain ⟨k, hk, rfl, rfl, rfl, hb⟩ := hrel
    by_cases hlt : k < n
    · obtain ⟨b, off, rfl, hbl, hc⟩ := h.2 (by omega)
      obtain ⟨A1, c1, x1, r1⟩ := hc k hlt
      have hr2 := (stepRow_pt (HS.out k hlt))
      have hbd := part_bd (L := L) (k := k) (by rw [HL.out]; omega) (fun i hi => HS.out i (by omega))
      have hcs := cor_succ (l := ptsL L) (i := k) (by simp; rw [HL.out]; exact hlt)
      rw [ptsL_at (by rw [HL.out]; exact hlt)] at hcs
      have hcx : wr.cell? ⟨b, off + k, none⟩ = some (.slice A1 (rowL L k).length c1) := (hb.cell (p := ⟨b, off + k, none⟩) hbl).trans x1
      rw [hr2.2] at hcx r1
      obtain ⟨b1, off1, rfl, hbl1, hc1⟩ := r1.2 (by omega)
      have c0 := (hb.cell (p := ⟨b1, off1 + 0, none⟩) hbl1).trans (hc1 0 (by omega))
      have c1' := (hb.cell (p := ⟨b1, off1 + 1, none⟩) hbl1).trans (hc1 1 (by omega))
      rw [Nat.add_zero] at c0
      have hp := hr2.1
      have e1 : (cor (ptsL L) (k + 1)).1 = (cor (ptsL L) k).1 + (rowL L k).getD 0 0 := by rw [hcs]; rfl
      have e2 : (cor (ptsL L) (k + 1)).2 = (cor (ptsL L) k).2 + (rowL L k).getD 1 0 := by rw [hcs]; rfl
      have p1 : -9 ≤ (rowL L k).getD 0 0 ∧ (rowL L k).getD 0 0 ≤ 9 := hp.1
      have p2 : -9 ≤ (rowL L k).getD 1 0 ∧ (rowL L k).getD 1 0 ≤ 9 := hp.2.1
      have v1 : IntKind.i64.wrap ((cor (ptsL L) k).1 + (rowL L k).getD 0 0) = (cor (ptsL L) k).1 + (rowL L k).getD 0 0 := wrap_is rfl (by omega) (by omega)
      have v2 : IntKind.i64.wrap ((cor (ptsL L) k).2 + (rowL L k).getD 1 0) = (cor (ptsL L) k).2 + (rowL L k).getD 1 0 := wrap_is rfl (by omega) (by omega)
      have E1 := Lib.hid e1
      have E2 := Lib.hid e2
      have HB := Lib.hid hb
      generalize (rowL L k).getD 0 0 = px at *
      generalize (rowL L k).getD 1 0 = py at *
      generalize (cor (ptsL L) k).1 = cx at *
      generalize (cor (ptsL L) k).2 = cy at *
      clear hc h x1 r1 hc1 hr2 hbd hcs e1 e2 hp p1 p2 hb
      go_wp2_with fail
      go_roundw
      case rel => exact ⟨k + 1, by omega, by go_num, by rw [E1.out], by rw [E2.out], HB.out⟩
      case measure => simp [intOf]; omega
    · obtain rfl : k = n := by omega
      clear h
      go_wp2_with fail
      refine bodyPost_ret (results_tmp2 rfl _ _ _) rfl ?_
      exact ⟨rfl, hb⟩

set_option maxRecDepth 100000 in
set_option maxHeartbeats 2000000 in
theorem specPathIn_any (A : Option Addr) (n c : Nat) (L : List (List Int)) (w : World) (h : RdM w A n L) (hs : SmallM L) :
    Calls Try.prog 25 #[.slice A n c] w fun e w' => e = .returned (.bool (pathB L)) ∧ Below w.heap.size w w' := by
  have hl := h.1
  have hn : n ≤ 1048576 := by rw [← hl]; exact hs.len
  have HL := Lib.hid hl
  have HS := Lib.hid hs
  have HH := Lib.hid h
  obtain ⟨pb, epb⟩ : ∃ pb, pb = pathB L := ⟨_, rfl⟩
  rw [← epb]
  have EPB := Lib.hid epb
  clear epb hs hl
  go_enter Try.func25, Try.ntmps25
  go_wp2_with fail
  go_loopw [3] (fun i wr => ∃ k : Nat, k ≤ n ∧ i = .int .i64 k ∧ (∀ j, j < k → stepRow (rowL L j) = true) ∧ Below w.heap.size w wr) (fun i _ => n - (intOf i).toNat)
  case atStart => exact ⟨0, Nat.zero_le _, rfl, fun j hj => absurd hj (by omega), Below.refl _ _⟩
  case round =>
    obtain ⟨k, hk, rfl, hst, hb⟩ := hrel
    by_cases hlt : k < n
    · obtain ⟨b, off, rfl, hbl, hc⟩ := h.2 (by omega)
      obtain ⟨A1, c1, x1, r1⟩ := hc k hlt
      have hcx : wr.cell? ⟨b, off + k, none⟩ = some (.slice A1 (rowL L k).length c1) := (hb.cell (p := ⟨b, off + k, none⟩) hbl).trans x1
      have hSt := l6sStep_any A1 (rowL L k).length c1 (rowL L k) wr (r1.same hb) (HS.out.row (by rw [HL.out]; exact hlt))
      have HB := Lib.hid hb
      have HST := Lib.hid hst
      cases hsr : stepRow (rowL L k) with
      | false =>
        have HF := Lib.hid (EPB.out.trans (pathB_row (by rw [HL.out]; exact hlt) hsr))
        rw [hsr] at hSt
        generalize (rowL L k).length = m at *
        clear hc h x1 r1 hb hst hsr
        go_wp2_with fail
        refine hSt.mono ?_
        rintro e w2 ⟨rfl, rfl⟩
        go_wp2_with fail
        go_ret
        exact ⟨ret_b HF.out.symm, HB.out⟩
      | true =>
        have HN := Lib.hid (show ∀ j, j < k + 1 → stepRow (rowL L j) = true from fun j hj => by
          by_cases e : j = k
          · rw [e]; exact hsr
          · exact hst j (by omega))
        rw [hsr] at hSt
        generalize (rowL L k).length = m at *
        clear hc h x1 r1 hb hst hsr
        go_wp2_with fail
        refine hSt.mono ?_
        rintro e w2 ⟨rfl, rfl⟩
        go_wp2_with fail
        go_roundw
        case rel => exact ⟨k + 1, by omega, by go_num, HN.out, HB.out⟩
        case measure => simp [intOf]; omega
    · obtain rfl : k = n := by omega
      have hSm := l6sSum_any A k c L wr (h.same hb) HS.out hst
      have hp : pathB L = (inB (k : Int) 3 8 && ((tot (ptsL L)).1 == 0) && ((tot (ptsL L)).2 == 0)) := by
        have h1 : L.all stepRow = true := List.all_eq_true.2 fun r hr => by
          obtain ⟨i, hi, rfl⟩ := List.getElem_of_mem hr
          have := hst i (by rw [← HL.out]; exact hi)
          simpa [rowL, List.getD_eq_getElem?_getD, hi] using this
        unfold pathB inB
        have h2 : decide (tot (L.map rowPt) = (0, 0)) = (((tot (L.map rowPt)).1 == 0) && ((tot (L.map rowPt)).2 == 0)) := by
          obtain ⟨a, b⟩ := tot (L.map rowPt)
          simp only [Prod.mk.injEq]
          rw [Bool.eq_iff_iff]
          simp
        have h3 : (decide (3 ≤ k) && decide (k ≤ 8)) = (decide (3 ≤ (k : Int)) && decide ((k : Int) ≤ 8)) := by
          rw [Bool.eq_iff_iff]; simp only [Bool.and_eq_true, decide_eq_true_eq]; omega
        rw [h1, HL.out, h2, h3, Bool.true_and, Bool.and_assoc, Bool.and_assoc, Bool.and_assoc]
      have HP := Lib.hid (EPB.out.trans hp)
      have HB := Lib.hid hb
      clear h hst hb hp
      cases hi : inB (k : Int) 3 8 with
      | false =>
        have HI := Lib.hid hi
        clear hi
        go_wp2_with fail
        refine hSm.mono ?_
        rintro e w2 ⟨rfl, b2⟩
        go_wp2_with (go_at_call 74; refine (l6In_is HI.out _).mono ?_; rintro e w' ⟨rfl, rfl⟩)
        go_ret
        exact ⟨ret_b (by rw [HP.out, HI.out]; rfl), below_then HB.out b2⟩
      | true =>
        have HI := Lib.hid hi
        clear hi
        generalize (tot (ptsL L)).1 = tx at *
        generalize (tot (ptsL L)).2 = ty at *
        by_cases hx : tx = 0
        · subst hx
          go_wp2_with fail
          refine hSm.mono ?_
          rintro e w2 ⟨rfl, b2⟩
          go_wp2_with (go_at_call 74; refine (l6In_is HI.out _).mono ?_; rintro e w' ⟨rfl, rfl⟩)
          go_ret
          exact ⟨ret_b (by rw [HP.out, HI.out]; rfl), below_then HB.out b2⟩
        · have d1 : (tx == 0) = false := by simpa using hx
          have D1 := Lib.hid d1
          clear hx
          go_wp2_with fail
          refine hSm.mono ?_
          rintro e w2 ⟨rfl, b2⟩
          go_wp2_with (go_at_call 74; refine (l6In_is HI.out _).mono ?_; rintro e w' ⟨rfl, rfl⟩)
          go_ret
          exact ⟨ret_b (by rw [HP.out, HI.out, D1.out]; rfl), below_then HB.out b2⟩
end Go.Proofs.Ytkjhkcnmhakfcaa
