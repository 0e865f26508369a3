/- The program's reading of steps: rows to vectors. -/
import Derived.Test.YtdnegamminhbfaaVecs
namespace Go.Proofs.Ytdnegamminhbfaa
open Go.RowKit Go.Sort Go.Lib

abbrev stepsB (L : List (List Int)) : Bool := L.all stepRow
theorem stepsB_row {L : List (List Int)} {k : Nat} (hk : k < L.length) (h : stepRow (rowL L k) = false) : stepsB L = false := by
  cases e : stepsB L with
  | false => rfl
  | true => have := List.all_eq_true.1 e _ (rowL_mem hk); rw [h] at this; cases this
theorem stepsB_all {L : List (List Int)} (h : ∀ j, j < L.length → stepRow (rowL L j) = true) : stepsB L = true := List.all_eq_true.2 fun r hr => by
  obtain ⟨i, hi, rfl⟩ := List.getElem_of_mem hr
  have := h i hi
  simpa [rowL, List.getD_eq_getElem?_getD, hi] using this
theorem stepsB_at {L : List (List Int)} (h : stepsB L = true) {j : Nat} (hj : j < L.length) : stepRow (rowL L j) = true := List.all_eq_true.1 h _ (rowL_mem hj)
theorem ptsL_take {L : List (List Int)} {k : Nat} (h : k < L.length) : (ptsL L).take (k + 1) = (ptsL L).take k ++ [rowPt (rowL L k)] := by
  rw [List.take_succ_eq_append_getElem (by simpa using h), ← atP_lt (by simpa using h), ptsL_at h]

set_option maxRecDepth 100000 in
set_option maxHeartbeats 4000000 in
theorem stepsOf_any (A : Option Addr) (n c : Nat) (L : List (List Int)) (w : World) (h : RdM w A n L) (hs : SmallM L) (hn : n ≤ 1000) :
    Calls Try.prog 118 #[.slice A n c] w fun e w' => (∃ A' m c', e = .returned (.tuple #[.slice A' m c', .bool (stepsB L)]) ∧ (stepsB L = true → m = n ∧ OwnV w' w.heap.size A' m c' (ptsL L))) ∧ Below w.heap.size w w' := by
  have hl := h.1
  obtain ⟨sb, esb⟩ : ∃ sb, sb = stepsB L := ⟨_, rfl⟩
  rw [← esb]
  have ESB := Lib.hid esb
  have HS := Lib.hid hs
  have HL := Lib.hid hl
  have HR := Lib.hid h
  have HO := Lib.hid (OwnV.empty w (Nat.le_refl w.heap.size))
  clear esb hs hl h
  go_enter Try.func118, Try.ntmps118
  go_wp2_with fail
  go_loopw [4, 6, 7, 8, 12] (fun sl _ _ _ i wr => ∃ (k : Nat) (A1 : Option Addr) (c1 : Nat), k ≤ n ∧ i = .int .i64 k ∧ sl = .slice A1 k c1 ∧ OwnV wr w.heap.size A1 k c1 ((ptsL L).take k) ∧ (∀ j, j < k → stepRow (rowL L j) = true) ∧ Below w.heap.size w wr) (fun _ _ _ _ i _ => n - (intOf i).toNat)
  case atStart => exact ⟨0, _, 0, Nat.zero_le _, rfl, rfl, HO.out, fun j hj => absurd hj (by omega), below_alloc (Below.refl _ _) _⟩
  case round =>
    obtain ⟨k, A1, c1, hk, rfl, rfl, ho, hst, hb⟩ := hrel
    by_cases hlt : k < n
    · obtain ⟨b, off, rfl, hbl, hc⟩ := HR.out.2 (by omega)
      obtain ⟨A2, c2, x1, r1⟩ := hc k hlt
      have hcx : wr.cell? ⟨b, off + k, none⟩ = some (.slice A2 (rowL L k).length c2) := (hb.cell (p := ⟨b, off + k, none⟩) hbl).trans x1
      have hS := stepOf_any A2 (rowL L k).length c2 (rowL L k) wr (r1.below (Nat.le_refl _) hb) (HS.out.row (by rw [HL.out]; exact hlt))
      cases hsr : stepRow (rowL L k) with
      | false =>
        have HPF := Lib.hid (ESB.out.trans (stepsB_row (by rw [HL.out]; exact hlt) hsr))
        rw [hsr] at hS
        generalize (rowL L k).length = m at *
        have HB := Lib.hid hb
        clear hsr hst x1 r1 hc ho hb
        go_wp2_with fail
        refine hS.mono ?_
        rintro e w2 ⟨⟨x, y, rfl, _⟩, b2⟩
        go_wp2_with fail
        refine bodyPost_ret (results_tmp2 rfl _ _ _) rfl ?_
        rw [HPF.out]
        exact ⟨⟨none, 0, 0, rfl, fun e => by cases e⟩, below_alloc (below_then HB.out b2) _⟩
      | true =>
        have HST := Lib.hid (show ∀ j, j < k + 1 → stepRow (rowL L j) = true from fun j hj => by
          by_cases e : j = k
          · rw [e]; exact hsr
          · exact hst j (by omega))
        rw [hsr] at hS
        have HTK := Lib.hid (ptsL_take (L := L) (k := k) (by rw [HL.out]; exact hlt))
        generalize (rowL L k).length = m at *
        generalize rowPt (rowL L k) = q at *
        have HO1 := Lib.hid ho
        have HB := Lib.hid hb
        clear hsr hst x1 r1 hc ho hb
        go_wp2_with fail
        refine hS.mono ?_
        rintro e w2 ⟨⟨x, y, rfl, hxy⟩, b2⟩
        have exy := hxy (by first | rfl | trivial)
        have b3 := below_alloc (Below.refl w2.heap.size w2) (vecO x y)
        have hV := World.alloc_heap_new w2 (vecO x y)
        obtain ⟨v0, v1, _, _⟩ := pr_cells hV
        have ho3 := (HO1.out.same (b2.trans (b3.mono b2.size)))
        have ho4 := ho3.al (vecO x y)
        have hb3 := below_then HB.out b2
        have hb4 := below_alloc (below_alloc hb3 (vecO x y)) (vecO x y)
        have hr4 := (OwnV.one (w2.alloc (vecO x y)) (Nat.le_refl _) x y).rd
        rw [World.size_alloc] at hr4
        have HX := Lib.hid exy
        clear hxy exy b3 hV hS hcx
        go_wp2_with (at_builtin; refine wpList_appV 60 Try.underlying60 rfl (.tmp 23) (.tmp 25) rfl rfl ho4 rfl hr4 (by omega) hb4.size ?_; intro A5 c5 W5 o5 g5)
        have hb5 := app_markV hb4 ho4 (Nat.le_refl _) g5
        go_roundw
        case rel =>
          have o6 := o5
          rw [HX.out, ← HTK.out] at o6
          first
            | exact ⟨k + 1, A5, c5, by omega, by go_num, rfl, o6, HST.out, hb5⟩
            | ((repeat apply Exists.intro); exact ⟨⟨k + 1, A5, c5, by omega, by go_num, rfl, o6, HST.out, hb5⟩, rfl⟩)
        case measure => simp [intOf]; omega
    · obtain rfl : k = n := by omega
      have HPB := Lib.hid (ESB.out.trans (stepsB_all (by rw [HL.out]; exact hst)))
      rw [List.take_of_length_le (by simp [HL.out])] at ho
      have HO1 := Lib.hid ho
      clear ho hst
      go_wp2_with fail
      refine bodyPost_ret (results_tmp2 rfl _ _ _) rfl ?_
      rw [HPB.out]
      exact ⟨⟨A1, k, c1, rfl, fun _ => ⟨rfl, HO1.out⟩⟩, hb⟩
end Go.Proofs.Ytdnegamminhbfaa
