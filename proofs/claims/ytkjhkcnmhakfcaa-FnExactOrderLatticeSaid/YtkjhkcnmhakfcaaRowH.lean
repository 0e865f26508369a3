/- The laws' helpers over slices of rows of ints: sizes, copies, comparisons, marks. -/
import Derived.Test.YtkjhkcnmhakfcaaRowM
import Derived.Lib.QuietBelow
namespace Go.Proofs.Ytkjhkcnmhakfcaa
open Go.RowKit Go.Sort Go.Lib

/-- How many numbers the first i rows hold. -/
def lenTo (L : List (List Int)) (i : Nat) : Nat := ((L.take i).map List.length).sum
theorem lenTo_zero (L : List (List Int)) : lenTo L 0 = 0 := rfl
theorem lenTo_succ {L : List (List Int)} {i : Nat} (h : i < L.length) : lenTo L (i + 1) = lenTo L i + (rowL L i).length := by
  unfold lenTo; rw [rowL_take h]; simp
theorem lenTo_mono {L : List (List Int)} {i j : Nat} (hij : i ≤ j) (hj : j ≤ L.length) : lenTo L i ≤ lenTo L j := by
  induction j with
  | zero => obtain rfl : i = 0 := by omega
            exact Nat.le_refl _
  | succ j ih =>
    by_cases e : i = j + 1
    · subst e; exact Nat.le_refl _
    · have := ih (by omega) (by omega)
      rw [lenTo_succ (by omega)]; omega
/-- All rows together are not too long. -/
def SmallM (L : List (List Int)) : Prop := L.length + lenTo L L.length ≤ 1048576
theorem SmallM.len {L : List (List Int)} (h : SmallM L) : L.length ≤ 1048576 := by unfold SmallM at h; omega
theorem SmallM.row {L : List (List Int)} (h : SmallM L) {i : Nat} (hi : i < L.length) : (rowL L i).length ≤ 1048576 := by
  have h1 := lenTo_succ hi
  have h2 := lenTo_mono (L := L) (i := i + 1) (j := L.length) (by omega) (Nat.le_refl _)
  unfold SmallM at h; omega

theorem szIntS_any (A : Option Addr) (n c : Nat) (v : Int) (w : World) (h1 : 0 ≤ v) (h2 : v ≤ 1048576) (hn : n ≤ 9223372036854775807) :
    Calls Try.prog 71 #[.slice A n c, .int .i64 v] w fun e w' => e = .returned (.int .i64 (if v - n < 0 then -1 else v - n)) ∧ w = w' := by
  have e1 : IntKind.i64.wrap (v - (n : Int)) = v - (n : Int) := wrap_is rfl (by omega) (by omega)
  by_cases hv : v - (n : Int) < 0
  · have d1 : decide (v - (n : Int) < 0) = true := by simpa using hv
    rw [if_pos hv]
    clear hv
    go_enter Try.func71, Try.ntmps71
    go_wp2
    go_ret
    exact ⟨rfl, rfl⟩
  · have d1 : decide (v - (n : Int) < 0) = false := by simpa using hv
    rw [if_neg hv]
    clear hv
    go_enter Try.func71, Try.ntmps71
    go_wp2
    go_ret
    exact ⟨rfl, rfl⟩

set_option maxRecDepth 100000 in
set_option maxHeartbeats 2000000 in
theorem szIntSS_any (A : Option Addr) (n c : Nat) (L : List (List Int)) (w : World) (h : RdM w A n L) (hn : n ≤ 9223372036854775807) (hr : ∀ i, i < n → (rowL L i).length ≤ 9223372036854775807) :
    Calls Try.prog 24 #[.slice A n c, .int .i64 1048576] w fun e w' => (∃ v, e = .returned (.int .i64 v) ∧ (v = -1 ∨ (0 ≤ v ∧ SmallM L))) ∧ Below w.heap.size w w' := by
  have e1 : IntKind.i64.wrap (1048576 - (n : Int)) = 1048576 - (n : Int) := wrap_is rfl (by omega) (by omega)
  by_cases hv : 1048576 - (n : Int) < 0
  · have d1 : decide (1048576 - (n : Int) < 0) = true := by simpa using hv
    clear hv h hr
    go_enter Try.func24, Try.ntmps24
    go_wp2
    go_ret
    exact ⟨⟨_, rfl, .inl rfl⟩, Below.refl _ _⟩
  · have d1 : decide (1048576 - (n : Int) < 0) = false := by simpa using hv
    have HL := Lib.hid h.1
    have HV := Lib.hid hv
    clear hv
    go_enter Try.func24, Try.ntmps24
    go_wp2
    go_loopw [1, 5] (fun v i wr => ∃ k : Nat, k ≤ n ∧ i = .int .i64 k ∧ v = .int .i64 (1048576 - (n : Int) - lenTo L k) ∧ 0 ≤ 1048576 - (n : Int) - lenTo L k ∧ Below w.heap.size w wr) (fun _ i _ => n - (intOf i).toNat)
    case atStart => exact ⟨0, Nat.zero_le _, rfl, by simp [lenTo], by have := HV.out; simp only [lenTo_zero]; omega, Below.refl _ _⟩
    case round =>
      obtain ⟨k, hk, rfl, rfl, hnn, hb⟩ := hrel
      by_cases hlt : k < n
      · obtain ⟨b, off, rfl, hbl, hc⟩ := h.2 (by omega)
        obtain ⟨A1, c1, x1, _⟩ := hc k hlt
        have hcx : wr.cell? ⟨b, off + k, none⟩ = some (.slice A1 (rowL L k).length c1) := (hb.cell (p := ⟨b, off + k, none⟩) hbl).trans x1
        have HS := Lib.hid (lenTo_succ (L := L) (i := k) (by rw [HL.out]; exact hlt))
        have hC := szIntS_any A1 (rowL L k).length c1 (1048576 - (n : Int) - lenTo L k) wr hnn (by omega) (hr k hlt)
        have HN := Lib.hid hnn
        generalize (rowL L k).length = m at *
        obtain ⟨z, ez⟩ : ∃ z : Int, z = 1048576 - (n : Int) - lenTo L k := ⟨_, rfl⟩
        have EZ := Lib.hid ez
        rw [← ez] at hC ⊢
        have HR := Lib.hid hr
        clear hc h x1 hr hnn ez
        by_cases hz : z - (m : Int) < 0
        · rw [if_pos hz] at hC
          clear hz
          go_wp2_with fail
          refine hC.mono ?_
          rintro e w2 ⟨rfl, rfl⟩
          go_wp2_with fail
          go_ret
          exact ⟨⟨_, rfl, .inl rfl⟩, hb⟩
        · rw [if_neg hz] at hC
          have d2 : decide (z - (m : Int) < 0) = false := by simpa using hz
          have HZ := Lib.hid hz
          clear hz
          go_wp2_with fail
          refine hC.mono ?_
          rintro e w2 ⟨rfl, rfl⟩
          go_wp2_with fail
          go_roundw
          case rel => exact ⟨k + 1, by omega, by go_num, by have h1 := HS.out; have h2 := EZ.out; congr 1; rw [h1]; push_cast; omega, by have h1 := HS.out; have h2 := EZ.out; have h3 := HZ.out; rw [h1]; push_cast; omega, hb⟩
          case measure => simp [intOf]; omega
      · obtain rfl : k = n := by omega
        have HN := Lib.hid hnn
        clear hnn
        go_wp2_with fail
        go_ret
        exact ⟨⟨_, rfl, .inr ⟨HN.out, by have h1 := HN.out; have h2 := HL.out; unfold SmallM; rw [h2]; omega⟩⟩, hb⟩

/-- What the copy's loop keeps: the first k rows are there. -/
def CpM (w : World) (n : Nat) (L : List (List Int)) (k : Nat) (wr : World) : Prop :=
  ∃ gs : List Nat, gs.length = k ∧ gs.Nodup ∧ wr.ownsRow w.heap.size 39 1 (.slice (some ⟨w.heap.size, 0, none⟩) n n) n ((gs.zip (L.take k)).map (fun p => rowW p.1 p.2) ++ List.replicate (n - k) (.slice none 0 0)) ∧
    (∀ i, i < k → w.heap.size < gs.getD i 0 ∧ RowBlk wr (gs.getD i 0) (rowL L i)) ∧ Below w.heap.size w wr ∧ w.heap.size < wr.heap.size
theorem CpM.step {w wr w' : World} {n k g : Nat} {L : List (List Int)} (h : CpM w n L k wr) (hL : L.length = n) (hk : k < n) (ho : Own w' wr.heap.size (some ⟨g, 0, none⟩) (rowL L k).length (rowL L k).length (rowL L k)) (hb : Below wr.heap.size wr w') (hs : (rowL L k).length ≤ 16777216) :
    CpM w n L (k + 1) (w'.setCell ⟨w.heap.size, k, none⟩ (rowW g (rowL L k))) := by
  obtain ⟨gs, h1, h2, h3, h4, h5, h6⟩ := h
  have hg := ho.blk
  have g0 := grown_of_below hb
  have h3' : w'.ownsRow w.heap.size 39 1 (.slice (some ⟨w.heap.size, 0, none⟩) n n) n ((gs.zip (L.take k)).map (fun p => rowW p.1 p.2) ++ List.replicate (n - k) (.slice none 0 0)) := h3.kept g0 (.inr (by simp [Value.ownBlock]))
  have hst := World.ownsRow.stored h3' k (rowW g (rowL L k))
  have hz : ((gs.zip (L.take k)).map (fun p => rowW p.1 p.2)).length = k := by simp [h1]; omega
  have e1 : ((gs.zip (L.take k)).map (fun p => rowW p.1 p.2) ++ List.replicate (n - k) (Value.slice none 0 0)).set k (rowW g (rowL L k)) = ((gs ++ [g]).zip (L.take (k + 1))).map (fun p => rowW p.1 p.2) ++ List.replicate (n - (k + 1)) (.slice none 0 0) := by
    rw [rowL_take (by omega), List.zip_append (by simp [h1]; omega), List.map_append, List.set_append_right _ _ (by omega), hz, Nat.sub_self, show n - k = (n - (k + 1)) + 1 by omega, List.replicate_succ]
    simp
  rw [e1] at hst
  have hne : ∀ (i : Nat), g ≠ w.heap.size := fun _ => by omega
  refine ⟨gs ++ [g], by simp [h1], ?_, hst.1, fun i hi => ?_, (h5.trans (hb.mono h5.size)).setCell (p := ⟨w.heap.size, k, none⟩) (Nat.le_refl _) _, ?_⟩
  · rw [List.nodup_append]
    refine ⟨h2, by simp, fun a ha b hbm e => ?_⟩
    obtain rfl : b = g := by simpa using hbm
    subst e
    obtain ⟨i, hi, e2⟩ := List.getElem_of_mem ha
    have := (h4 i (by omega)).2.lt
    have e3 : gs.getD i 0 = a := by simp [List.getD_eq_getElem?_getD, hi, e2]
    rw [e3] at this
    omega
  · by_cases hlt : i < k
    · have e2 : (gs ++ [g]).getD i 0 = gs.getD i 0 := by simp [List.getD_eq_getElem?_getD, List.getElem?_append_left (show i < gs.length by omega)]
      rw [e2]
      obtain ⟨q1, q2⟩ := h4 i hlt
      exact ⟨q1, (q2.kept g0 (by simp)).kept hst.2 (by intro e; injection e; omega)⟩
    · obtain rfl : i = k := by omega
      have e2 : (gs ++ [g]).getD i 0 = g := by simp [List.getD_eq_getElem?_getD, ← h1]
      rw [e2]
      exact ⟨by omega, (RowBlk.of_own ho hs).kept hst.2 (by intro e; injection e; omega)⟩
  · have := hb.size
    simp only [World.setCell, Array.size_modify]
    omega
theorem CpM.done {w wr : World} {n : Nat} {L : List (List Int)} (h : CpM w n L n wr) (hL : L.length = n) : ∃ gs, OwnM wr w.heap.size (some ⟨w.heap.size, 0, none⟩) n n gs L := by
  obtain ⟨gs, h1, h2, h3, h4, h5, h6⟩ := h
  rw [List.take_of_length_le (by omega), Nat.sub_self, List.replicate_zero, List.append_nil] at h3
  exact ⟨gs, h3, by omega, h2, fun i hi => ⟨Nat.le_of_lt (h4 i (by omega)).1, (h4 i (by omega)).2⟩⟩

set_option maxRecDepth 100000 in
set_option maxHeartbeats 2000000 in
theorem toIntSS_any (A : Option Addr) (n c : Nat) (L : List (List Int)) (w : World) (h : RdM w A n L) (hs : SmallM L) :
    Calls Try.prog 26 #[.slice A n c] w fun e w' => ∃ g, e = .returned (.slice (some ⟨g, 0, none⟩) n n) ∧ (∃ gs, OwnM w' w.heap.size (some ⟨g, 0, none⟩) n n gs L) ∧ Below w.heap.size w w' := by
  obtain ⟨i0, hi, hz0, hz1, hz2⟩ := info_parts rowsInfo
  have hn := hs.len
  rw [h.1] at hn
  go_enter Try.func26, Try.ntmps26
  go_wp2_with (first
    | (at_make; refine wpList_make_full _ rfl _ _ 22 rfl w.heap.size 39 i0 (.slice none 0 0) 1 Try.underlying22 hi hz0 hz1 _ _ _ _ n rfl rfl rfl rfl (by rw [hz2]; omega) (by unfold maxLen; omega) (Nat.le_refl _) ?_; intro w1 hown hg1))
  go_loopw [4] (fun i wr => ∃ k : Nat, k ≤ n ∧ i = .int .i64 k ∧ CpM w n L k wr) (fun i _ => n - (intOf i).toNat)
  case atStart =>
    have e : (madeCells (Value.slice none 0 0).cells (n * 1)).toList = List.replicate n (.slice none 0 0) := by
      rw [show (Value.slice none 0 0).cells = #[.slice none 0 0] from rfl, toList_madeCells_one]; simp
    rw [e] at hown
    refine ⟨0, Nat.zero_le _, rfl, [], rfl, List.nodup_nil, by simpa using hown, fun i hi => absurd hi (by omega), below_row hg1 (Nat.le_refl _) (fun k e => by cases e), ?_⟩
    rcases hown.2 with ⟨e, _⟩ | ⟨g', cap, cur, e, _, hh, _⟩
    · cases e
    · simp only [Value.slice.injEq, Option.some.injEq, Addr.mk.injEq, and_true, true_and] at e
      obtain ⟨rfl, _⟩ := e
      exact (Array.getElem?_eq_some_iff.1 hh).1
  case round =>
    obtain ⟨k, hk, rfl, hrel⟩ := hrel
    by_cases hlt : k < n
    · obtain ⟨b, off, rfl, hbl, hc⟩ := h.2 (by omega)
      obtain ⟨A1, c1, x1, r1⟩ := hc k hlt
      have HL := Lib.hid h.1
      have hb := hrel.choose_spec.2.2.2.2.1
      have hcx : wr.cell? ⟨b, off + k, none⟩ = some (.slice A1 (rowL L k).length c1) := (hb.cell (p := ⟨b, off + k, none⟩) hbl).trans x1
      have hm := hs.row (i := k) (by rw [HL.out]; exact hlt)
      have hC := toIntS_any A1 (rowL L k).length c1 (rowL L k) wr (r1.same hb) hm
      have hox : ∀ w', Below wr.heap.size wr w' → w'.cell? ⟨w.heap.size, k, none⟩ = some (.slice none 0 0) ∧ w'.frozen? ⟨w.heap.size, k, none⟩ = false := fun w' hw' => by
        obtain ⟨gs, h1, h2, h3, h4, h5, h6⟩ := hrel
        have h3' : w'.ownsRow w.heap.size 39 1 (.slice (some ⟨w.heap.size, 0, none⟩) n n) n ((gs.zip (L.take k)).map (fun p => rowW p.1 p.2) ++ List.replicate (n - k) (.slice none 0 0)) := h3.kept (grown_of_below hw') (.inr (by simp [Value.ownBlock]))
        refine ⟨?_, World.ownsRow.frozenAt h3' k⟩
        have hz : ((gs.zip (L.take k)).map (fun p => rowW p.1 p.2)).length = k := by have := h.1; simp [h1]; omega
        rw [World.ownsRow.cellAt h3' k (by omega), List.getElem?_append_right (by omega), hz, Nat.sub_self, List.getElem?_replicate, if_pos (by omega)]
      have HH := Lib.hid hrel
      clear hc h x1 r1 hb hrel
      go_wp2_with fail
      refine hC.mono ?_
      rintro e w2 ⟨g, rfl, o2, b2⟩
      obtain ⟨k1, k2⟩ := hox w2 b2
      have HN := Lib.hid (HH.out.step HL.out hlt o2 b2 (by omega))
      clear hox o2 b2 hC hcx
      go_wp2_with fail
      go_roundw
      case rel => exact ⟨k + 1, by omega, by go_num, HN.out⟩
      case measure => simp [intOf]; omega
    · go_wp2_with fail
      go_ret
      obtain rfl : k = n := by omega
      exact ⟨w.heap.size, rfl, hrel.done h.1, hrel.choose_spec.2.2.2.2.1⟩

set_option maxRecDepth 100000 in
set_option maxHeartbeats 2000000 in
theorem eqIntSS_same (A A' : Option Addr) (n c c' : Nat) (L : List (List Int)) (w : World) (h : RdM w A n L) (h' : RdM w A' n L) (hs : SmallM L) :
    Calls Try.prog 28 #[.slice A n c, .slice A' n c'] w fun e w' => e = .returned (.bool true) ∧ Below w.heap.size w w' := by
  have hm : (((n : Int)) != (n : Int)) = false := by simp
  have hn := hs.len
  rw [h.1] at hn
  go_enter Try.func28, Try.ntmps28
  go_wp2_with fail
  go_loopw [5] (fun i wr => ∃ k : Nat, k ≤ n ∧ i = .int .i64 k ∧ Below w.heap.size w wr) (fun i _ => n - (intOf i).toNat)
  case atStart => exact ⟨0, Nat.zero_le _, rfl, Below.refl _ _⟩
  case round =>
    obtain ⟨k, hk, rfl, hb⟩ := hrel
    by_cases hlt : k < n
    · obtain ⟨b, off, rfl, hbl, hc⟩ := h.2 (by omega)
      obtain ⟨b', off', rfl, hbl', hc'⟩ := h'.2 (by omega)
      obtain ⟨A1, c1, x1, r1⟩ := hc k hlt
      obtain ⟨A2, c2, x2, r2⟩ := hc' k hlt
      have hr := hs.row (i := k) (by rw [h.1]; exact hlt)
      generalize rowL L k = r at *
      generalize r.length = m at *
      have y1 : ∀ d os, (grow (redrawn wr d) os).cell? ⟨b, off + k, none⟩ = some (.slice A1 m c1) := fun d os => cell_regrown ((hb.cell (p := ⟨b, off + k, none⟩) hbl).trans x1) d os
      have y2 : ∀ d os, (grow (redrawn wr d) os).cell? ⟨b', off' + k, none⟩ = some (.slice A2 m c2) := fun d os => cell_regrown ((hb.cell (p := ⟨b', off' + k, none⟩) hbl').trans x2) d os
      have cE : ∀ d os, Calls Try.prog 77 #[.slice A1 m c1, .slice A2 m c2] (grow (redrawn wr d) os) fun e w'' => e = .returned (.bool true) ∧ ∃ p : Regrown, w'' = grow (redrawn wr p.d) p.os := fun d os =>
        Calls.regrown_of (eqIntS_same A1 A2 m c1 m c2 _ _ ((r1.same hb).same (below_regrown wr d os)) ((r2.same hb).same (below_regrown wr d os)) hr hr)
      have g1 : (k : Int) < (n : Int) := by omega
      have g2 : (0 : Int) ≤ (k : Int) := by omega
      have g3 : ((k : Int)).toNat = k := by omega
      have HB := Lib.hid hb
      clear x1 x2 r1 r2 hc hc' h h' hb
      go_wp2_with fail
      refine wp_region_quiet_below (by kernel_rfl) (by kernel_rfl) ?_
      repeat (go_big_quiet_step (with_reducible exact cE _ _))
      refine wpQuiet_nil ?_
      intro _ hw'
      obtain ⟨⟨dq, osq⟩, hw''⟩ := hw'
      subst hw''
      have bq := below_regrown wr dq osq
      generalize Go.Sort.grow (redrawn wr dq) osq = wq at bq ⊢
      go_wp2_with fail
      go_roundw
      case rel => exact ⟨k + 1, by omega, by go_num, HB.out.trans (bq.mono HB.out.size)⟩
      case measure => simp [intOf]; omega
    · go_wp2_with fail
      go_ret
      exact ⟨rfl, hb⟩
end Go.Proofs.Ytkjhkcnmhakfcaa
