/- The program's steps in order, zonogons. -/
import Derived.Test.YthpgenkdiokpeaaOrdI5
import Derived.Test.YthpgenkdiokpeaaOrdI2
import Derived.Test.YthpgenkdiokpeaaOrdI3
namespace Go.Proofs.Ythpgenkdiokpeaa
open Go.RowKit Go.Sort Go.Lib

set_option maxRecDepth 100000 in
set_option maxHeartbeats 4000000 in
theorem stableV_any (g n c B : Nat) (l : List Pt) (w : World) (h : OwnV w B (some ⟨g, 0, none⟩) n c l) (h0 : 0 < n) (hn : n < 20) (hs : ∀ s ∈ l, stepP s) :
    Calls Try.prog 163 #[.slice (some ⟨g, 0, none⟩) n c, .int .i64 n, .func (.func 126) #[] #[]] w fun e w' => e = .returned (.tuple #[]) ∧ SrtV w B n c g (srt l) w' := by
  have HI := Lib.hid (insertV_any g n c B l w h h0 (by omega) hs)
  have d1 : decide ((20 : Int) ≤ n) = false := by rw [decide_eq_false_iff_not]; omega
  have d2 : decide ((20 : Int) < n) = false := by rw [decide_eq_false_iff_not]; omega
  clear h hs
  go_enter Try.func163, Try.ntmps163
  go_wp2_with fail
  go_loopw [7, 8] (fun a b wr => a = .int .i64 0 ∧ b = .int .i64 20 ∧ w = wr) (fun _ _ _ => 0)
  case atStart => exact ⟨rfl, rfl, rfl⟩
  case round =>
    obtain ⟨rfl, rfl, rfl⟩ := hrel
    go_wp2_with fail
    refine HI.out.mono ?_
    rintro e w2 ⟨rfl, hq⟩
    have HQ := Lib.hid hq
    clear hq
    go_wp2_with fail
    go_loopw [6, 7, 8, 9] (fun a _ _ _ wr => a = .int .i64 20 ∧ w2 = wr) (fun _ _ _ _ _ => 0)
    case atStart => exact ⟨rfl, rfl⟩
    case round =>
      obtain ⟨rfl, rfl⟩ := hrel
      go_wp2_with fail
      go_end0
      exact ⟨rfl, HQ.out⟩

set_option maxRecDepth 100000 in
set_option maxHeartbeats 4000000 in
theorem sortV_any (g n c B : Nat) (l : List Pt) (w : World) (h : OwnV w B (some ⟨g, 0, none⟩) n c l) (h0 : 0 < n) (hn : n < 20) (hs : ∀ s ∈ l, stepP s) :
    Calls Try.prog 125 #[.slice (some ⟨g, 0, none⟩) n c, .func (.func 126) #[] #[]] w fun e w' => e = .returned (.tuple #[]) ∧ SrtV w B n c g (srt l) w' := by
  have HI := Lib.hid (stableV_any g n c B l w h h0 hn hs)
  clear h hs
  go_enter Try.func125, Try.ntmps125
  go_wp2_with fail
  refine HI.out.mono ?_
  rintro e w2 ⟨rfl, hq⟩
  have HQ := Lib.hid hq
  clear hq
  go_wp2_with fail
  go_end0
  exact ⟨rfl, HQ.out⟩

theorem OwnV.off {w w' : World} {B n c : Nat} {A : Option Addr} {l : List Pt} {row : Option Nat} (h : OwnV w B A n c l) (hg : w.grownBy w' row) (hr : ∀ k, row = some k → (Value.slice A n c).ownBlock ≠ some k) : OwnV w' B A n c l := by
  refine World.ownsRow.kept h hg ?_
  cases hb : (Value.slice A n c).ownBlock with
  | none => exact .inl rfl
  | some k => exact .inr fun e => hr k e.symm hb
theorem grownBy_setAt (W : World) (g o : Nat) (v : Value) : W.grownBy (W.setCell ⟨g, o, none⟩ v) (some g) :=
  ⟨rfl, rfl, rfl, by simp [World.setCell], fun k _ hk => heap_setCell_other W ⟨g, o, none⟩ k v (fun e => hk (by simp [e]))⟩
theorem ptsL_steps {L : List (List Int)} (h : stepsB L = true) : ∀ s ∈ ptsL L, stepP s := fun s hs => by
  obtain ⟨r, hr, rfl⟩ := List.mem_map.1 hs
  exact (stepRow_pt (List.all_eq_true.1 h r hr)).1
theorem srt_path {l : List Pt} (h : IsPath l) : IsPath (srt l) := h.perm (srt_perm l)

set_option maxRecDepth 100000 in
set_option maxHeartbeats 4000000 in
theorem orderSorted_any (A : Option Addr) (n c : Nat) (L : List (List Int)) (w : World) (h : RdM w A n L) (hs : SmallM L) :
    Calls Try.prog 63 #[.slice A n c] w (RowsGot L srt w) := by
  have hT := pathSteps_any A n c 8 L w h hs (by omega)
  have HL := Lib.hid h.1
  unfold RowsGot
  cases hp : pathB L with
  | false =>
    rw [ifR_no _ hp]
    have hpm : pmB L 8 = false := by unfold pmB; rw [hp]; rfl
    rw [hpm] at hT
    clear h hs hp hpm
    go_enter Try.func63, Try.ntmps63
    go_wp2_with fail
    refine hT.mono ?_
    rintro e w1 ⟨⟨A1, m, c1, rfl, _⟩, b1⟩
    have HE := Lib.hid (OwnM.empty w1 (B := w.heap.size) b1.size)
    go_wp2_with fail
    refine bodyPost_ret (results_tmp2 rfl _ _ _) rfl ?_
    exact ⟨⟨_, 0, 0, rfl, ⟨[], HE.out⟩, small_nil⟩, below_alloc b1 _⟩
  | true =>
    rw [ifR_yes _ hp]
    have hpm : pmB L 8 = true := by unfold pmB; rw [hp]; simpa using (pathB_len hp).2
    rw [hpm] at hT
    obtain ⟨hP, _⟩ := pathB_true hp
    have HST := Lib.hid (ptsL_steps (pathB_stepsB hp))
    have HN := Lib.hid (show 3 ≤ n ∧ n ≤ 8 by have := pathB_len hp; rw [HL.out] at this; exact this)
    have HSM := Lib.hid (show SmallM (rowsOf (srt (ptsL L))) from small_rows (srt_path hP).hi)
    generalize ptsL L = l at *
    clear h hs hp hpm hP
    go_enter Try.func63, Try.ntmps63
    go_wp2_with fail
    refine hT.mono ?_
    rintro e w1 ⟨⟨A1, m, c1, rfl, hv⟩, b1⟩
    obtain ⟨rfl, ho⟩ := hv (by first | rfl | trivial)
    obtain ⟨g, rfl, _, _⟩ := ho.form (by have := HN.out; omega)
    have HS := Lib.hid (sortV_any g m c1 _ l w1 ho (by have := HN.out; omega) (by have := HN.out; omega) HST.out)
    have HO := Lib.hid ho
    clear hv ho hT
    go_wp2_with fail
    refine HS.out.mono ?_
    rintro e w2 ⟨rfl, hq⟩
    have b2 := app_markV b1 HO.out (Nat.le_refl _) hq.2
    have HLs := Lib.hid (listsOf_any _ m c1 _ w2 hq.1.rd (by have := HN.out; omega))
    have HB := Lib.hid b2
    clear hq b2 b1
    go_wp2_with fail
    refine HLs.out.mono ?_
    rintro e w3 ⟨A3, c3, gs, rfl, o3, b3⟩
    have HO3 := Lib.hid (o3.lower HB.out.size)
    have HB3 := Lib.hid (below_then HB.out b3)
    clear o3 b3
    go_wp2_with fail
    refine bodyPost_ret (results_tmp2 rfl _ _ _) rfl ?_
    exact ⟨⟨A3, m, c3, rfl, ⟨gs, HO3.out⟩, HSM.out⟩, HB3.out⟩

set_option maxRecDepth 100000 in
set_option maxHeartbeats 8000000 in
theorem zonogon_any (A : Option Addr) (n c : Nat) (l : List Pt) (w : World) (h : RdV w A n l) (h2 : 2 ≤ n) (h4 : n ≤ 4) (hs : ∀ s ∈ l, stepP s) :
    Calls Try.prog 142 #[.slice A n c] w fun e w' => ∃ A' c', e = .returned (.slice A' (2 * n) c') ∧ OwnV w' w.heap.size A' (2 * n) c' (zonP l) ∧ Below w.heap.size w w' := by
  have HL := Lib.hid h.1
  have HR := Lib.hid h
  have HO := Lib.hid (OwnV.empty w (Nat.le_refl w.heap.size))
  have HST := Lib.hid hs
  clear h hs
  go_enter Try.func142, Try.ntmps142
  go_wp2_with fail
  go_loopw [3, 5, 12] (fun sl _ i wr => ∃ (k : Nat) (A1 : Option Addr) (c1 : Nat), k ≤ n ∧ i = .int .i64 k ∧ sl = .slice A1 k c1 ∧ OwnV wr w.heap.size A1 k c1 ((l.map upV).take k) ∧ Below w.heap.size w wr) (fun _ _ i _ => n - (intOf i).toNat)
  case atStart => exact ⟨0, _, 0, Nat.zero_le _, rfl, rfl, HO.out, below_alloc (Below.refl _ _) _⟩
  case round =>
    obtain ⟨k, A1, c1, hk, rfl, rfl, ho, hb⟩ := hrel
    by_cases hlt : k < n
    · obtain ⟨b, off, rfl, hbl, hc⟩ := (HR.out.below (Nat.le_refl _) hb).2 (by omega)
      obtain ⟨y1, y2⟩ := hc k hlt
      have hkl : k < l.length := by rw [HL.out]; exact hlt
      have HTK := Lib.hid (show (l.map upV).take (k + 1) = (l.map upV).take k ++ [upV (atP l k)] by
        rw [List.take_succ_eq_append_getElem (by simpa using hkl), List.getElem_map, atP_lt hkl])
      have hst := HST.out (atP l k) (by rw [atP_lt hkl]; exact List.getElem_mem _)
      have HUP := Lib.hid (show upV (atP l k) = if dnB ((atP l k).1, (atP l k).2) then (-(atP l k).1, -(atP l k).2) else ((atP l k).1, (atP l k).2) from rfl)
      have hV := World.alloc_heap_new wr (vecO (atP l k).1 (atP l k).2)
      obtain ⟨v0, v1, _, _⟩ := pr_cells hV
      have HV := Lib.hid hV
      have HW2 := Lib.hid (below_alloc hb (vecO (atP l k).1 (atP l k).2))
      have HO1 := Lib.hid (ho.al (vecO (atP l k).1 (atP l k).2))
      have hq9 : (-9 ≤ (atP l k).1 ∧ (atP l k).1 ≤ 9) ∧ (-9 ≤ (atP l k).2 ∧ (atP l k).2 ≤ 9) := ⟨hst.1, hst.2.1⟩
      generalize (atP l k).1 = qx at *
      generalize (atP l k).2 = qy at *
      have HBl := Lib.hid (fun W => below_any qx qy W)
      have HOp := Lib.hid (fun W => opposite_any qx qy W (by omega) (by omega))
      have HSZ := Lib.hid hb.size
      have HBL := Lib.hid (fun r (hr : (Value.slice A1 k c1).ownBlock = some r) => (ho.row r hr).2)
      clear hc hV ho hb hst hkl
      cases hd : dnB (qx, qy) with
      | false =>
        have hB := HBl.out
        rw [hd] at hB
        have HB := Lib.hid hB
        have HU2 := Lib.hid (HUP.out.trans (by rw [hd, if_neg (by simp)]))
        clear hd hB HBl
        go_wp2_with fail
        refine (HB.out _).mono ?_
        rintro e w3 ⟨rfl, b3⟩
        have hV3 := (b3.block _ (Array.getElem?_eq_some_iff.1 HV.out).1).trans HV.out
        obtain ⟨u0, u1, _, _⟩ := pr_cells hV3
        have o3 := (HO1.out.same b3).al (vecO qx qy)
        have b4 := below_alloc (below_then HW2.out b3) (vecO qx qy)
        have r4 := (OwnV.one w3 (Nat.le_refl _) qx qy).rd
        clear b3 hV3 v0 v1
        go_wp2_with (at_builtin; refine wpList_appV 69 Try.underlying69 rfl (.tmp 20) (.tmp 22) rfl rfl o3 rfl r4 (by omega) b4.size ?_; intro A5 c5 W5 o5 g5)
        have hb5 := app_markV b4 o3 (Nat.le_refl _) g5
        go_roundw
        case rel =>
          have o6 := o5
          rw [← HU2.out, ← HTK.out] at o6
          first
            | exact ⟨k + 1, A5, c5, by omega, by go_num, rfl, o6, hb5⟩
            | ((repeat apply Exists.intro); exact ⟨⟨k + 1, A5, c5, by omega, by go_num, rfl, o6, hb5⟩, rfl⟩)
        case measure => simp [intOf]; omega
      | true =>
        have hB := HBl.out
        rw [hd] at hB
        have HB := Lib.hid hB
        have HU2 := Lib.hid (HUP.out.trans (by rw [hd, if_pos rfl]))
        clear hd hB HBl
        go_wp2_with fail
        refine (HB.out _).mono ?_
        rintro e w3 ⟨rfl, b3⟩
        have hV3 := (b3.block _ (Array.getElem?_eq_some_iff.1 HV.out).1).trans HV.out
        obtain ⟨u0, u1, _, _⟩ := pr_cells hV3
        have HV3 := Lib.hid hV3
        have HO3 := Lib.hid (HO1.out.same b3)
        have HB3 := Lib.hid (below_then HW2.out b3)
        clear b3 hV3 v0 v1
        go_wp2_with fail
        refine (HOp.out _).mono ?_
        rintro e w4 ⟨rfl, b4⟩
        have hV4 := (b4.block _ (Array.getElem?_eq_some_iff.1 HV3.out).1).trans HV3.out
        obtain ⟨u2, u3, f2, f3⟩ := pr_cells hV4
        have hg5 : w4.grownBy ((w4.setCell ⟨wr.heap.size, 0, none⟩ (.int .i64 (-qx))).setCell ⟨wr.heap.size, 1, none⟩ (.int .i64 (-qy))) (some wr.heap.size) :=
          (grownBy_setAt w4 wr.heap.size 0 _).trans (grownBy_setAt _ wr.heap.size 1 _)
        have hS := pr_set hV4 (.int .i64 (-qx)) (.int .i64 (-qy))
        have ho5 := (HO3.out.same b4).off hg5 (fun r hr he => by cases hr; have := HBL.out _ he; omega)
        have hb5 := pr_below (below_then HB3.out b4) HSZ.out (.int .i64 (-qx)) (.int .i64 (-qy))
        obtain ⟨n0, n1, _, _⟩ := pr_cells hS
        have o6 := ho5.al (vecO (-qx) (-qy))
        have b6 := below_alloc hb5 (vecO (-qx) (-qy))
        have r6 := (OwnV.one ((w4.setCell ⟨wr.heap.size, 0, none⟩ (.int .i64 (-qx))).setCell ⟨wr.heap.size, 1, none⟩ (.int .i64 (-qy))) (Nat.le_refl _) (-qx) (-qy)).rd
        rw [show ((w4.setCell ⟨wr.heap.size, 0, none⟩ (.int .i64 (-qx))).setCell ⟨wr.heap.size, 1, none⟩ (.int .i64 (-qy))).heap.size = w4.heap.size by simp [World.setCell]] at r6
        clear b4 hV4 u0 u1 hg5 hS ho5 hb5
        go_wp2_with (at_builtin; refine wpList_appV 69 Try.underlying69 rfl (.tmp 20) (.tmp 22) rfl rfl o6 rfl r6 (by omega) b6.size ?_; intro A5 c5 W5 o5 g5)
        have hb7 := app_markV b6 o6 (Nat.le_refl _) g5
        go_roundw
        case rel =>
          have o7 := o5
          rw [← HU2.out, ← HTK.out] at o7
          first
            | exact ⟨k + 1, A5, c5, by omega, by go_num, rfl, o7, hb7⟩
            | ((repeat apply Exists.intro); exact ⟨⟨k + 1, A5, c5, by omega, by go_num, rfl, o7, hb7⟩, rfl⟩)
        case measure => simp [intOf]; omega
    · obtain rfl : k = n := by omega
      have hlu : (l.map upV).length = k := by rw [List.length_map, HL.out]
      rw [List.take_of_length_le (by omega)] at ho
      obtain ⟨g, rfl, hgB, _⟩ := ho.form (by omega)
      have hsu : ∀ s ∈ l.map upV, stepP s := fun s hs => by
        obtain ⟨a, ha, rfl⟩ := List.mem_map.1 hs
        exact upV_step (HST.out a ha)
      have HS := Lib.hid (sortV_any g k c1 _ (l.map upV) wr ho (by omega) (by omega) hsu)
      have HO1 := Lib.hid ho
      have HB := Lib.hid hb
      have HZ := Lib.hid (show zonP l = srt (l.map upV) ++ (srt (l.map upV)).map negP from rfl)
      have HQ9 := Lib.hid (fun i (hi : i < k) => (show (-9 ≤ (atP (srt (l.map upV)) i).1 ∧ (atP (srt (l.map upV)) i).1 ≤ 9) ∧ (-9 ≤ (atP (srt (l.map upV)) i).2 ∧ (atP (srt (l.map upV)) i).2 ≤ 9) from by
        have hm : atP (srt (l.map upV)) i ∈ l.map upV := by
          rw [atP_lt (by rw [srt_len, hlu]; exact hi)]
          exact (srt_perm _).mem_iff.1 (List.getElem_mem _)
        have := hsu _ hm
        exact ⟨this.1, this.2.1⟩))
      have HSL := Lib.hid (show (srt (l.map upV)).length = k by rw [srt_len, hlu])
      generalize srt (l.map upV) = q at *
      clear ho hb hsu hlu
      go_wp2_with fail
      refine HS.out.mono ?_
      rintro e w2 ⟨rfl, hq⟩
      have b2 := app_markV HB.out HO1.out (Nat.le_refl _) hq.2
      have HC := Lib.hid (cloneV_any g 0 k c1 q w2 hq.1.rd (by omega))
      have HQ := Lib.hid hq.1.rd
      have HB2 := Lib.hid b2
      clear hq b2
      go_wp2_with fail
      refine HC.out.mono ?_
      rintro e w3 ⟨A3, c3, rfl, o3, b3⟩
      have HO3 := Lib.hid o3
      have HB3 := Lib.hid b3
      clear o3 b3
      go_wp2_with fail
      go_loopw [6, 8, 31] (fun sl _ i wr => ∃ (j : Nat) (A1 : Option Addr) (c1 : Nat), j ≤ k ∧ i = .int .i64 j ∧ sl = .slice A1 (k + j) c1 ∧ OwnV wr w2.heap.size A1 (k + j) c1 (q ++ (q.map negP).take j) ∧ Below w2.heap.size w2 wr) (fun _ _ i _ => k - (intOf i).toNat)
      case atStart => exact ⟨0, A3, c3, Nat.zero_le _, rfl, rfl, by simpa using HO3.out, HB3.out⟩
      case round =>
        obtain ⟨j, A4, c4, hj, rfl, rfl, ho, hb⟩ := hrel
        by_cases hjl : j < k
        · obtain ⟨b, off, e, hbl, hc⟩ := (HQ.out.below (Nat.le_refl _) hb).2 (by omega)
          cases e
          obtain ⟨y1, y2⟩ := hc j hjl
          rw [Nat.zero_add] at y1 y2
          have hql : j < q.length := by rw [HSL.out]; exact hjl
          have HTK := Lib.hid (show (q.map negP).take (j + 1) = (q.map negP).take j ++ [(-(atP q j).1, -(atP q j).2)] by
            rw [List.take_succ_eq_append_getElem (by simpa using hql), List.getElem_map, atP_lt hql]; rfl)
          have hq9 := HQ9.out j hjl
          have hV := World.alloc_heap_new wr (vecO (atP q j).1 (atP q j).2)
          obtain ⟨v0, v1, _, _⟩ := pr_cells hV
          have HW2 := Lib.hid (below_alloc hb (vecO (atP q j).1 (atP q j).2))
          have HO4 := Lib.hid (ho.al (vecO (atP q j).1 (atP q j).2))
          generalize (atP q j).1 = qx at *
          generalize (atP q j).2 = qy at *
          have HOp := Lib.hid (fun W => opposite_any qx qy W (by omega) (by omega))
          clear hc hV ho hb hq9 hql
          go_wp2_with fail
          refine (HOp.out _).mono ?_
          rintro e w4 ⟨rfl, b4⟩
          have o6 := (HO4.out.same b4).al (vecO (-qx) (-qy))
          have b6 := below_alloc (below_then HW2.out b4) (vecO (-qx) (-qy))
          have r6 := (OwnV.one w4 (Nat.le_refl _) (-qx) (-qy)).rd
          clear b4 v0 v1
          go_wp2_with (at_builtin; refine wpList_appV 69 Try.underlying69 rfl (.tmp 35) (.tmp 38) rfl rfl o6 rfl r6 (by omega) b6.size ?_; intro A5 c5 W5 o5 g5)
          have hb7 := app_markV b6 o6 (Nat.le_refl _) g5
          go_roundw
          case rel =>
            have o7 := o5
            rw [List.append_assoc, ← HTK.out] at o7
            first
              | exact ⟨j + 1, A5, c5, by omega, by go_num, rfl, o7, hb7⟩
              | ((repeat apply Exists.intro); exact ⟨⟨j + 1, A5, c5, by omega, by go_num, rfl, o7, hb7⟩, rfl⟩)
          case measure => simp [intOf]; omega
        · obtain rfl : j = k := by omega
          rw [List.take_of_length_le (by rw [List.length_map, HSL.out]; exact Nat.le_refl _), ← HZ.out] at ho
          have HOE := Lib.hid (ho.lower HB2.out.size)
          have HBE := Lib.hid (below_then HB2.out hb)
          clear ho hb
          go_wp2_with fail
          go_ret
          refine ⟨A4, c4, ret_sl (by omega), ?_, HBE.out⟩
          have := HOE.out
          rwa [show j + j = 2 * j by omega] at this

/-- Rows of a star's path, or none. -/
def ifZ (L : List (List Int)) : List (List Int) := if starB L then rowsOf (zonP (ptsL L)) else []
theorem ifZ_yes {L : List (List Int)} (h : starB L = true) : ifZ L = rowsOf (zonP (ptsL L)) := by unfold ifZ; rw [if_pos h]
theorem ifZ_no {L : List (List Int)} (h : starB L = false) : ifZ L = [] := by unfold ifZ; rw [h]; rfl
theorem starB_zon {L : List (List Int)} (h : starB L = true) : IsPath (zonP (ptsL L)) := by
  obtain ⟨_, h2, h4, hs⟩ := starB_true h
  exact zonP_path (by simpa using h2) (by simpa using h4) hs

set_option maxRecDepth 100000 in
set_option maxHeartbeats 4000000 in
theorem zonoPath_any (A : Option Addr) (n c : Nat) (L : List (List Int)) (w : World) (h : RdM w A n L) (hs : SmallM L) :
    Calls Try.prog 81 #[.slice A n c] w fun e w' => (∃ (A' : Option Addr) (n' c' : Nat), e = .returned (.tuple #[.slice A' n' c', .bool (starB L)]) ∧ (∃ gs, OwnM w' w.heap.size A' n' c' gs (ifZ L)) ∧ SmallM (ifZ L)) ∧ Below w.heap.size w w' := by
  have hT := starOf_any A n c L w h hs
  have HL := Lib.hid h.1
  cases hp : starB L with
  | false =>
    rw [ifZ_no hp]
    rw [hp] at hT
    clear h hs hp
    go_enter Try.func81, Try.ntmps81
    go_wp2_with fail
    refine hT.mono ?_
    rintro e w1 ⟨⟨A1, m, c1, rfl, _⟩, b1⟩
    have HE := Lib.hid (OwnM.empty w1 (B := w.heap.size) b1.size)
    go_wp2_with fail
    refine bodyPost_ret (results_tmp2 rfl _ _ _) rfl ?_
    exact ⟨⟨_, 0, 0, rfl, ⟨[], HE.out⟩, small_nil⟩, below_alloc b1 _⟩
  | true =>
    rw [ifZ_yes hp]
    rw [hp] at hT
    obtain ⟨_, h2, h4, hsp⟩ := starB_true hp
    rw [HL.out] at h2 h4
    have HST := Lib.hid hsp
    have HN := Lib.hid (And.intro h2 h4)
    have HSM := Lib.hid (show SmallM (rowsOf (zonP (ptsL L))) from small_rows (starB_zon hp).hi)
    generalize ptsL L = l at *
    clear h hs hp hsp h2 h4
    go_enter Try.func81, Try.ntmps81
    go_wp2_with fail
    refine hT.mono ?_
    rintro e w1 ⟨⟨A1, m, c1, rfl, hv⟩, b1⟩
    obtain ⟨rfl, ho⟩ := hv (by first | rfl | trivial)
    have HS := Lib.hid (zonogon_any A1 m c1 l w1 ho.rd HN.out.1 HN.out.2 HST.out)
    clear hv ho hT
    go_wp2_with fail
    refine HS.out.mono ?_
    rintro e w2 ⟨A2, c2, rfl, o2, b2⟩
    have HLs := Lib.hid (listsOf_any A2 (2 * m) c2 _ w2 o2.rd (by have := HN.out; omega))
    have HB := Lib.hid (below_then b1 b2)
    clear o2 b2 b1
    go_wp2_with fail
    refine HLs.out.mono ?_
    rintro e w3 ⟨A3, c3, gs, rfl, o3, b3⟩
    have HO3 := Lib.hid (o3.lower HB.out.size)
    have HB3 := Lib.hid (below_then HB.out b3)
    clear o3 b3
    go_wp2_with fail
    refine bodyPost_ret (results_tmp2 rfl _ _ _) rfl ?_
    exact ⟨⟨A3, _, c3, rfl, ⟨gs, HO3.out⟩, HSM.out⟩, HB3.out⟩
end Go.Proofs.Ythpgenkdiokpeaa
