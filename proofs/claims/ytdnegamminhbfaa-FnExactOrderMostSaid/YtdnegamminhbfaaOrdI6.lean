/- The program's steps in order, zonogons. -/
import Derived.Test.YtdnegamminhbfaaOrdI5
import Derived.Test.YtdnegamminhbfaaOrdI2
import Derived.Test.YtdnegamminhbfaaOrdI3
namespace Go.Proofs.Ytdnegamminhbfaa
open Go.RowKit Go.Sort Go.Lib

set_option maxRecDepth 100000 in
set_option maxHeartbeats 4000000 in
theorem stableV_any (g n c B : Nat) (l : List Pt) (w : World) (h : OwnV w B (some ⟨g, 0, none⟩) n c l) (h0 : 0 < n) (hn : n < 20) (hs : ∀ s ∈ l, stepP s) :
    Calls Try.prog 128 #[.slice (some ⟨g, 0, none⟩) n c, .int .i64 n, .func (.func 83) #[] #[]] w fun e w' => e = .returned (.tuple #[]) ∧ SrtV w B n c g (srt l) w' := by
  have HI := Lib.hid (insertV_any g n c B l w h h0 (by omega) hs)
  have d1 : decide ((20 : Int) ≤ n) = false := by rw [decide_eq_false_iff_not]; omega
  have d2 : decide ((20 : Int) < n) = false := by rw [decide_eq_false_iff_not]; omega
  clear h hs
  go_enter Try.func128, Try.ntmps128
  go_wp2_with fail
  go_loopw [7, 8] (fun a b wr => a = .int .i64 0 ∧ b = .int .i64 20 ∧ w = wr) (fun _ _ _ => 0)
  case atStart => exact ⟨rfl, rfl, rfl⟩
  case round =>
    obtain ⟨rfl, rfl, rfl⟩ := hrel
    go_wp2_with fail
    refine HI.out.mono ?_
    rintro e w2 ⟨rfl, hq⟩
    have HQ := Lib.hid hq
    clear hq
    go_wp2_with fail
    go_loopw [6, 7, 8, 9] (fun a _ _ _ wr => a = .int .i64 20 ∧ w2 = wr) (fun _ _ _ _ _ => 0)
    case atStart => exact ⟨rfl, rfl⟩
    case round =>
      obtain ⟨rfl, rfl⟩ := hrel
      go_wp2_with fail
      go_end0
      exact ⟨rfl, HQ.out⟩

set_option maxRecDepth 100000 in
set_option maxHeartbeats 4000000 in
theorem sortV_any (g n c B : Nat) (l : List Pt) (w : World) (h : OwnV w B (some ⟨g, 0, none⟩) n c l) (h0 : 0 < n) (hn : n < 20) (hs : ∀ s ∈ l, stepP s) :
    Calls Try.prog 82 #[.slice (some ⟨g, 0, none⟩) n c, .func (.func 83) #[] #[]] w fun e w' => e = .returned (.tuple #[]) ∧ SrtV w B n c g (srt l) w' := by
  have HI := Lib.hid (stableV_any g n c B l w h h0 hn hs)
  clear h hs
  go_enter Try.func82, Try.ntmps82
  go_wp2_with fail
  refine HI.out.mono ?_
  rintro e w2 ⟨rfl, hq⟩
  have HQ := Lib.hid hq
  clear hq
  go_wp2_with fail
  go_end0
  exact ⟨rfl, HQ.out⟩

theorem OwnV.off {w w' : World} {B n c : Nat} {A : Option Addr} {l : List Pt} {row : Option Nat} (h : OwnV w B A n c l) (hg : w.grownBy w' row) (hr : ∀ k, row = some k → (Value.slice A n c).ownBlock ≠ some k) : OwnV w' B A n c l := by
  refine World.ownsRow.kept h hg ?_
  cases hb : (Value.slice A n c).ownBlock with
  | none => exact .inl rfl
  | some k => exact .inr fun e => hr k e.symm hb
theorem grownBy_setAt (W : World) (g o : Nat) (v : Value) : W.grownBy (W.setCell ⟨g, o, none⟩ v) (some g) :=
  ⟨rfl, rfl, rfl, by simp [World.setCell], fun k _ hk => heap_setCell_other W ⟨g, o, none⟩ k v (fun e => hk (by simp [e]))⟩
theorem ptsL_steps {L : List (List Int)} (h : stepsB L = true) : ∀ s ∈ ptsL L, stepP s := fun s hs => by
  obtain ⟨r, hr, rfl⟩ := List.mem_map.1 hs
  exact (stepRow_pt (List.all_eq_true.1 h r hr)).1
theorem srt_path {l : List Pt} (h : IsPath l) : IsPath (srt l) := h.perm (srt_perm l)

set_option maxRecDepth 100000 in
set_option maxHeartbeats 4000000 in
theorem orderSorted_any (A : Option Addr) (n c : Nat) (L : List (List Int)) (w : World) (h : RdM w A n L) (hs : SmallM L) :
    Calls Try.prog 29 #[.slice A n c] w (RowsGot L srt w) := by
  have hT := pathSteps_any A n c 8 L w h hs (by omega)
  have HL := Lib.hid h.1
  unfold RowsGot
  cases hp : pathB L with
  | false =>
    rw [ifR_no _ hp]
    have hpm : pmB L 8 = false := by unfold pmB; rw [hp]; rfl
    rw [hpm] at hT
    clear h hs hp hpm
    go_enter Try.func29, Try.ntmps29
    go_wp2_with fail
    refine hT.mono ?_
    rintro e w1 ⟨⟨A1, m, c1, rfl, _⟩, b1⟩
    have HE := Lib.hid (OwnM.empty w1 (B := w.heap.size) b1.size)
    go_wp2_with fail
    refine bodyPost_ret (results_tmp2 rfl _ _ _) rfl ?_
    exact ⟨⟨_, 0, 0, rfl, ⟨[], HE.out⟩, small_nil⟩, below_alloc b1 _⟩
  | true =>
    rw [ifR_yes _ hp]
    have hpm : pmB L 8 = true := by unfold pmB; rw [hp]; simpa using (pathB_len hp).2
    rw [hpm] at hT
    obtain ⟨hP, _⟩ := pathB_true hp
    have HST := Lib.hid (ptsL_steps (pathB_stepsB hp))
    have HN := Lib.hid (show 3 ≤ n ∧ n ≤ 8 by have := pathB_len hp; rw [HL.out] at this; exact this)
    have HSM := Lib.hid (show SmallM (rowsOf (srt (ptsL L))) from small_rows (srt_path hP).hi)
    generalize ptsL L = l at *
    clear h hs hp hpm hP
    go_enter Try.func29, Try.ntmps29
    go_wp2_with fail
    refine hT.mono ?_
    rintro e w1 ⟨⟨A1, m, c1, rfl, hv⟩, b1⟩
    obtain ⟨rfl, ho⟩ := hv (by first | rfl | trivial)
    obtain ⟨g, rfl, _, _⟩ := ho.form (by have := HN.out; omega)
    have HS := Lib.hid (sortV_any g m c1 _ l w1 ho (by have := HN.out; omega) (by have := HN.out; omega) HST.out)
    have HO := Lib.hid ho
    clear hv ho hT
    go_wp2_with fail
    refine HS.out.mono ?_
    rintro e w2 ⟨rfl, hq⟩
    have b2 := app_markV b1 HO.out (Nat.le_refl _) hq.2
    have HLs := Lib.hid (listsOf_any _ m c1 _ w2 hq.1.rd (by have := HN.out; omega))
    have HB := Lib.hid b2
    clear hq b2 b1
    go_wp2_with fail
    refine HLs.out.mono ?_
    rintro e w3 ⟨A3, c3, gs, rfl, o3, b3⟩
    have HO3 := Lib.hid (o3.lower HB.out.size)
    have HB3 := Lib.hid (below_then HB.out b3)
    clear o3 b3
    go_wp2_with fail
    refine bodyPost_ret (results_tmp2 rfl _ _ _) rfl ?_
    exact ⟨⟨A3, m, c3, rfl, ⟨gs, HO3.out⟩, HSM.out⟩, HB3.out⟩

/-- Rows of a star's path, or none. -/
def ifZ (L : List (List Int)) : List (List Int) := if starB L then rowsOf (zonP (ptsL L)) else []
theorem ifZ_yes {L : List (List Int)} (h : starB L = true) : ifZ L = rowsOf (zonP (ptsL L)) := by unfold ifZ; rw [if_pos h]
theorem ifZ_no {L : List (List Int)} (h : starB L = false) : ifZ L = [] := by unfold ifZ; rw [h]; rfl
theorem starB_zon {L : List (List Int)} (h : starB L = true) : IsPath (zonP (ptsL L)) := by
  obtain ⟨_, h2, h4, hs⟩ := starB_true h
  exact zonP_path (by simpa using h2) (by simpa using h4) hs

end Go.Proofs.Ytdnegamminhbfaa
