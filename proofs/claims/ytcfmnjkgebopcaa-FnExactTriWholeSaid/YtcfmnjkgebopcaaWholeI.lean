/- TriWhole of the program. -/
import Derived.Test.YtcfmnjkgebopcaaLists
import Derived.Test.YtcfmnjkgebopcaaWhole
namespace Go.Proofs.Ytcfmnjkgebopcaa
open Go.RowKit Go.Sort

/-- The triangles of a round with whole areas. -/
noncomputable def triWholeM (p : Int) : List T3 := (triAllM p).filter wholeT
theorem triWholeM_no {p : Int} (h : inB p 1 60 = false) : triWholeM p = [] := by unfold triWholeM; rw [triAllM_no h]; rfl
theorem triWholeM_yes {p : Int} (h : inB p 1 60 = true) : triWholeM p = (allP p).filter wholeT := by unfold triWholeM; rw [triAllM_yes h]

/-- What TriWhole's loop keeps: of the triangles that have come, those with whole areas. -/
def WhoR (w : World) (b d r : Nat) (L : List T3) (cnt : Nat) (wr : World) : Prop :=
  ∃ S M, RangeT wr b r L S cnt ∧ SetT wr d M ∧ (∀ t, t ∈ M ↔ t ∈ L ∧ t ∉ S ∧ wholeT t = true) ∧ M.length ≤ L.length ∧ Below w.heap.size w wr
theorem RangeT.nodupS {w : World} {b r cnt : Nat} {L S : List T3} (h : RangeT w b r L S cnt) : S.Nodup := by obtain ⟨D, left, _, _, h1, _⟩ := h; exact h1
theorem RangeT.subS {w : World} {b r cnt : Nat} {L S : List T3} (h : RangeT w b r L S cnt) : ∀ t ∈ S, t ∈ L := by obtain ⟨D, left, _, _, _, h1, _⟩ := h; exact h1
theorem SetT.alloc_ {w : World} {b : Nat} {L : List T3} (h : SetT w b L) (o : Obj) : SetT (w.alloc o) b L := h.kept (World.grownBy_alloc w o none) (by simp)
theorem mem_next {S M L : List T3} {t : T3} (hS : S.Nodup) (hL : t ∈ L) (hm : ∀ s, s ∈ M ↔ s ∈ L ∧ s ∉ S ∧ wholeT s = true) (hw : wholeT t = true) : ∀ s, s ∈ addT M t ↔ s ∈ L ∧ s ∉ S.erase t ∧ wholeT s = true := by
  intro s
  rw [mem_addT, hm, hS.mem_erase_iff]
  by_cases e : s = t
  · subst e; simp [hL, hw]
  · simp [e]
theorem mem_skip {S M L : List T3} {t : T3} (hS : S.Nodup) (hm : ∀ s, s ∈ M ↔ s ∈ L ∧ s ∉ S ∧ wholeT s = true) (hw : wholeT t = false) : ∀ s, s ∈ M ↔ s ∈ L ∧ s ∉ S.erase t ∧ wholeT s = true := by
  intro s
  rw [hm, hS.mem_erase_iff]
  by_cases e : s = t
  · subst e; simp [hw]
  · simp [e]
theorem sub_len {M L : List T3} (hM : M.Nodup) (hL : L.Nodup) (h : ∀ t ∈ M, t ∈ L) : M.length ≤ L.length := by
  have e := len_of_mem hM (hL.filter fun t => decide (t ∈ M)) (fun t => by rw [List.mem_filter]; simp; exact h t)
  rw [e]
  exact List.length_filter_le _ _

set_option maxRecDepth 100000 in
set_option maxHeartbeats 4000000 in
theorem implTriWhole_any (p : Int) (w : World) : Calls Try.prog 81 #[.int .i64 p] w fun e w' => ∃ A c, e = .returned (.tuple #[.slice A (triWholeM p).length c, .bool (inB p 1 60)]) ∧ (∃ gs, OwnT w' w.heap.size A (triWholeM p).length c gs (triWholeM p)) ∧ Below w.heap.size w w' := by
  have hmm := @run_makeMap Try.prog
  by_cases h : inB p 1 60 = true
  · have hp := h
    unfold inB at hp
    simp at hp
    have hO := ofRound_yes p w h
    rw [triWholeM_yes h, h]
    have hlen := len_allP hp.1 hp.2
    have h100 := len_inP (n := 60) hp.1 hp.2
    rw [inP_all hp.2] at h100
    go_enter Try.func81, Try.ntmps81
    go_wp2_with fail
    refine hO.mono ?_
    rintro e w2 ⟨b, L, rfl, hb, s2, m2, b2⟩
    have hmem : ∀ t, t ∈ L ↔ t ∈ allP p := fun t => (m2 t).trans (mem_allP hp.2).symm
    have hLl := len_of_mem s2.nodup (nodup_allP p) hmem
    have hbl := s2.lt
    have HM := Lib.hid hmem
    have HG := Lib.hid m2
    have HLN := Lib.hid s2.nodup
    have hLn : L.length ≤ 100 := by omega
    clear m2 hmem hO hlen h100 hLl
    have s3 := s2.kept (World.grownBy_alloc w2 (.map #[] 0) none) (by simp)
    have d3 := SetT.made w2
    go_wp2_with (at_range; refine wp_set_range _ rfl _ rfl b L rfl s3 ?_; intro w0 hr0 hg0 hs0)
    go_frame
    have d0 := d3.kept hg0 (by simp)
    have b0 := (below_alloc b2 (.map #[] 0)).grown hg0 (by have := b2.size; simp; omega) (fun j hj => by cases hj)
    rw [World.size_alloc] at hr0
    clear hs0 s3 d3 hg0 s2
    have hb2 := b2.size
    simp only [World.size_alloc]
    obtain ⟨d, hd⟩ : ∃ d, d = w2.heap.size := ⟨_, rfl⟩
    rw [← hd] at hr0 d0 hb2 hbl ⊢
    have H0 : Hid (WhoR w b d (d + 1) L L.length w0) := Lib.hid ⟨L, [], hr0, d0, fun t => ⟨fun h => by simp at h, fun h => absurd h.1 h.2.1⟩, by simp, b0⟩
    clear hr0 d0 b0 hmm b2 hd
    go_loopw [7] (fun _ wr => ∃ cnt, WhoR w b d (d + 1) L cnt wr) (fun _ wr => wr.rangeLeft b (d + 1))
    case atStart => exact ⟨_, H0.out⟩
    case round =>
      obtain ⟨cnt, S, M, hrg, hs, hm, hML, hbw⟩ := hrel
      have HMm := Lib.hid hm
      have HB := Lib.hid hbw
      have HR0 := Lib.hid hrg
      clear hm hbw H0
      go_wp2_with (first | (at_next; refine wp_set_next _ rfl _ rfl b (d + 1) L S cnt rfl hrg ?_ ?_))
      · intro hS
        subst hS
        have hls := lists_any d M wr hs (by omega)
        have HN := Lib.hid hs.nodup
        clear hs hrg
        go_wp2_with fail
        refine hls.mono ?_
        rintro e w3 ⟨A, n, c, rfl, ⟨gs, M', o3, p3, s3⟩, b3⟩
        have hmm : ∀ t, t ∈ M' ↔ t ∈ (allP p).filter wholeT := fun t => by
          rw [p3.mem_iff, HMm.out t, HM.out t, List.mem_filter]
          simp
        have hMM : M' = (allP p).filter wholeT :=
          eq_of_sorted (sorted_of (p := p) (n := 60) (fun t ht => (mem_allP hp.2).1 (List.mem_filter.1 ((hmm t).1 ht)).1) (p3.nodup_iff.2 HN.out) s3) ((sorted_allP p).filter _) hmm
        subst hMM
        have hn := o3.n
        subst hn
        have HO := Lib.hid o3
        clear o3 p3 s3 hls hmm
        go_wp2_with fail
        go_ret2
        exact ⟨A, c, rfl, ⟨gs, HO.out.lower HB.out.size⟩, below_then HB.out b3⟩
      · intro x y z cv w3 cnt2 htS htL hwf hrg2 hlt hg2 hs2 hen
        have hT := good_tri ((HG.out (x, y, z)).1 htL)
        have hW := fun W => wholeArea_any x y z W hT
        have hb3 := HB.out.grown hg2 HB.out.size (fun j hj => by cases hj; omega)
        have sd := hs.kept hg2 (by simp)
        have HS := Lib.hid hrg.nodupS
        have HL := Lib.hid htL
        have HR := Lib.hid hrg2
        have HSD := Lib.hid sd
        have HB3 := Lib.hid hb3
        clear hs2 hs hrg htS htL hrg2 hg2 hb3 sd hT
        by_cases hw : wholeB (areaM x y z) = true
        · rw [hw] at hW
          have HX := Lib.hid (mem_next HS.out HL.out HMm.out (show wholeT (x, y, z) = true from hw))
          clear hw
          go_wp2_with fail
          refine (hW _).mono ?_
          rintro e w4 ⟨rfl, b4⟩
          have hh := b4.block w3.heap.size (by simp)
          rw [World.alloc_heap_new] at hh
          obtain ⟨u0, u1, u2, _, _, _⟩ := three_cells hh
          have s4 := (HSD.out.alloc_ (.cells #[.int .i64 x, .int .i64 y, .int .i64 z] 63)).same b4
          have r4 := (HR.out.kept (World.grownBy_alloc w3 (.cells #[.int .i64 x, .int .i64 y, .int .i64 z] 63) none) (by simp) (by simp)).kept (grown_of_below b4) (by simp) (by simp)
          have h4 := below_then (below_alloc HB3.out (.cells #[.int .i64 x, .int .i64 y, .int .i64 z] 63)) b4
          have HR4 := Lib.hid r4
          have H4 := Lib.hid h4
          have hml : M.length < maxLen := by unfold maxLen; omega
          clear r4 h4 hW hh b4 HR HSD
          go_wp2_with (at_mapUpdate; refine wp_set_store _ rfl _ _ _ rfl d M rfl s4 hml (x, y, z) rfl true rfl hwf ?_; intro w5 s5 g5)
          have r5 := HR4.out.kept g5 (by simp; omega) (by simp)
          have h5 := H4.out.grown g5 H4.out.size (fun j hj => by cases hj; omega)
          have hl5 := sub_len s5.nodup HLN.out (fun t ht => ((HX.out t).1 ht).1)
          go_roundw
          case rel =>
            have hT : ∃ cnt, WhoR w b d (d + 1) L cnt w5 := ⟨cnt2, _, _, r5, s5, HX.out, hl5, h5⟩
            first
              | exact hT
              | ((repeat apply Exists.intro); exact ⟨hT, rfl⟩)
          case measure => rw [r5.left_eq, HR0.out.left_eq]; exact hlt
        · rw [Bool.not_eq_true] at hw
          rw [hw] at hW
          have HX := Lib.hid (mem_skip HS.out HMm.out (show wholeT (x, y, z) = false from hw))
          clear hw
          go_wp2_with fail
          refine (hW _).mono ?_
          rintro e w4 ⟨rfl, b4⟩
          have s4 := (HSD.out.alloc_ (.cells #[.int .i64 x, .int .i64 y, .int .i64 z] 63)).same b4
          have r4 := (HR.out.kept (World.grownBy_alloc w3 (.cells #[.int .i64 x, .int .i64 y, .int .i64 z] 63) none) (by simp) (by simp)).kept (grown_of_below b4) (by simp) (by simp)
          have h4 := below_then (below_alloc HB3.out (.cells #[.int .i64 x, .int .i64 y, .int .i64 z] 63)) b4
          clear hW b4 HR HSD
          go_wp2_with fail
          go_roundw
          case rel =>
            have hT : ∃ cnt, WhoR w b d (d + 1) L cnt w4 := ⟨cnt2, _, _, r4, s4, HX.out, hML, h4⟩
            first
              | exact hT
              | ((repeat apply Exists.intro); exact ⟨hT, rfl⟩)
          case measure => rw [r4.left_eq, HR0.out.left_eq]; exact hlt
  · rw [Bool.not_eq_true] at h
    have hO := ofRound_no p w h
    rw [triWholeM_no h, h]
    go_enter Try.func81, Try.ntmps81
    go_wp2_with fail
    refine hO.mono ?_
    rintro e w2 ⟨rfl, b2⟩
    have hrg := run_range_nilMap (P := Try.prog) (w2.alloc (.map #[] 0)) 72 63 4 Try.underlying72
    have hnx : ∀ ty, (Instr.next (.pointer (some ⟨(w2.alloc (.map #[] 0)).heap.size, 0, none⟩)) false ty).run Try.prog ((w2.alloc (.map #[] 0)).alloc (.mapIter none 0 #[] 0)) = .ok (.tuple #[.bool false]) ((w2.alloc (.map #[] 0)).alloc (.mapIter none 0 #[] 0)) := fun ty => run_next_nilMap _ ty 0 0 #[]
    rw [World.size_alloc] at hrg
    rw [World.size_alloc] at hnx
    have d3 := (SetT.made w2).alloc_ (.mapIter none 0 #[] 0)
    have b3 := below_alloc (below_alloc b2 (.map #[] 0)) (.mapIter none 0 #[] 0)
    have hls := lists_any w2.heap.size [] _ d3 (by simp)
    clear hO h d3
    go_wp2_with fail
    refine wp_loop_rounds 1 ?_
    rw [rounds_succ]
    go_wp2_with fail
    refine hls.mono ?_
    rintro e w4 ⟨A, n, c, rfl, ⟨gs, M', o4, p4, s4⟩, b4⟩
    obtain rfl : M' = [] := List.Perm.eq_nil p4
    have hn := o4.n
    subst hn
    have HO := Lib.hid o4
    clear o4 p4 s4 hls
    go_wp2_with fail
    go_ret2
    exact ⟨A, c, rfl, ⟨gs, HO.out.lower b3.size⟩, below_then b3 b4⟩
end Go.Proofs.Ytcfmnjkgebopcaa
