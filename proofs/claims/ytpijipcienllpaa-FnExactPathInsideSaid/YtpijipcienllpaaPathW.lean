/- The program's reading of a path, walked. -/
import Derived.Test.YtpijipcienllpaaPathR
namespace Go.Proofs.Ytpijipcienllpaa
open Go.RowKit Go.Sort Go.Lib

theorem cnInfo2 : (Try.prog.info? 54).map (fun i => i.size) = some 3 := by kernel_rfl
abbrev cnlO (x y : Int) : Obj := .cells #[.int .i64 x, .int .i64 y, .pointer none] 54

set_option maxRecDepth 100000 in
set_option maxHeartbeats 8000000 in
theorem pathOf_any (A : Option Addr) (n c : Nat) (L : List (List Int)) (w : World) (h : RdM w A n L) (hs : SmallM L) :
    Calls Try.prog 66 #[.slice A n c] w fun e w' => (∃ v, e = .returned (.tuple #[v, .bool (pathB L)]) ∧ (pathB L = true → ∃ gs, v = ptrV (gs.getD 0 0) ∧ Ring w' gs (corL (ptsL L)) ∧ ∀ i, i < n → w.heap.size ≤ gs.getD i 0)) ∧ Below w.heap.size w w' := by
  have hl := h.1
  have hn : n ≤ 1048576 := by rw [← hl]; exact hs.len
  obtain ⟨pb, epb⟩ : ∃ pb, pb = pathB L := ⟨_, rfl⟩
  rw [← epb]
  have EPB := Lib.hid epb
  clear epb
  by_cases hr : 3 ≤ n ∧ n ≤ 8
  · obtain ⟨hr1, hr2⟩ := hr
    have d1 : decide ((n : Int) < 3) = false := by simp; omega
    have d2 : decide ((n : Int) > 8) = false := by simp; omega
    have HS := Lib.hid hs
    have HL := Lib.hid hl
    obtain ⟨b, off, rfl, hbl, hc⟩ := h.2 (by omega)
    have hlp : (ptsL L).length = n := by simp [hl]
    have HC0 : Chn w [w.heap.size] (ptsL L) 0 (w.alloc (cnlO 0 0)) := ⟨rfl, by simp, fun i hi => by obtain rfl : i = 0 := by omega
                                                                                                    simp, fun i hi => absurd hi (by omega), by
      rw [cor_zero]; exact World.alloc_heap_new w _, below_alloc (Below.refl _ _) _⟩
    have HZ := Lib.hid HC0
    clear HC0 h hs hl
    go_enter Try.func66, Try.ntmps66
    go_wp2_with fail
    go_loopw [5, 7, 8, 9, 23] (fun la _ _ _ i wr => ∃ (k : Nat) (gs : List Nat), k ≤ n ∧ i = .int .i64 k ∧ la = ptrV (gs.getD k 0) ∧ gs.getD 0 0 = w.heap.size ∧ (∀ j, j < k → stepRow (rowL L j) = true) ∧ Chn w gs (ptsL L) k wr) (fun _ _ _ _ i _ => n - (intOf i).toNat)
    case atStart => exact ⟨0, [w.heap.size], Nat.zero_le _, rfl, rfl, rfl, fun j hj => absurd hj (by omega), HZ.out⟩
    case round =>
      obtain ⟨k, gs, hk, rfl, rfl, hg0, hst, hch⟩ := hrel
      obtain ⟨gk, egk⟩ : ∃ gk, gk = gs.getD k 0 := ⟨_, rfl⟩
      rw [← egk]
      have EG := Lib.hid egk
      clear egk
      by_cases hlt : k < n
      · obtain ⟨A1, c1, x1, r1⟩ := hc k hlt
        have hcx : wr.cell? ⟨b, off + k, none⟩ = some (.slice A1 (rowL L k).length c1) := (hch.bel.cell (p := ⟨b, off + k, none⟩) hbl).trans x1
        have hS := stepOf_any A1 (rowL L k).length c1 (rowL L k) wr (r1.same hch.bel) (HS.out.row (by rw [HL.out]; exact hlt))
        have hbd := part_bd (L := L) (k := k) (by rw [HL.out]; omega) hst
        have hat : atP (ptsL L) k = rowPt (rowL L k) := ptsL_at (by rw [HL.out]; exact hlt)
        have hcs := cor_succ (l := ptsL L) (i := k) (by rw [hlp]; exact hlt)
        rw [hat] at hcs
        cases hsr : stepRow (rowL L k) with
        | false =>
          have hpf := pathB_row (by rw [HL.out]; exact hlt) hsr
          rw [hsr] at hS
          have HPF := Lib.hid (EPB.out.trans hpf)
          generalize (rowL L k).length = m at *
          have HB := Lib.hid hch.bel
          clear hpf hsr hch hst hbd hat hcs x1 r1 hc
          go_wp2_with fail
          refine hS.mono ?_
          rintro e w2 ⟨⟨x, y, rfl, _⟩, b2⟩
          go_wp2_with fail
          refine bodyPost_ret (results_tmp2 rfl _ _ _) rfl ?_
          rw [HPF.out]
          exact ⟨⟨_, rfl, fun e => by cases e⟩, below_alloc (below_then HB.out b2) _⟩
        | true =>
          have hsp := (stepRow_pt hsr).1
          rw [hsr] at hS
          have HST := Lib.hid (show ∀ j, j < k + 1 → stepRow (rowL L j) = true from fun j hj => by
            by_cases e : j = k
            · rw [e]; exact hsr
            · exact hst j (by omega))
          generalize (rowL L k).length = m at *
          have HCH := Lib.hid hch
          have HCS := Lib.hid hcs
          have HSP := Lib.hid (And.intro hsp hbd)
          generalize rowPt (rowL L k) = q at *
          clear hsr hch hst hbd hat hcs x1 r1 hc hsp
          go_wp2_with fail
          refine hS.mono ?_
          rintro e w2 ⟨⟨x, y, rfl, hxy⟩, b2⟩
          have exy := hxy (by first | rfl | trivial)
          obtain rfl : x = q.1 := congrArg Prod.fst exy
          obtain rfl : y = q.2 := congrArg Prod.snd exy
          have b3 := below_alloc (Below.refl w2.heap.size w2) (vecO q.1 q.2)
          have HC3 := Lib.hid (HCH.out.same (b2.trans (b3.mono b2.size)))
          have hV := World.alloc_heap_new w2 (vecO q.1 q.2)
          obtain ⟨v0, v1, _, _⟩ := pr_cells hV
          obtain ⟨k0, k1, k2, f2⟩ := HC3.out.last.cells
          have hP := fun W => plus_any (cor (ptsL L) k).1 (cor (ptsL L) k).2 q.1 q.2 W (by have := HSP.out; unfold stepP at this; omega) (by have := HSP.out; unfold stepP at this; omega)
          have hg1 : (cor (ptsL L) k).1 + q.1 = (cor (ptsL L) (k + 1)).1 := by rw [HCS.out]; rfl
          have hg2 : (cor (ptsL L) k).2 + q.2 = (cor (ptsL L) (k + 1)).2 := by rw [HCS.out]; rfl
          rw [hg1, hg2] at hP
          have HP := Lib.hid hP
          have hsz : w2.heap.size + 1 = (w2.alloc (vecO q.1 q.2)).heap.size := by simp
          clear hxy exy b2 b3 hV hS hcx hP hg1 hg2
          generalize (cor (ptsL L) k).1 = cx at *
          generalize (cor (ptsL L) k).2 = cy at *
          rw [← EG.out] at k0 k1 k2 f2
          have HS3 := Lib.hid hsz
          clear hsz
          go_wp2_with fail
          go_region_with (go_at_call 101; refine (HP.out _).mono ?_; rintro e w4 ⟨rfl, b4⟩; have HC4 := Lib.hid (HC3.out.same (((Below.refl _ _).drew).trans b4)); have HC5 := (HC4.out.same (below_alloc (Below.refl _ _) (cnlO (cor (ptsL L) (k + 1)).1 (cor (ptsL L) (k + 1)).2))).last.cells; rw [← EG.out] at HC5; obtain ⟨j0, j1, j2, j3⟩ := HC5; clear b4)
          all_goals
            have HN := Lib.hid (HC4.out.step (by rw [hlp]; exact hlt))
            have hg0' : (gs ++ [w4.heap.size]).getD 0 0 = w.heap.size := by
              rw [← hg0]; simp only [List.getD_eq_getElem?_getD]; rw [List.getElem?_append_left (by rw [HCH.out.len]; omega)]
            have hgk' : (gs ++ [w4.heap.size]).getD (k + 1) 0 = w4.heap.size := by
              simp only [List.getD_eq_getElem?_getD]; rw [List.getElem?_append_right (by rw [HCH.out.len]; omega), HCH.out.len]; simp
            have HG1 := Lib.hid hg0'
            have HG2 := Lib.hid hgk'
            clear hg0' hgk'
            go_wp2_with fail
            go_roundw
            case rel =>
              first
                | exact ⟨k + 1, gs ++ [w4.heap.size], by omega, by go_num, by rw [HG2.out], HG1.out, HST.out, by have := HN.out; rw [← EG.out] at this; exact this⟩
                | ((repeat apply Exists.intro); exact ⟨⟨k + 1, gs ++ [w4.heap.size], by omega, by go_num, by rw [HG2.out], HG1.out, HST.out, by have := HN.out; rw [← EG.out] at this; exact this⟩, rfl⟩)
            case measure => simp [intOf]; omega
      · obtain rfl : k = n := by omega
        have hpB := pathB_of (L := L) (by rw [HL.out]; exact hr1) (by rw [HL.out]; exact hr2) (by rw [HL.out]; exact hst)
        obtain ⟨k0, k1, k2, f2⟩ := hch.last.cells
        obtain ⟨k3, k4, k5⟩ := (hch.mid 0 (by omega)).cells
        have hcl : cor (ptsL L) k = tot (ptsL L) := by rw [← hlp]; exact cor_len _
        rw [hg0, cor_zero] at k3 k4
        rw [hg0] at k5
        rw [hcl] at k0 k1
        have HCH := Lib.hid hch
        have HPB := Lib.hid (EPB.out.trans hpB)
        by_cases htot : tot (ptsL L) = (0, 0)
        · have HT := Lib.hid htot
          rw [htot] at k0 k1
          have HPT := Lib.hid (HPB.out.trans (decide_eq_true htot))
          obtain ⟨hs', hR, h0', hB'⟩ := Chn.ring (by rw [hlp]; exact hch) (by rw [hlp]; omega) htot
          rw [hlp] at hR h0' hB'
          rw [← EG.out] at hR h0'
          have HR := Lib.hid (And.intro hR (And.intro h0' hB'))
          clear hpB hch htot hcl hR h0' hB' hst hc
          generalize gs.getD 1 0 = g1 at *
          rw [← EG.out] at k0 k1 k2 f2
          go_wp2_with fail
          go_quiet (fail)
          go_wp2_with fail
          refine bodyPost_ret (results_tmp2 rfl _ _ _) rfl ?_
          rw [HPT.out]
          obtain ⟨hR, h0', hB'⟩ := HR.out
          exact ⟨⟨_, rfl, fun _ => ⟨hs', (congrArg ptrV h0').symm, ⟨hR.len, hR.pos, hR.nodup, fun i hi => hR.cells i hi⟩, hB'⟩⟩, (below_drewN HCH.out.bel nq).setCell (p := ⟨gk, 2, none⟩) (by rw [EG.out]; exact HCH.out.new_ k (Nat.le_refl _)) _⟩
        · have hne : (tot (ptsL L)).1 ≠ 0 ∨ (tot (ptsL L)).2 ≠ 0 := by
            by_cases e : (tot (ptsL L)).1 = 0
            · exact .inr fun e2 => htot (Prod.ext e e2)
            · exact .inl e
          have HPF := Lib.hid (HPB.out.trans (decide_eq_false htot))
          clear hpB hch htot hcl hst hc
          generalize (tot (ptsL L)).1 = tx at *
          generalize (tot (ptsL L)).2 = ty at *
          generalize gs.getD 1 0 = g1 at *
          rw [← EG.out] at k0 k1 k2 f2
          by_cases htx : tx = 0
          · have hty : ty ≠ 0 := by rcases hne with h | h; exact absurd htx h; exact h
            subst htx
            clear hne
            go_wp2_with fail
            go_quiet (fail)
            go_wp2_with fail
            refine bodyPost_ret (results_tmp2 rfl _ _ _) rfl ?_
            rw [HPF.out]
            exact ⟨⟨_, rfl, fun e => by cases e⟩, below_drewN HCH.out.bel _⟩
          · clear hne
            go_wp2_with fail
            go_quiet (fail)
            go_wp2_with fail
            refine bodyPost_ret (results_tmp2 rfl _ _ _) rfl ?_
            rw [HPF.out]
            exact ⟨⟨_, rfl, fun e => by cases e⟩, below_drewN HCH.out.bel _⟩
  · have hpB : pathB L = false := by
      unfold pathB
      rw [hl]
      have : (decide (3 ≤ n) && decide (n ≤ 8)) = false := by
        rw [Bool.and_eq_false_iff, decide_eq_false_iff_not, decide_eq_false_iff_not]; omega
      rw [this]; simp
    obtain rfl : pb = false := EPB.out.trans hpB
    clear hpB h hs hl EPB
    by_cases h3 : n < 3
    · have d1 : decide ((n : Int) < 3) = true := by simp; omega
      go_enter Try.func66, Try.ntmps66
      go_wp2_with fail
      refine bodyPost_ret (results_tmp2 rfl _ _ _) rfl ?_
      exact ⟨⟨_, rfl, fun e => by cases e⟩, Below.refl _ _⟩
    · have d1 : decide ((n : Int) < 3) = false := by simp; omega
      have d2 : decide ((n : Int) > 8) = true := by simp; omega
      go_enter Try.func66, Try.ntmps66
      go_wp2_with fail
      refine bodyPost_ret (results_tmp2 rfl _ _ _) rfl ?_
      exact ⟨⟨_, rfl, fun e => by cases e⟩, Below.refl _ _⟩
end Go.Proofs.Ytpijipcienllpaa
