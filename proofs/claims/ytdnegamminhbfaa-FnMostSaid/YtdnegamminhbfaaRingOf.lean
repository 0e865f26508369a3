/- The program's ring of corners of steps, walked. -/
import Derived.Test.YtdnegamminhbfaaVecs
namespace Go.Proofs.Ytdnegamminhbfaa
open Go.RowKit Go.Sort Go.Lib

theorem cnInfo2 : (Try.prog.info? 105).map (fun i => i.size) = some 3 := by kernel_rfl
abbrev cnlO (x y : Int) : Obj := .cells #[.int .i64 x, .int .i64 y, .pointer none] 105

set_option maxRecDepth 100000 in
set_option maxHeartbeats 8000000 in
theorem ring_any (A : Option Addr) (n c : Nat) (l : List Pt) (w : World) (h : RdV w A n l) (h1 : 1 ≤ n) (h8 : n ≤ 1000) (hcap : n ≤ c) (hcm : c ≤ 9223372036854775807) (hbd : ∀ k, k ≤ n → (-1000 ≤ (cor l k).1 ∧ (cor l k).1 ≤ 1000) ∧ (-1000 ≤ (cor l k).2 ∧ (cor l k).2 ≤ 1000)) :
    Calls Try.prog 78 #[.slice A n c] w fun e w' => (∃ gs, e = .returned (ptrV (gs.getD 0 0)) ∧ Ring w' gs (corL l) ∧ ∀ i, i < n → w.heap.size ≤ gs.getD i 0) ∧ Below w.heap.size w w' := by
  have hl := h.1
  obtain ⟨n1, hn1⟩ : ∃ n1, n1 + 1 = n := ⟨n - 1, by omega⟩
  obtain ⟨b, off, rfl, hbl, hc⟩ := h.2 (by omega)
  have HL := Lib.hid hl
  have HB := Lib.hid hbd
  have HN := Lib.hid hn1
  have HC0 : Chn w [w.heap.size] l 0 (w.alloc (cnlO 0 0)) := ⟨rfl, by simp, fun i hi => by obtain rfl : i = 0 := by omega
                                                                                           simp, fun i hi => absurd hi (by omega), by
    rw [cor_zero]; exact World.alloc_heap_new w _, below_alloc (Below.refl _ _) _⟩
  have HZ := Lib.hid HC0
  have v1 : IntKind.i64.wrap ((n : Int) - 1) = n1 := wrap_is (by omega) (by omega) (by omega)
  have i1 : (0 : Int) ≤ n1 := by omega
  have i2 : (n1 : Int) ≤ c := by omega
  have i3 : n1 ≤ c := by omega
  have hnn : n1 < n := by omega
  clear HC0 h hl hbd hn1
  go_enter Try.func78, Try.ntmps78
  go_wp2_with fail
  go_loopw [4, 6, 16] (fun la _ i wr => ∃ (k : Nat) (gs : List Nat), k ≤ n1 ∧ i = .int .i64 k ∧ la = ptrV (gs.getD k 0) ∧ gs.getD 0 0 = w.heap.size ∧ Chn w gs l k wr) (fun _ _ i _ => n1 - (intOf i).toNat)
  case atStart => exact ⟨0, [w.heap.size], Nat.zero_le _, rfl, rfl, rfl, HZ.out⟩
  case round =>
    obtain ⟨k, gs, hk, rfl, rfl, hg0, hch⟩ := hrel
    obtain ⟨gk, egk⟩ : ∃ gk, gk = gs.getD k 0 := ⟨_, rfl⟩
    rw [← egk]
    have EG := Lib.hid egk
    clear egk
    by_cases hlt : k < n1
    · obtain ⟨x1, x2⟩ := hc k (by omega)
      have y1 : wr.cell? ⟨b, off + k * 2, none⟩ = some (.int .i64 (atP l k).1) := (hch.bel.cell (p := ⟨b, off + k * 2, none⟩) hbl).trans x1
      have y2 : wr.cell? ⟨b, off + k * 2 + 1, none⟩ = some (.int .i64 (atP l k).2) := (hch.bel.cell (p := ⟨b, off + k * 2 + 1, none⟩) hbl).trans x2
      have hcs := cor_succ (l := l) (i := k) (by rw [HL.out]; omega)
      have hb1 := HB.out k (by omega)
      have hb2 := HB.out (k + 1) (by omega)
      have HKL := Lib.hid (show k < l.length by rw [HL.out]; omega)
      have hP := fun W => plus_any (cor l k).1 (cor l k).2 (atP l k).1 (atP l k).2 W (by rw [hcs] at hb2; simp only [addP] at hb2; omega) (by rw [hcs] at hb2; simp only [addP] at hb2; omega)
      have hg1 : (cor l k).1 + (atP l k).1 = (cor l (k + 1)).1 := by rw [hcs]; rfl
      have hg2 : (cor l k).2 + (atP l k).2 = (cor l (k + 1)).2 := by rw [hcs]; rfl
      rw [hg1, hg2] at hP
      have HP := Lib.hid hP
      have HCH := Lib.hid hch
      have hV := World.alloc_heap_new wr (vecO (atP l k).1 (atP l k).2)
      obtain ⟨v0, v1, _, _⟩ := pr_cells hV
      have HC3 := Lib.hid (hch.same (below_alloc (Below.refl wr.heap.size wr) (vecO (atP l k).1 (atP l k).2)))
      obtain ⟨k0, k1, k2, f2⟩ := HC3.out.last.cells
      have HS3 := Lib.hid (show wr.heap.size + 1 = (wr.alloc (vecO (atP l k).1 (atP l k).2)).heap.size by simp)
      clear hP hg1 hg2 hcs hb1 hb2 x1 x2 hc hch hV
      generalize (atP l k).1 = qx at *
      generalize (atP l k).2 = qy at *
      generalize (cor l k).1 = cx at *
      generalize (cor l k).2 = cy at *
      rw [← EG.out] at k0 k1 k2 f2
      go_wp2_with fail
      go_region_with (go_at_call 122; refine (HP.out _).mono ?_; rintro e w4 ⟨rfl, b4⟩; have HC4 := Lib.hid (HC3.out.same (((Below.refl _ _).drew).trans b4)); have HC5 := (HC4.out.same (below_alloc (Below.refl _ _) (cnlO (cor l (k + 1)).1 (cor l (k + 1)).2))).last.cells; rw [← EG.out] at HC5; obtain ⟨j0, j1, j2, j3⟩ := HC5; clear b4)
      all_goals
        have HN := Lib.hid (HC4.out.step HKL.out)
        have hg0' : (gs ++ [w4.heap.size]).getD 0 0 = w.heap.size := by
          rw [← hg0]; simp only [List.getD_eq_getElem?_getD]; rw [List.getElem?_append_left (by rw [HCH.out.len]; omega)]
        have hgk' : (gs ++ [w4.heap.size]).getD (k + 1) 0 = w4.heap.size := by
          simp only [List.getD_eq_getElem?_getD]; rw [List.getElem?_append_right (by rw [HCH.out.len]; omega), HCH.out.len]; simp
        have HG1 := Lib.hid hg0'
        have HG2 := Lib.hid hgk'
        clear hg0' hgk'
        go_wp2_with fail
        go_roundw
        case rel =>
          first
            | exact ⟨k + 1, gs ++ [w4.heap.size], by omega, by go_num, by rw [HG2.out], HG1.out, by have := HN.out; rw [← EG.out] at this; exact this⟩
            | ((repeat apply Exists.intro); exact ⟨⟨k + 1, gs ++ [w4.heap.size], by omega, by go_num, by rw [HG2.out], HG1.out, by have := HN.out; rw [← EG.out] at this; exact this⟩, rfl⟩)
        case measure => simp [intOf]; omega
    · obtain rfl : k = n1 := by omega
      obtain ⟨k0, k1, k2, f2⟩ := hch.last.cells
      rw [← EG.out] at k0 k1 k2 f2
      have HCH := Lib.hid hch
      have HR := Lib.hid (hch.ring (by rw [HL.out]; exact HN.out))
      have HG0 := Lib.hid hg0
      clear hch hc
      go_wp2_with fail
      go_ret
      have hR := HR.out
      rw [HG0.out, ← EG.out] at hR
      exact ⟨⟨gs, by rw [HG0.out]; rfl, hR, fun i hi => HCH.out.new_ i (by have := HN.out; omega)⟩, HCH.out.bel.setCell (p := ⟨gk, 2, none⟩) (by rw [EG.out]; exact HCH.out.new_ k (Nat.le_refl _)) _⟩
end Go.Proofs.Ytdnegamminhbfaa
