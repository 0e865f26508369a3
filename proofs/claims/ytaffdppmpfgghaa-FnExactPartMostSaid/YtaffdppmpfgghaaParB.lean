/- The model's best part list: l9Best, PartMost. -/
import Derived.Test.YtaffdppmpfgghaaParL2
import Derived.Test.YtaffdppmpfgghaaPrtM
namespace Go.Proofs.Ytaffdppmpfgghaa
open Go.RowKit Go.Sort Go.Lib

theorem allPL_row {Q : Tri → Bool} {n i : Nat} (h : i < (allPL Q n).length) : ∃ M, PL Q n (rowL (allPL Q n) i) M := by
  have : rowL (allPL Q n) i ∈ allPL Q n := by
    unfold rowL
    rw [List.getD_eq_getElem?_getD, List.getElem?_eq_getElem h, Option.getD_some]
    exact List.getElem_mem _
  exact visP_pl (allPL_mem.1 this)
def bstTo (L : List (List Int)) (k : Nat) : List Int := bstL (rowL L 0) ((L.drop 1).take (k - 1))
theorem bstTo_step {L : List (List Int)} {k : Nat} (h1 : 1 ≤ k) (h : k < L.length) : bstTo L (k + 1) = if thrL (bstTo L k) < thrL (rowL L k) then rowL L k else bstTo L k := by
  have e : (L.drop 1).take k = (L.drop 1).take (k - 1) ++ [rowL L k] := by
    have hd : k - 1 < (L.drop 1).length := by simp; omega
    have := List.take_succ_eq_append_getElem hd
    rw [show k - 1 + 1 = k by omega] at this
    rw [this]
    congr 2
    unfold rowL
    rw [List.getElem_drop, List.getD_eq_getElem?_getD, List.getElem?_eq_getElem h, Option.getD_some]
    congr 1; omega
  unfold bstTo bstL
  rw [Nat.add_sub_cancel, e, List.foldl_append]
  rfl
theorem bstTo_all {L : List (List Int)} (h : 1 ≤ L.length) : bstTo L L.length = bstL (L.headD []) (L.drop 1) := by
  match L, h with
  | x :: t, _ =>
    unfold bstTo
    rw [List.take_of_length_le (by simp)]
    rfl
theorem bstTo_pl {Q : Tri → Bool} {n : Nat} : ∀ k, 1 ≤ k → k ≤ (allPL Q n).length → ∃ M, PL Q n (bstTo (allPL Q n) k) M
  | 0, h, _ => by omega
  | 1, _, h => by
    have e : bstTo (allPL Q n) 1 = rowL (allPL Q n) 0 := by simp [bstTo, bstL]
    rw [e]; exact allPL_row (by omega)
  | k + 2, _, h => by
    rw [bstTo_step (by omega) (by omega)]
    split
    · exact allPL_row (by omega)
    · exact bstTo_pl (k + 1) (by omega) (by omega)

set_option maxRecDepth 100000 in
set_option maxHeartbeats 4000000 in
theorem l9Best_any (A : Option Addr) (n c : Nat) (zs : List Int) (w : World) (h : Rd w A n zs) (hn1 : 1 ≤ n) (hn : n ≤ 9) (hz : ∀ j, j < n → 1 ≤ zs.getD j 0 ∧ zs.getD j 0 ≤ 60) :
    Calls Try.prog 122 #[.slice A n c] w fun e w' => (∃ A' c', e = .returned (.slice A' n c') ∧ Own w' w.heap.size A' n c' (bstP (cloQ zs) n)) ∧ Below w.heap.size w w' := by
  have he : Own (w.alloc (.cells #[] 3)) w.heap.size (some ⟨w.heap.size, 0, none⟩) 0 0 [] := Own.lit w (Nat.le_refl _) [] (by simp)
  have HLL := Lib.hid (l9Lists_any A n c zs hn hz n 0 0 (some ⟨w.heap.size, 0, none⟩) 0 [] (w.alloc (.cells #[] 3)) (by omega) (Nat.le_refl _) (h.al _) he.rd)
  have hpl := fun i (hi : i < (allPL (cloQ zs) n).length) => allPL_row (Q := cloQ zs) (n := n) hi
  have hbp := fun k (h1 : 1 ≤ k) (hk : k ≤ (allPL (cloQ zs) n).length) => bstTo_pl (Q := cloQ zs) (n := n) k h1 hk
  have hne : 1 ≤ (allPL (cloQ zs) n).length := List.length_pos_of_mem (allPL_mem.2 (by simp [visP]) : noP n ∈ allPL (cloQ zs) n)
  have hfin : bstTo (allPL (cloQ zs) n) (allPL (cloQ zs) n).length = bstP (cloQ zs) n := bstTo_all hne
  have hlen : (allPL (cloQ zs) n).length ≤ 3628800 := Nat.le_trans (lis_bd n [] 0) (bdL_few n (by omega) 0 (by omega) (by omega))
  have e0 : lisP (cloQ zs) n [] 0 = allPL (cloQ zs) n := rfl
  rw [e0] at HLL
  have hfin2 := Lib.hid hfin
  clear h hz he e0 hfin
  have HPL := Lib.hid hpl
  have HBP := Lib.hid hbp
  clear hpl hbp
  generalize hL : allPL (cloQ zs) n = L at *
  generalize bstP (cloQ zs) n = bst at *
  have hs0 : (w.alloc (.cells #[] 3)).heap.size = w.heap.size + 1 := by simp
  go_enter Try.func122, Try.ntmps122
  go_wp2_with fail
  refine HLL.out.mono ?_
  rintro e w2 ⟨A2, c2, vs, rfl, ho, hr, hb⟩
  rw [hs0] at ho hr
  have hb2 : Below w.heap.size w w2 := below_then (below_alloc (Below.refl _ _) _) hb
  obtain ⟨g, gc, cur, eA, hgb, hgl, hcell⟩ : ∃ g gc cur, A2 = some ⟨g, 0, none⟩ ∧ w.heap.size < g ∧ g < w2.heap.size ∧ (∀ j, j < L.length → w2.cell? ⟨g, j, none⟩ = vs[j]?) ∧ gc = c2 ∧ cur = 0 := by
    obtain ⟨g, off, e, h1, h2⟩ := (OwnW.src ho).2.1 (by omega)
    rcases ho.1.2 with ⟨e2, e3⟩ | ⟨g2, cap, cur, e2, h3, h4, _⟩
    · omega
    · injection e2 with e4 _ _
      rw [e] at e4
      simp only [Option.some.injEq, Addr.mk.injEq, and_true] at e4
      obtain ⟨rfl, rfl⟩ := e4
      exact ⟨g, c2, 0, e, by omega, h1, fun j hj => by have := h2 j hj; simpa using this, rfl, rfl⟩
  obtain ⟨hcell, _, _⟩ := hcell
  subst eA
  have HC := Lib.hid hcell
  have HRW := Lib.hid (hr.lower (show w.heap.size ≤ w.heap.size + 1 by omega))
  have HB2 := Lib.hid hb2
  obtain ⟨A0, c0, ev0, o0⟩ := HRW.out.2 0 (by omega)
  obtain ⟨M0, hp0⟩ := HPL.out 0 (by omega)
  rw [hp0.len] at ev0 o0
  have y0 : w2.cell? ⟨g, 0, none⟩ = some (.slice A0 n c0) := (hcell 0 (by omega)).trans ev0
  have hb0 : bstTo L 1 = rowL L 0 := by simp [bstTo, bstL]
  have HO0 := Lib.hid (show Own w2 w.heap.size A0 n c0 (bstTo L 1) by rw [hb0]; exact o0)
  have g0 : (0 : Int) < (L.length : Int) := by omega
  clear ho hr hb hb2 hcell ev0 o0 hp0 hb0 hs0
  go_wp2_with fail
  go_loopw [4, 5] (fun v i wr => ∃ (k : Nat) (A1 : Option Addr) (c1 : Nat), 1 ≤ k ∧ k ≤ L.length ∧ i = .int .i64 k ∧ v = .slice A1 n c1 ∧ Own wr w.heap.size A1 n c1 (bstTo L k) ∧ Below w2.heap.size w2 wr) (fun _ i _ => L.length - (intOf i).toNat)
  case atStart => exact ⟨1, A0, c0, Nat.le_refl _, hne, rfl, rfl, HO0.out, Below.refl _ _⟩
  case round =>
    clear y0 HO0
    obtain ⟨k, A1, c1, hk1, hk, rfl, rfl, ho, hb⟩ := hrel
    by_cases hlt : k < L.length
    · obtain ⟨A3, c3, ev, o3⟩ := HRW.out.2 k hlt
      obtain ⟨M3, hp3⟩ := HPL.out k hlt
      obtain ⟨M1, hp1⟩ := HBP.out k hk1 hk
      rw [hp3.len] at ev o3
      have y1 : wr.cell? ⟨g, k, none⟩ = some (.slice A3 n c3) := (hb.cell (p := ⟨g, k, none⟩) hgl).trans ((HC.out k hlt).trans ev)
      have o3' := o3.same hb
      have T3 := Lib.hid (fun W (hW : Below wr.heap.size wr W) => l9Threes_any A3 n c3 (rowL L k) W (o3'.rd.same hW) (by omega) (pl_small hn ⟨_, hp3⟩))
      have T1 := Lib.hid (fun W (hW : Below wr.heap.size wr W) => l9Threes_any A1 n c1 (bstTo L k) W (ho.rd.same hW) (by omega) (pl_small hn ⟨_, hp1⟩))
      have HST := Lib.hid (bstTo_step hk1 hlt)
      obtain ⟨t3, e3⟩ : ∃ t3, t3 = thrL (rowL L k) := ⟨_, rfl⟩
      obtain ⟨t1, e1⟩ : ∃ t1, t1 = thrL (bstTo L k) := ⟨_, rfl⟩
      rw [← e3] at T3 HST
      rw [← e1] at T1 HST
      have HO := Lib.hid (And.intro ho o3')
      have HB := Lib.hid hb
      have q1 : (k : Int) < (L.length : Int) := by omega
      clear ev o3 o3' hp3 hp1 ho e3 e1
      go_wp2_with fail
      refine (T3.out wr (Below.refl _ _)).mono ?_
      rintro e w5 ⟨rfl, b5⟩
      go_wp2_with fail
      refine (T1.out w5 b5).mono ?_
      rintro e w6 ⟨rfl, b6⟩
      have b7 := below_then b5 b6
      have y6 : w6.cell? ⟨g, k, none⟩ = some (.slice A3 n c3) := (b7.cell (p := ⟨g, k, none⟩) (Nat.lt_of_lt_of_le hgl hb.size)).trans y1
      have HB7 := Lib.hid (below_then hb b7)
      have HO7 := Lib.hid (And.intro (HO.out.1.same b7) (HO.out.2.same b7))
      clear b5 b6 b7 y1 hb
      by_cases hgt : t1 < t3
      · have hf := HST.out
        rw [if_pos hgt] at hf
        have HF := Lib.hid hf
        have d1 : decide (t1 < t3) = true := decide_eq_true hgt
        clear hf
        go_wp2_with fail
        go_roundw
        case rel => first | exact ⟨k + 1, A3, c3, by omega, by omega, by go_num, rfl, by rw [HF.out]; exact HO7.out.2, HB7.out⟩ | ((repeat apply Exists.intro); exact ⟨⟨k + 1, A3, c3, by omega, by omega, by go_num, rfl, by rw [HF.out]; exact HO7.out.2, HB7.out⟩, rfl⟩)
        case measure => simp [intOf]; omega
      · have hf := HST.out
        rw [if_neg hgt] at hf
        have HF := Lib.hid hf
        have d1 : decide (t1 < t3) = false := decide_eq_false hgt
        clear hf
        go_wp2_with fail
        go_roundw
        case rel => first | exact ⟨k + 1, A1, c1, by omega, by omega, by go_num, rfl, by rw [HF.out]; exact HO7.out.1, HB7.out⟩ | ((repeat apply Exists.intro); exact ⟨⟨k + 1, A1, c1, by omega, by omega, by go_num, rfl, by rw [HF.out]; exact HO7.out.1, HB7.out⟩, rfl⟩)
        case measure => simp [intOf]; omega
    · obtain rfl : k = L.length := by omega
      rw [hfin2.out] at ho
      have HO := Lib.hid ho
      have HB := Lib.hid (HB2.out.trans (hb.mono HB2.out.size))
      clear ho hb
      go_wp2_with fail
      go_ret
      exact ⟨⟨A1, c1, rfl, HO.out⟩, HB.out⟩
set_option maxHeartbeats 2000000 in
theorem specPartMost_any (A : Option Addr) (n c : Nat) (xs : List Int) (w : World) (h : Rd w A n xs) (hn : n ≤ 1048576) :
    Calls Try.prog 65 #[.slice A n c] w fun e w' => e = .returned (.tuple #[.int .i64 (mostB xs), .bool (bundleB xs)]) ∧ Below w.heap.size w w' := by
  by_cases hb : bundleB xs = true
  · have HM := Lib.hid (mostB_yes hb)
    have HB := Lib.hid hb
    have hbd := bundleB_true hb
    have hn9 : n ≤ 9 := by rw [← h.1]; exact hbd.2.1
    have hn1 : 1 ≤ n := by rw [← h.1]; exact hbd.1
    have hz := hbd.2.2.1
    rw [h.1] at hz HM
    have HR := Lib.hid h
    have HZ := Lib.hid hz
    have HT := Lib.hid (bst_thr (Q := cloQ xs) (n := n))
    have HP := Lib.hid (visP_pl (allPL_mem.1 (bstP_mem (Q := cloQ xs) (n := n)).1))
    clear hb hbd hz h
    go_enter Try.func65, Try.ntmps65
    go_wp2_with fail
    refine (l1Bundle_any _ _ _ xs _ HR.out hn).mono ?_
    rintro e w1 ⟨rfl, b1⟩
    rw [HB.out]
    go_wp2_with fail
    refine (l9Best_any A n c xs w1 (HR.out.same b1) hn1 hn9 HZ.out).mono ?_
    rintro e w2 ⟨⟨A2, c2, rfl, o2⟩, b2⟩
    have HQ := Lib.hid (l9Threes_any A2 n c2 (bstP (cloQ xs) n) w2 o2.rd (by omega) (pl_small hn9 HP.out))
    rw [HT.out, ← HM.out] at HQ
    have HB2 := Lib.hid (below_then b1 b2)
    clear o2 b1 b2
    go_wp2_with fail
    refine HQ.out.mono ?_
    rintro e w3 ⟨rfl, b3⟩
    go_wp2_with fail
    go_ret2
    exact ⟨ret_ib2 HB.out, below_then HB2.out b3⟩
  · rw [Bool.not_eq_true] at hb
    have HM := Lib.hid (mostB_no hb)
    have HB := Lib.hid hb
    clear hb
    go_enter Try.func65, Try.ntmps65
    go_wp2_with fail
    refine (l1Bundle_any _ _ _ xs _ h hn).mono ?_
    rintro e w1 ⟨rfl, b1⟩
    rw [HB.out]
    go_wp2_with fail
    go_ret2
    exact ⟨by rw [HB.out, HM.out]; rfl, b1⟩
end Go.Proofs.Ytaffdppmpfgghaa
