/- Joined: ParB, ParF. -/
import Derived.Test.YtiadnbdefcimiaaParL
import Derived.Test.YtiadnbdefcimiaaPrtW
import Derived.Test.YtiadnbdefcimiaaPrtF
import Derived.Test.YtiadnbdefcimiaaPrtR
/- The model's best part list: l9Best, PartMost. -/
namespace Go.Proofs.Ytiadnbdefcimiaa
open Go.RowKit Go.Sort Go.Lib

theorem allPL_row {Q : Tri → Bool} {n i : Nat} (h : i < (allPL Q n).length) : ∃ M, PL Q n (rowL (allPL Q n) i) M := by
  have : rowL (allPL Q n) i ∈ allPL Q n := by
    unfold rowL
    rw [List.getD_eq_getElem?_getD, List.getElem?_eq_getElem h, Option.getD_some]
    exact List.getElem_mem _
  exact visP_pl (allPL_mem.1 this)
def bstTo (L : List (List Int)) (k : Nat) : List Int := bstL (rowL L 0) ((L.drop 1).take (k - 1))
theorem bstTo_step {L : List (List Int)} {k : Nat} (h1 : 1 ≤ k) (h : k < L.length) : bstTo L (k + 1) = if thrL (bstTo L k) < thrL (rowL L k) then rowL L k else bstTo L k := by
  have e : (L.drop 1).take k = (L.drop 1).take (k - 1) ++ [rowL L k] := by
    have hd : k - 1 < (L.drop 1).length := by simp; omega
    have := List.take_succ_eq_append_getElem hd
    rw [show k - 1 + 1 = k by omega] at this
    rw [this]
    congr 2
    unfold rowL
    rw [List.getElem_drop, List.getD_eq_getElem?_getD, List.getElem?_eq_getElem h, Option.getD_some]
    congr 1; omega
  unfold bstTo bstL
  rw [Nat.add_sub_cancel, e, List.foldl_append]
  rfl
theorem bstTo_all {L : List (List Int)} (h : 1 ≤ L.length) : bstTo L L.length = bstL (L.headD []) (L.drop 1) := by
  match L, h with
  | x :: t, _ =>
    unfold bstTo
    rw [List.take_of_length_le (by simp)]
    rfl
theorem bstTo_pl {Q : Tri → Bool} {n : Nat} : ∀ k, 1 ≤ k → k ≤ (allPL Q n).length → ∃ M, PL Q n (bstTo (allPL Q n) k) M
  | 0, h, _ => by omega
  | 1, _, h => by
    have e : bstTo (allPL Q n) 1 = rowL (allPL Q n) 0 := by simp [bstTo, bstL]
    rw [e]; exact allPL_row (by omega)
  | k + 2, _, h => by
    rw [bstTo_step (by omega) (by omega)]
    split
    · exact allPL_row (by omega)
    · exact bstTo_pl (k + 1) (by omega) (by omega)

set_option maxRecDepth 100000 in
set_option maxHeartbeats 4000000 in
theorem l9Best_any (A : Option Addr) (n c : Nat) (zs : List Int) (w : World) (h : Rd w A n zs) (hn1 : 1 ≤ n) (hn : n ≤ 9) (hz : ∀ j, j < n → 1 ≤ zs.getD j 0 ∧ zs.getD j 0 ≤ 60) :
    Calls Try.prog 59 #[.slice A n c] w fun e w' => (∃ A' c', e = .returned (.slice A' n c') ∧ Own w' w.heap.size A' n c' (bstP (cloQ zs) n)) ∧ Below w.heap.size w w' := by
  have he : Own (w.alloc (.cells #[] 3)) w.heap.size (some ⟨w.heap.size, 0, none⟩) 0 0 [] := Own.lit w (Nat.le_refl _) [] (by simp)
  have HLL := Lib.hid (l9Lists_any A n c zs hn hz n 0 0 (some ⟨w.heap.size, 0, none⟩) 0 [] (w.alloc (.cells #[] 3)) (by omega) (Nat.le_refl _) (h.al _) he.rd)
  have hpl := fun i (hi : i < (allPL (cloQ zs) n).length) => allPL_row (Q := cloQ zs) (n := n) hi
  have hbp := fun k (h1 : 1 ≤ k) (hk : k ≤ (allPL (cloQ zs) n).length) => bstTo_pl (Q := cloQ zs) (n := n) k h1 hk
  have hne : 1 ≤ (allPL (cloQ zs) n).length := List.length_pos_of_mem (allPL_mem.2 (by simp [visP]) : noP n ∈ allPL (cloQ zs) n)
  have hfin : bstTo (allPL (cloQ zs) n) (allPL (cloQ zs) n).length = bstP (cloQ zs) n := bstTo_all hne
  have hlen : (allPL (cloQ zs) n).length ≤ 3628800 := Nat.le_trans (lis_bd n [] 0) (bdL_few n (by omega) 0 (by omega) (by omega))
  have e0 : lisP (cloQ zs) n [] 0 = allPL (cloQ zs) n := rfl
  rw [e0] at HLL
  have hfin2 := Lib.hid hfin
  clear h hz he e0 hfin
  have HPL := Lib.hid hpl
  have HBP := Lib.hid hbp
  clear hpl hbp
  generalize hL : allPL (cloQ zs) n = L at *
  generalize bstP (cloQ zs) n = bst at *
  have hs0 : (w.alloc (.cells #[] 3)).heap.size = w.heap.size + 1 := by simp
  go_enter Try.func59, Try.ntmps59
  go_wp2_with fail
  refine HLL.out.mono ?_
  rintro e w2 ⟨A2, c2, vs, rfl, ho, hr, hb⟩
  rw [hs0] at ho hr
  have hb2 : Below w.heap.size w w2 := below_then (below_alloc (Below.refl _ _) _) hb
  obtain ⟨g, gc, cur, eA, hgb, hgl, hcell⟩ : ∃ g gc cur, A2 = some ⟨g, 0, none⟩ ∧ w.heap.size < g ∧ g < w2.heap.size ∧ (∀ j, j < L.length → w2.cell? ⟨g, j, none⟩ = vs[j]?) ∧ gc = c2 ∧ cur = 0 := by
    obtain ⟨g, off, e, h1, h2⟩ := (OwnW.src ho).2.1 (by omega)
    rcases ho.1.2 with ⟨e2, e3⟩ | ⟨g2, cap, cur, e2, h3, h4, _⟩
    · omega
    · injection e2 with e4 _ _
      rw [e] at e4
      simp only [Option.some.injEq, Addr.mk.injEq, and_true] at e4
      obtain ⟨rfl, rfl⟩ := e4
      exact ⟨g, c2, 0, e, by omega, h1, fun j hj => by have := h2 j hj; simpa using this, rfl, rfl⟩
  obtain ⟨hcell, _, _⟩ := hcell
  subst eA
  have HC := Lib.hid hcell
  have HRW := Lib.hid (hr.lower (show w.heap.size ≤ w.heap.size + 1 by omega))
  have HB2 := Lib.hid hb2
  obtain ⟨A0, c0, ev0, o0⟩ := HRW.out.2 0 (by omega)
  obtain ⟨M0, hp0⟩ := HPL.out 0 (by omega)
  rw [hp0.len] at ev0 o0
  have y0 : w2.cell? ⟨g, 0, none⟩ = some (.slice A0 n c0) := (hcell 0 (by omega)).trans ev0
  have hb0 : bstTo L 1 = rowL L 0 := by simp [bstTo, bstL]
  have HO0 := Lib.hid (show Own w2 w.heap.size A0 n c0 (bstTo L 1) by rw [hb0]; exact o0)
  have g0 : (0 : Int) < (L.length : Int) := by omega
  clear ho hr hb hb2 hcell ev0 o0 hp0 hb0 hs0
  go_wp2_with fail
  go_loopw [4, 5] (fun v i wr => ∃ (k : Nat) (A1 : Option Addr) (c1 : Nat), 1 ≤ k ∧ k ≤ L.length ∧ i = .int .i64 k ∧ v = .slice A1 n c1 ∧ Own wr w.heap.size A1 n c1 (bstTo L k) ∧ Below w2.heap.size w2 wr) (fun _ i _ => L.length - (intOf i).toNat)
  case atStart => exact ⟨1, A0, c0, Nat.le_refl _, hne, rfl, rfl, HO0.out, Below.refl _ _⟩
  case round =>
    clear y0 HO0
    obtain ⟨k, A1, c1, hk1, hk, rfl, rfl, ho, hb⟩ := hrel
    by_cases hlt : k < L.length
    · obtain ⟨A3, c3, ev, o3⟩ := HRW.out.2 k hlt
      obtain ⟨M3, hp3⟩ := HPL.out k hlt
      obtain ⟨M1, hp1⟩ := HBP.out k hk1 hk
      rw [hp3.len] at ev o3
      have y1 : wr.cell? ⟨g, k, none⟩ = some (.slice A3 n c3) := (hb.cell (p := ⟨g, k, none⟩) hgl).trans ((HC.out k hlt).trans ev)
      have o3' := o3.same hb
      have T3 := Lib.hid (fun W (hW : Below wr.heap.size wr W) => l9Threes_any A3 n c3 (rowL L k) W (o3'.rd.same hW) (by omega) (pl_small hn ⟨_, hp3⟩))
      have T1 := Lib.hid (fun W (hW : Below wr.heap.size wr W) => l9Threes_any A1 n c1 (bstTo L k) W (ho.rd.same hW) (by omega) (pl_small hn ⟨_, hp1⟩))
      have HST := Lib.hid (bstTo_step hk1 hlt)
      obtain ⟨t3, e3⟩ : ∃ t3, t3 = thrL (rowL L k) := ⟨_, rfl⟩
      obtain ⟨t1, e1⟩ : ∃ t1, t1 = thrL (bstTo L k) := ⟨_, rfl⟩
      rw [← e3] at T3 HST
      rw [← e1] at T1 HST
      have HO := Lib.hid (And.intro ho o3')
      have HB := Lib.hid hb
      have q1 : (k : Int) < (L.length : Int) := by omega
      clear ev o3 o3' hp3 hp1 ho e3 e1
      go_wp2_with fail
      refine (T3.out wr (Below.refl _ _)).mono ?_
      rintro e w5 ⟨rfl, b5⟩
      go_wp2_with fail
      refine (T1.out w5 b5).mono ?_
      rintro e w6 ⟨rfl, b6⟩
      have b7 := below_then b5 b6
      have y6 : w6.cell? ⟨g, k, none⟩ = some (.slice A3 n c3) := (b7.cell (p := ⟨g, k, none⟩) (Nat.lt_of_lt_of_le hgl hb.size)).trans y1
      have HB7 := Lib.hid (below_then hb b7)
      have HO7 := Lib.hid (And.intro (HO.out.1.same b7) (HO.out.2.same b7))
      clear b5 b6 b7 y1 hb
      by_cases hgt : t1 < t3
      · have hf := HST.out
        rw [if_pos hgt] at hf
        have HF := Lib.hid hf
        have d1 : decide (t1 < t3) = true := decide_eq_true hgt
        clear hf
        go_wp2_with fail
        go_roundw
        case rel => first | exact ⟨k + 1, A3, c3, by omega, by omega, by go_num, rfl, by rw [HF.out]; exact HO7.out.2, HB7.out⟩ | ((repeat apply Exists.intro); exact ⟨⟨k + 1, A3, c3, by omega, by omega, by go_num, rfl, by rw [HF.out]; exact HO7.out.2, HB7.out⟩, rfl⟩)
        case measure => simp [intOf]; omega
      · have hf := HST.out
        rw [if_neg hgt] at hf
        have HF := Lib.hid hf
        have d1 : decide (t1 < t3) = false := decide_eq_false hgt
        clear hf
        go_wp2_with fail
        go_roundw
        case rel => first | exact ⟨k + 1, A1, c1, by omega, by omega, by go_num, rfl, by rw [HF.out]; exact HO7.out.1, HB7.out⟩ | ((repeat apply Exists.intro); exact ⟨⟨k + 1, A1, c1, by omega, by omega, by go_num, rfl, by rw [HF.out]; exact HO7.out.1, HB7.out⟩, rfl⟩)
        case measure => simp [intOf]; omega
    · obtain rfl : k = L.length := by omega
      rw [hfin2.out] at ho
      have HO := Lib.hid ho
      have HB := Lib.hid (HB2.out.trans (hb.mono HB2.out.size))
      clear ho hb
      go_wp2_with fail
      go_ret
      exact ⟨⟨A1, c1, rfl, HO.out⟩, HB.out⟩
set_option maxHeartbeats 2000000 in
theorem specPartMost_any (A : Option Addr) (n c : Nat) (xs : List Int) (w : World) (h : Rd w A n xs) (hn : n ≤ 1048576) :
    Calls Try.prog 26 #[.slice A n c] w fun e w' => e = .returned (.tuple #[.int .i64 (mostB xs), .bool (bundleB xs)]) ∧ Below w.heap.size w w' := by
  by_cases hb : bundleB xs = true
  · have HM := Lib.hid (mostB_yes hb)
    have HB := Lib.hid hb
    have hbd := bundleB_true hb
    have hn9 : n ≤ 9 := by rw [← h.1]; exact hbd.2.1
    have hn1 : 1 ≤ n := by rw [← h.1]; exact hbd.1
    have hz := hbd.2.2.1
    rw [h.1] at hz HM
    have HR := Lib.hid h
    have HZ := Lib.hid hz
    have HT := Lib.hid (bst_thr (Q := cloQ xs) (n := n))
    have HP := Lib.hid (visP_pl (allPL_mem.1 (bstP_mem (Q := cloQ xs) (n := n)).1))
    clear hb hbd hz h
    go_enter Try.func26, Try.ntmps26
    go_wp2_with fail
    refine (l1Bundle_any _ _ _ xs _ HR.out hn).mono ?_
    rintro e w1 ⟨rfl, b1⟩
    rw [HB.out]
    go_wp2_with fail
    refine (l9Best_any A n c xs w1 (HR.out.same b1) hn1 hn9 HZ.out).mono ?_
    rintro e w2 ⟨⟨A2, c2, rfl, o2⟩, b2⟩
    have HQ := Lib.hid (l9Threes_any A2 n c2 (bstP (cloQ xs) n) w2 o2.rd (by omega) (pl_small hn9 HP.out))
    rw [HT.out, ← HM.out] at HQ
    have HB2 := Lib.hid (below_then b1 b2)
    clear o2 b1 b2
    go_wp2_with fail
    refine HQ.out.mono ?_
    rintro e w3 ⟨rfl, b3⟩
    go_wp2_with fail
    go_ret2
    exact ⟨ret_ib2 HB.out, below_then HB2.out b3⟩
  · rw [Bool.not_eq_true] at hb
    have HM := Lib.hid (mostB_no hb)
    have HB := Lib.hid hb
    clear hb
    go_enter Try.func26, Try.ntmps26
    go_wp2_with fail
    refine (l1Bundle_any _ _ _ xs _ h hn).mono ?_
    rintro e w1 ⟨rfl, b1⟩
    rw [HB.out]
    go_wp2_with fail
    go_ret2
    exact ⟨by rw [HB.out, HM.out]; rfl, b1⟩
end Go.Proofs.Ytiadnbdefcimiaa

/- The model's first part list with most threes and its greatest sum: PartFirst, PartRound. -/
namespace Go.Proofs.Ytiadnbdefcimiaa
open Go.RowKit Go.Sort Go.Lib

set_option maxHeartbeats 2000000 in
theorem specPartFirst_any (A : Option Addr) (n c : Nat) (xs : List Int) (w : World) (h : Rd w A n xs) (hn : n ≤ 1048576) :
    Calls Try.prog 31 #[.slice A n c] w fun e w' => ∃ (A' : Option Addr) (n' c' : Nat), e = .returned (.tuple #[.slice A' n' c', .bool (bundleB xs)]) ∧ Own w' w.heap.size A' n' c' (fstM9 xs) ∧ n' ≤ 1048576 ∧ Below w.heap.size w w' := by
  by_cases hb : bundleB xs = true
  · have hbd := bundleB_true hb
    have hn9 : n ≤ 9 := by rw [← h.1]; exact hbd.2.1
    have hn1 : 1 ≤ n := by rw [← h.1]; exact hbd.1
    have hM := fstM9_yes hb
    rw [h.1, fst_bst hn1] at hM
    have HM := Lib.hid hM
    have HB := Lib.hid hb
    have hz := hbd.2.2.1
    rw [h.1] at hz
    have HR := Lib.hid h
    have HZ := Lib.hid hz
    have HLN := Lib.hid (show (bstP (cloQ xs) n).length = n from by
      obtain ⟨M, hp⟩ := visP_pl (allPL_mem.1 (bstP_mem (Q := cloQ xs) (n := n)).1)
      exact hp.len)
    clear hb hbd hz h hM
    go_enter Try.func31, Try.ntmps31
    go_wp2_with fail
    refine (l1Bundle_any _ _ _ xs _ HR.out hn).mono ?_
    rintro e w1 ⟨rfl, b1⟩
    rw [HB.out]
    have hl : Own (w1.alloc (.cells #[] 3)) w.heap.size (some ⟨w1.heap.size, 0, none⟩) 0 0 [] := Own.lit w1 b1.size [] (by simp)
    have hb2 := below_alloc b1 (.cells #[] 3)
    have HBB := Lib.hid (l9Best_any A n c xs (w1.alloc (.cells #[] 3)) (HR.out.same hb2) hn1 hn9 HZ.out)
    have HL := Lib.hid hl
    have HB2 := Lib.hid hb2
    clear hl hb2 b1
    generalize bstP (cloQ xs) n = L at *
    go_wp2_with fail
    refine HBB.out.mono ?_
    rintro e w2 ⟨⟨A2, c2, rfl, o2⟩, b2⟩
    have hl2 := HL.out.same b2
    have hr2 := o2.rd
    have hb3 := below_then HB2.out b2
    have HB3 := Lib.hid hb3
    have hs3 := hb3.size
    clear o2 b2 hb3
    go_wp2_with (at_builtin; refine wpList_app rfl (.tmp 8) (.tmp 10) rfl rfl hl2 rfl hr2 (by omega) (by first | omega | simp | (simp; omega)) ?_; intro A' c' W' ho' hg')
    have hb' := app_mark HB3.out hl2 (Nat.le_refl _) hg'
    simp only [Nat.zero_add, List.nil_append] at ho'
    have HO := Lib.hid ho'
    have HBB2 := Lib.hid hb'
    clear ho' hb' hg' hl2 hr2
    refine bodyPost_ret (results_tmp2 rfl _ _ _) rfl ?_
    exact ⟨A', n, c', by rw [HB.out]; rfl, by rw [HM.out]; exact HO.out, by omega, HBB2.out⟩
  · rw [Bool.not_eq_true] at hb
    have HM := Lib.hid (fstM9_no hb)
    have HB := Lib.hid hb
    clear hb
    go_enter Try.func31, Try.ntmps31
    go_wp2_with fail
    refine (l1Bundle_any _ _ _ xs _ h hn).mono ?_
    rintro e w1 ⟨rfl, b1⟩
    rw [HB.out]
    have hl : Own (w1.alloc (.cells #[] 3)) w.heap.size (some ⟨w1.heap.size, 0, none⟩) 0 0 [] := Own.lit w1 b1.size [] (by simp)
    have HL := Lib.hid hl
    have HB2 := Lib.hid (below_alloc b1 (.cells #[] 3))
    clear hl b1
    go_wp2_with fail
    refine bodyPost_ret (results_tmp2 rfl _ _ _) rfl ?_
    exact ⟨_, 0, 0, by rw [HB.out]; rfl, by rw [HM.out]; exact HL.out, by omega, HB2.out⟩

def rndTo (f : Nat → Int) (L : List (List Int)) (k : Nat) : Int := mxR (inL f) (L.take k) 0
theorem rndTo_step {f : Nat → Int} {L : List (List Int)} {k : Nat} (h : k < L.length) : rndTo f L (k + 1) = max (rndTo f L k) (inL f (rowL L k)) := by
  have := List.take_succ_eq_append_getElem h
  unfold rndTo
  rw [this]
  unfold mxR
  rw [List.foldl_append]
  unfold rowL
  rw [List.getD_eq_getElem?_getD, List.getElem?_eq_getElem h]
  rfl
theorem inL_bd {zs l : List Int} {n : Nat} (hl : l.length = n) (hz : ∀ j, j < n → 1 ≤ zs.getD j 0 ∧ zs.getD j 0 ≤ 60) : ∀ k, k ≤ n → 0 ≤ sI k (fun p => if 0 ≤ l.getD p 0 then zs.getD p 0 else 0) ∧ sI k (fun p => if 0 ≤ l.getD p 0 then zs.getD p 0 else 0) ≤ 60 * (k : Int)
  | 0, _ => by simp [sI]
  | k + 1, hk => by
    have ih := inL_bd hl hz k (by omega)
    have := hz k (by omega)
    rw [sI]
    push_cast
    split <;> omega
set_option maxRecDepth 100000 in
set_option maxHeartbeats 8000000 in
theorem specPartRound_any (A : Option Addr) (n c : Nat) (xs : List Int) (w : World) (h : Rd w A n xs) (hn : n ≤ 1048576) :
    Calls Try.prog 37 #[.slice A n c] w fun e w' => e = .returned (.tuple #[.int .i64 (rndB xs), .bool (bundleB xs)]) ∧ Below w.heap.size w w' := by
  by_cases hb : bundleB xs = true
  · have HB := Lib.hid hb
    have hbd := bundleB_true hb
    have hn9 : n ≤ 9 := by rw [← h.1]; exact hbd.2.1
    have hn1 : 1 ≤ n := by rw [← h.1]; exact hbd.1
    have hz := hbd.2.2.1
    have hM := rndB_yes hb
    rw [h.1] at hz hM
    rw [rnd_all] at hM
    have HM := Lib.hid hM
    have HZ := Lib.hid hz
    have HR := Lib.hid h
    have hpl := Lib.hid (fun i (hi : i < (allPL (cloQ xs) n).length) => allPL_row (Q := cloQ xs) (n := n) hi)
    have hlen : (allPL (cloQ xs) n).length ≤ 3628800 := Nat.le_trans (lis_bd n [] 0) (bdL_few n (by omega) 0 (by omega) (by omega))
    have hne : 1 ≤ (allPL (cloQ xs) n).length := List.length_pos_of_mem (allPL_mem.2 (by simp [visP]) : noP n ∈ allPL (cloQ xs) n)
    have HLL := Lib.hid (fun (W : World) (h1 : Rd W A n xs) (A0 : Option Addr) (c0 : Nat) (h0 : Rd W A0 0 []) => l9Lists_any A n c xs hn9 hz n 0 0 A0 c0 [] W (by omega) (Nat.le_refl _) h1 h0)
    have e0 : lisP (cloQ xs) n [] 0 = allPL (cloQ xs) n := rfl
    rw [e0] at HLL
    clear hb hbd hz h e0 hM
    generalize hL : allPL (cloQ xs) n = L at *
    go_enter Try.func37, Try.ntmps37
    go_wp2_with fail
    refine (l1Bundle_any _ _ _ xs _ HR.out hn).mono ?_
    rintro e w1 ⟨rfl, b1⟩
    rw [HB.out]
    have he : Own (w1.alloc (.cells #[] 3)) w1.heap.size (some ⟨w1.heap.size, 0, none⟩) 0 0 [] := Own.lit w1 (Nat.le_refl _) [] (by simp)
    have hb2 := below_alloc b1 (.cells #[] 3)
    have HL1 := Lib.hid (HLL.out _ (HR.out.same hb2) _ 0 he.rd)
    have HB2 := Lib.hid hb2
    clear he hb2 b1
    go_wp2_with fail
    refine HL1.out.mono ?_
    rintro e w2 ⟨A2, c2, vs, rfl, ho, hr, hb⟩
    have hb2 : Below w.heap.size w w2 := below_then HB2.out hb
    obtain ⟨g, eA, hgl, hcell⟩ : ∃ g, A2 = some ⟨g, 0, none⟩ ∧ g < w2.heap.size ∧ ∀ j, j < L.length → w2.cell? ⟨g, j, none⟩ = vs[j]? := by
      obtain ⟨g, off, e, h1, h2⟩ := (OwnW.src ho).2.1 (by omega)
      rcases ho.1.2 with ⟨e2, e3⟩ | ⟨g2, cap, cur, e2, h3, h4, _⟩
      · omega
      · injection e2 with e4 _ _
        rw [e] at e4
        simp only [Option.some.injEq, Addr.mk.injEq, and_true] at e4
        obtain ⟨rfl, rfl⟩ := e4
        exact ⟨g, e, h1, fun j hj => by have := h2 j hj; simpa using this⟩
    subst eA
    have HC := Lib.hid hcell
    have HRW := Lib.hid hr
    have HB3 := Lib.hid hb2
    clear ho hr hb hb2 hcell
    go_wp2_with fail
    go_loopw [5, 6, 7, 8] (fun v i _ _ wr => ∃ k : Nat, k ≤ L.length ∧ i = .int .i64 k ∧ v = .int .i64 (rndTo (fun p => xs.getD p 0) L k) ∧ 0 ≤ rndTo (fun p => xs.getD p 0) L k ∧ Below w2.heap.size w2 wr) (fun _ i _ _ _ => L.length - (intOf i).toNat)
    case atStart => exact ⟨0, Nat.zero_le _, rfl, rfl, Int.le_refl _, Below.refl _ _⟩
    case round =>
      obtain ⟨k, hk, rfl, rfl, h0, hb⟩ := hrel
      by_cases hlt : k < L.length
      · obtain ⟨A3, c3, ev, o3⟩ := HRW.out.2 k hlt
        obtain ⟨M3, hp3⟩ := hpl.out k hlt
        rw [hp3.len] at ev o3
        have HLR := Lib.hid hp3.len
        have y1 : wr.cell? ⟨g, k, none⟩ = some (.slice A3 n c3) := (hb.cell (p := ⟨g, k, none⟩) hgl).trans ((HC.out k hlt).trans ev)
        have HO3 := Lib.hid (o3.same hb).rd
        have HST := Lib.hid (rndTo_step (f := fun p => xs.getD p 0) hlt)
        obtain ⟨t0, et0⟩ : ∃ t0, t0 = rndTo (fun p => xs.getD p 0) L k := ⟨_, rfl⟩
        rw [← et0] at h0 HST ⊢
        have HB4 := Lib.hid hb
        have HSZ := Lib.hid (Nat.lt_of_lt_of_le hgl hb.size)
        have q1 : (k : Int) < (L.length : Int) := by omega
        have HIN := Lib.hid (show inL (fun p => xs.getD p 0) (rowL L k) = sI n (fun p => if 0 ≤ (rowL L k).getD p 0 then xs.getD p 0 else 0) by unfold inL; rw [HLR.out])
        have HBD := Lib.hid (inL_bd (zs := xs) HLR.out HZ.out)
        clear ev o3 hp3 et0
        generalize rowL L k = l at *
        go_wp2_with fail
        obtain ⟨w4, rfl⟩ : ∃ w4 : World, w4 = wr := ⟨_, rfl⟩
        clear hb
        go_loopw [7, 8] (fun s j wr => ∃ p : Nat, p ≤ n ∧ j = .int .i64 p ∧ s = .int .i64 (sI p (fun p => if 0 ≤ l.getD p 0 then xs.getD p 0 else 0)) ∧ wr = w4) (fun _ j _ => n - (intOf j).toNat)
        case atStart => exact ⟨0, Nat.zero_le _, rfl, rfl, rfl⟩
        case round =>
          obtain ⟨p, hp, rfl, rfl, rfl⟩ := hrel
          have hbd := HBD.out p hp
          by_cases hltp : p < n
          · obtain ⟨b, off, rfl, _, hc⟩ := (HR.out.same (below_then HB3.out HB4.out)).2 (by omega)
            obtain ⟨b3, off3, rfl, _, hc3⟩ := HO3.out.2 (by omega)
            have x1 := hc p hltp
            have x3 := hc3 p hltp
            have hzp := HZ.out p hltp
            have HSS := Lib.hid (show sI (p + 1) (fun p => if 0 ≤ l.getD p 0 then xs.getD p 0 else 0) = sI p (fun p => if 0 ≤ l.getD p 0 then xs.getD p 0 else 0) + if 0 ≤ l.getD p 0 then xs.getD p 0 else 0 from rfl)
            obtain ⟨S, eS⟩ : ∃ S, S = sI p (fun p => if 0 ≤ l.getD p 0 then xs.getD p 0 else 0) := ⟨_, rfl⟩
            rw [← eS] at hbd HSS ⊢
            obtain ⟨x, ex⟩ : ∃ x, x = xs.getD p 0 := ⟨_, rfl⟩
            obtain ⟨y, ey⟩ : ∃ y, y = l.getD p 0 := ⟨_, rfl⟩
            rw [← ex] at x1 hzp HSS
            rw [← ey] at x3 HSS
            have v1 : IntKind.i64.wrap (S + x) = S + x := wrap_is rfl (by omega) (by omega)
            have gk : (k : Int) < (L.length : Int) := q1
            clear hc hc3 eS ex ey
            by_cases hy : 0 ≤ y
            · have d1 : decide (0 ≤ y) = true := decide_eq_true hy
              have HF := Lib.hid (HSS.out.trans (by rw [if_pos hy]))
              go_wp2_with fail
              go_roundw
              case rel => first | exact ⟨p + 1, by omega, by go_num, by rw [HF.out], by first | rfl | trivial⟩ | ((repeat apply Exists.intro); exact ⟨⟨p + 1, by omega, by go_num, by rw [HF.out], by first | rfl | trivial⟩, rfl⟩)
              case measure => simp [intOf]; omega
            · have d1 : decide (0 ≤ y) = false := decide_eq_false hy
              have HF := Lib.hid (HSS.out.trans (by rw [if_neg hy, Int.add_zero]))
              go_wp2_with fail
              go_roundw
              case rel => first | exact ⟨p + 1, by omega, by go_num, by rw [HF.out], by first | rfl | trivial⟩ | ((repeat apply Exists.intro); exact ⟨⟨p + 1, by omega, by go_num, by rw [HF.out], by first | rfl | trivial⟩, rfl⟩)
              case measure => simp [intOf]; omega
          · obtain rfl : p = n := by omega
            rw [← HIN.out] at hbd ⊢
            obtain ⟨S, eS⟩ : ∃ S, S = inL (fun p => xs.getD p 0) l := ⟨_, rfl⟩
            rw [← eS] at hbd HST ⊢
            obtain ⟨M, eM⟩ : ∃ M, M = max t0 S := ⟨_, rfl⟩
            have hmx : (if t0 < S then S else t0) = M := by rw [eM]; split <;> omega
            have hM0 : 0 ≤ M := by omega
            rw [← eM] at HST
            clear eM eS
            go_wp2_with fail
            go_roundw
            case rel => first | exact ⟨k + 1, by omega, by go_num, by rw [HST.out], by rw [HST.out]; exact hM0, HB4.out⟩ | ((repeat apply Exists.intro); exact ⟨⟨k + 1, by omega, by go_num, by rw [HST.out], by rw [HST.out]; exact hM0, HB4.out⟩, rfl⟩)
            case measure => simp [intOf]; omega
      · obtain rfl : k = L.length := by omega
        have HF := Lib.hid (show rndTo (fun p => xs.getD p 0) L L.length = rndB xs by rw [HM.out]; unfold rndTo; rw [List.take_length])
        have HBB := Lib.hid (below_then HB3.out hb)
        rw [HF.out] at h0 ⊢
        clear h0 hb
        go_wp2_with fail
        go_ret2
        exact ⟨ret_ib2 HB.out, HBB.out⟩
  · rw [Bool.not_eq_true] at hb
    have HM := Lib.hid (rndB_no hb)
    have HB := Lib.hid hb
    clear hb
    go_enter Try.func37, Try.ntmps37
    go_wp2_with fail
    refine (l1Bundle_any _ _ _ xs _ h hn).mono ?_
    rintro e w1 ⟨rfl, b1⟩
    rw [HB.out]
    go_wp2_with fail
    go_ret2
    exact ⟨by rw [HB.out, HM.out]; rfl, b1⟩
end Go.Proofs.Ytiadnbdefcimiaa
