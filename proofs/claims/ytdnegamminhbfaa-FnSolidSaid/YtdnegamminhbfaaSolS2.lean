/- Contracts of the model's functions of chapter 8: other names of corners. -/
import Derived.Test.YtdnegamminhbfaaSolS
import Derived.Deep.RegionLaw
namespace Go.Proofs.Ytdnegamminhbfaa
open Go.RowKit

def offN : Nat → Nat
  | 0 => 0
  | 1 => 3
  | 2 => 5
  | _ => 6
theorem nl_at (cs xs : List Int) : ∀ i k : Nat, i < k → k < 4 → (nmd (plcC cs) xs).getD (offN i + (k - i - 1)) 0 = xs.getD (edg (cs.getD i 0) (cs.getD k 0)) 0 := by
  intro i k h1 h2
  match i, k, h1, h2 with
  | 0, 1, _, _ | 0, 2, _, _ | 0, 3, _, _ | 1, 2, _, _ | 1, 3, _, _ | 2, 3, _, _ => rfl
  | i + 3, k, h1, h2 => exact absurd h2 (by omega)
theorem off_lt : ∀ i k : Nat, i < k → k < 4 → offN i + (k - i - 1) < 6 := by
  intro i k h1 h2
  match i, k, h1, h2 with
  | 0, 1, _, _ | 0, 2, _, _ | 0, 3, _, _ | 1, 2, _, _ | 1, 3, _, _ | 2, 3, _, _ => decide
  | i + 3, k, h1, h2 => exact absurd h2 (by omega)
theorem off_end : ∀ i : Nat, i < 4 → offN i + (4 - i - 1) = offN (i + 1) := by
  intro i h
  match i, h with
  | 0, _ | 1, _ | 2, _ | 3, _ => rfl
theorem c24_at : ∀ l ∈ C24, (l.length = 4) ∧ ∀ i < 4, (0 ≤ l.getD i 0 ∧ l.getD i 0 ≤ 3) ∧ ∀ k < 4, i < k → l.getD i 0 ≠ l.getD k 0 := by decide +kernel
theorem c24_edg : ∀ l ∈ C24, ∀ i < 4, ∀ k < 4, i < k → edg (l.getD i 0) (l.getD k 0) < 6 := by decide +kernel

set_option maxRecDepth 100000 in
set_option maxHeartbeats 4000000 in
theorem l8Named_any (A : Option Addr) (c : Nat) (xs : List Int) (A1 : Option Addr) (c1 : Nat) (cs : List Int) (w : World) (h : Rd w A 6 xs) (h1 : Rd w A1 4 cs) (hc : cs ∈ C24) :
    Calls Try.prog 113 #[.slice A 6 c, .slice A1 4 c1] w fun e w' => ∃ (A' : Option Addr) (c' : Nat), e = .returned (.slice A' 6 c') ∧ Own w' w.heap.size A' 6 c' (nmd (plcC cs) xs) ∧ Below w.heap.size w w' := by
  obtain ⟨b, off, rfl, hbl, hx⟩ := h.2 (by omega)
  obtain ⟨b1, off1, rfl, hbl1, hx1⟩ := h1.2 (by omega)
  have HX := Lib.hid hx
  have HX1 := Lib.hid hx1
  have HC := Lib.hid hc
  have HNL := Lib.hid (nmd_len (plc_mem cs hc) xs)
  have hl := Own.lit w (Nat.le_refl _) [] (by simp)
  have HN := Lib.hid (nl_at cs xs)
  generalize nmd (plcC cs) xs = N at *
  clear h h1 hc hx hx1
  go_enter Try.func113, Try.ntmps113
  go_wp2_with fail
  go_loopw [5, 6, 7] (fun l i _ wr => ∃ (k n c2 : Nat) (A2 : Option Addr), k ≤ 4 ∧ i = .int .i64 k ∧ l = .slice A2 n c2 ∧ n = offN k ∧ Own wr w.heap.size A2 n c2 (N.take n) ∧ Below w.heap.size w wr) (fun _ i _ _ => 4 - (intOf i).toNat)
  case atStart => exact ⟨0, 0, 0, _, by omega, rfl, rfl, rfl, by simpa using hl, below_alloc (Below.refl _ _) _⟩
  case round =>
    clear hl
    obtain ⟨k, n, c2, A2, hk, rfl, rfl, hn, ho, hb⟩ := hrel
    have HB := Lib.hid hb
    have HO := Lib.hid ho
    clear hb ho
    by_cases hlt : k < 4
    · have HE := Lib.hid (off_end k hlt)
      have d0 : decide ((k : Int) < 4) = true := by rw [decide_eq_true_iff]; omega
      have d0' : decide (k < 4) = true := by rw [decide_eq_true_iff]; omega
      have v0 : IntKind.i64.wrap ((k : Int) + 1) = ((k + 1 : Nat) : Int) := wrap_is (by omega) (by omega) (by omega)
      have HNN := Lib.hid hn
      clear hn
      go_wp2_with fail
      go_loopw [5, 7] (fun l j wq => ∃ (m n c2 : Nat) (A2 : Option Addr), k < m ∧ m ≤ 4 ∧ j = .int .i64 m ∧ l = .slice A2 n c2 ∧ n = offN k + (m - k - 1) ∧ Own wq w.heap.size A2 n c2 (N.take n) ∧ Below w.heap.size w wq) (fun _ j _ => 4 - (intOf j).toNat)
      case atStart => exact ⟨k + 1, n, c2, A2, by omega, by omega, by first | rfl | go_num, rfl, by rw [HNN.out]; omega, HO.out, HB.out⟩
      case round =>
        obtain ⟨m, n2, c3, A3, hkm, hm, rfl, rfl, hn2, ho2, hb2⟩ := hrel
        by_cases hlt2 : m < 4
        · have hn6 := off_lt k m hkm hlt2
          rw [← hn2] at hn6
          have y0 := (hb2.cell (p := ⟨b1, off1 + k, none⟩) hbl1).trans (HX1.out k hlt)
          have y1 := (hb2.cell (p := ⟨b1, off1 + m, none⟩) hbl1).trans (HX1.out m hlt2)
          have hed := c24_edg cs HC.out k hlt m hlt2 hkm
          have y2 := (hb2.cell (p := ⟨b, off + edg (cs.getD k 0) (cs.getD m 0), none⟩) hbl).trans (HX.out _ hed)
          have hcr := (c24_at cs HC.out).2
          have hE := fun W => l8Edge_any (cs.getD k 0) (cs.getD m 0) W (hcr k hlt).1 (hcr m hlt2).1 ((hcr k hlt).2 m hlt2 hkm)
          have HV := Lib.hid (HN.out k m hkm hlt2)
          rw [← hn2] at HV
          generalize xs.getD (edg (cs.getD k 0) (cs.getD m 0)) 0 = x at *
          generalize edg (cs.getD k 0) (cs.getD m 0) = ed at *
          generalize cs.getD k 0 = p at *
          generalize cs.getD m 0 = q at *
          have HT := Lib.hid (show N.take n2 ++ [x] = N.take (n2 + 1) by
            rw [List.take_succ_eq_append_getElem (by rw [HNL.out]; exact hn6)]
            congr 2
            rw [← HV.out, List.getD_eq_getElem?_getD, List.getElem?_eq_getElem (by rw [HNL.out]; exact hn6)]; rfl)
          have HN2 := Lib.hid hn2
          have HB2 := Lib.hid hb2
          have HO2 := Lib.hid ho2
          have hsm : n2 + 1 ≤ 16777216 := by omega
          have d1 : decide ((m : Int) < 4) = true := by rw [decide_eq_true_iff]; omega
          have d1' : decide (m < 4) = true := by rw [decide_eq_true_iff]; omega
          have hsz := Lib.hid hb2.size
          have g1 : (k : Int) < 4 := by omega
          have g2 : (m : Int) < 4 := by omega
          have g3 : (ed : Int) < 6 := by omega
          have g4 : (0 : Int) ≤ (ed : Int) := by omega
          have g5 : (0 : Int) ≤ (k : Int) := by omega
          have g6 : (0 : Int) ≤ (m : Int) := by omega
          clear hcr hn2 hb2 ho2
          go_wp2_with fail
          go_region_law (first | (go_simp; go_at_call 138; with_reducible refine (hE _).mono ?_; rintro e w' ⟨rfl, rfl⟩) | (refine step_app (c2 := 1) rfl (.tmp 19) (.tmp 32) rfl rfl (HO2.out.dr.al _) rfl (rd_oneM _ _ 1) hsm (size_alM _ _ _ 1 hsz.out) ?_; intro A' c' W' ho' hg'))
          all_goals
            have HG := Lib.hid (app_mark (W' := W') (below_alloc (HB2.out.drew) _) (HO2.out.dr.al _) (Nat.le_refl _) hg')
            have HO3 := Lib.hid (show Own W' w.heap.size A' (n2 + 1) c' (N.take (n2 + 1)) by rw [← HT.out]; exact ho')
            clear ho' hg'
            go_wp2_with fail
            go_roundw
            case rel =>
              have hk2 : n2 + 1 = offN k + (m + 1 - k - 1) := by have := HN2.out; omega
              first
                | exact ⟨m + 1, n2 + 1, c', A', by omega, by omega, by go_num, rfl, hk2, HO3.out, HG.out⟩
                | ((repeat apply Exists.intro); exact ⟨⟨m + 1, n2 + 1, c', A', by omega, by omega, by go_num, rfl, hk2, HO3.out, HG.out⟩, rfl⟩)
            case measure => simp [intOf]; omega
        · obtain rfl : m = 4 := by omega
          have HT := Lib.hid (hn2.trans HE.out)
          have d0 : decide ((k : Int) < 4) = true := by rw [decide_eq_true_iff]; omega
          have HB2 := Lib.hid hb2
          have HO2 := Lib.hid ho2
          clear hn2 hb2 ho2
          go_wp2_with fail
          go_roundw
          case rel =>
            first
              | exact ⟨k + 1, n2, c3, A3, by omega, by go_num, rfl, HT.out, HO2.out, HB2.out⟩
              | ((repeat apply Exists.intro); exact ⟨⟨k + 1, n2, c3, A3, by omega, by go_num, rfl, HT.out, HO2.out, HB2.out⟩, rfl⟩)
          case measure => simp [intOf]; omega
    · obtain rfl : k = 4 := by omega
      obtain rfl : n = 6 := hn
      have HT := Lib.hid (show Own wr w.heap.size A2 6 c2 N by have := HO.out; rwa [List.take_of_length_le (by rw [HNL.out]; exact Nat.le_refl _)] at this)
      go_wp2_with fail
      go_ret
      exact ⟨A2, c2, rfl, HT.out, HB.out⟩

end Go.Proofs.Ytdnegamminhbfaa
