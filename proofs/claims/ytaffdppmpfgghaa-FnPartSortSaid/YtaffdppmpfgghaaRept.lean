/- math/bits.Mul of small numbers, slices.Repeat of one number. -/
import Derived.Test.YtaffdppmpfgghaaVis
namespace Go.Proofs.Ytaffdppmpfgghaa
open Go.RowKit Go.Sort Go.Lib

theorem nine_of {n : Nat} (h1 : 1 ≤ n) (h9 : n ≤ 9) : n = 1 ∨ n = 2 ∨ n = 3 ∨ n = 4 ∨ n = 5 ∨ n = 6 ∨ n = 7 ∨ n = 8 ∨ n = 9 := by omega
theorem mul64_any (n : Nat) (h1 : 1 ≤ n) (h9 : n ≤ 9) (w : World) : Calls Try.prog 169 #[.int .u64 1, .int .u64 n] w fun e w' => e = .returned (.tuple #[.int .u64 0, .int .u64 n]) ∧ w = w' := by
  have a1 : bits .and .u64 1 4294967295 = 1 := by decide
  have a2 : bits .and .u64 (n : Int) 4294967295 = n := by rcases nine_of h1 h9 with rfl | rfl | rfl | rfl | rfl | rfl | rfl | rfl | rfl <;> decide
  have a3 : bits .and .u64 0 4294967295 = 0 := by decide
  have s2 : (n : Int) / 4294967296 = 0 := by omega
  have w1 : IntKind.u64.wrap (n : Int) = n := by rw [IntKind.wrap_u64]; omega
  go_enter Try.func169, Try.ntmps169
  go_wp2
  go_ret2
  exact ⟨rfl, rfl⟩
theorem mul_any (n : Nat) (h1 : 1 ≤ n) (h9 : n ≤ 9) (w : World) : Calls Try.prog 154 #[.int .u64 1, .int .u64 n] w fun e w' => e = .returned (.tuple #[.int .u64 0, .int .u64 n]) ∧ w = w' := by
  have HM := Lib.hid (mul64_any n h1 h9)
  have w1 : IntKind.u64.wrap (n : Int) = n := by rw [IntKind.wrap_u64]; omega
  go_enter Try.func154, Try.ntmps154
  go_wp2_with fail
  refine (HM.out _).mono ?_
  rintro e w' ⟨rfl, rfl⟩
  go_wp2_with fail
  go_ret2
  exact ⟨rfl, rfl⟩

/-- The first numbers of a row are -1. -/
def NegTo (R : List Int) (k : Nat) : Prop := ∀ j, j < k → R.getD j 0 = -1
theorem neg_all {R : List Int} {n : Nat} (hl : R.length = n) (h : NegTo R n) : R = noP n := by
  refine ext_getD (by simp [noP, hl]) fun j hj => ?_
  rw [h j (by omega), noP_get (by omega)]
theorem splR_get {R l : List Int} {o j : Nat} (h : o + l.length ≤ R.length) : (splR R o l).getD j 0 = if j < o then R.getD j 0 else if j < o + l.length then l.getD (j - o) 0 else R.getD j 0 := by
  unfold splR
  have e : (R.take o).length = o := by simp; omega
  by_cases h1 : j < o
  · rw [if_pos h1, List.getD_eq_getElem?_getD, List.getElem?_append_left (by omega), List.getElem?_take_of_lt h1, ← List.getD_eq_getElem?_getD]
  · rw [if_neg h1, List.getD_eq_getElem?_getD, List.getElem?_append_right (by omega), e]
    by_cases h2 : j < o + l.length
    · rw [if_pos h2, List.getElem?_append_left (by omega), ← List.getD_eq_getElem?_getD]
    · rw [if_neg h2, List.getElem?_append_right (by omega), List.getElem?_drop, show o + l.length + (j - o - l.length) = j by omega, ← List.getD_eq_getElem?_getD]
/-- copy into a row of the call's own, from wherever. -/
theorem copy_part {W : World} {B gr tot b off q o dL dC sL sC : Nat} {R l : List Int} (h : Own W B (some ⟨gr, 0, none⟩) tot tot R) (hr : ∀ j, j < q → W.cell? ⟨b, off + j, none⟩ = some (.int .i64 (l.getD j 0))) (hl : l.length = q) (hq : q = Nat.min sL dL) (ho : o + q ≤ tot) (ht : tot ≤ 1000000) :
    ∃ W', (Builtin.copy_ #[63, 63] 3 #[.slice (some ⟨gr, o, none⟩) dL dC, .slice (some ⟨b, off, none⟩) sL sC]).run Try.prog W = .ok (.int .i64 q) W' ∧ Own W' B (some ⟨gr, 0, none⟩) tot tot (splR R o l) ∧ W.grownBy W' (some gr) := by
  have hc := own_cells h
  have hR := h.len
  have hrun := run_copy_row (P := Try.prog) W 63 63 3 3 gr o dL dC ⟨b, off, none⟩ sL sC (ints R).toArray 3 (ints l) Try.underlying63 intSz hc (by simp [hl, ← hq]) (Rd.cells hl hr) (by simp [hl, hR]; omega) (by intro v hv; simp at hv; obtain ⟨x, _, rfl⟩ := hv; rfl)
  have hll : (ints l).length = q := by simp [hl]
  rw [hll] at hrun
  refine ⟨W.setRow gr _, hrun, own_of_cells h.blk.1 ht (by rw [splR_len (by rw [hl, hR]; exact ho), hR]) ?_, setRow_grown W gr _⟩
  rw [setRow_heap W gr _ _ _ _ hc]
  have e : (ints R).toArray.toList.take o ++ ints l ++ (ints R).toArray.toList.drop (o + q) = ints (splR R o l) := by
    unfold splR
    rw [hl]
    show (ints R).take o ++ ints l ++ (ints R).drop (o + q) = _
    rw [← ints_app, ← ints_app, List.append_assoc]
    unfold ints
    rw [List.map_take, List.map_drop]
  first | rw [e] | (rw [← List.append_assoc, e])

set_option maxRecDepth 100000 in
set_option maxHeartbeats 4000000 in
theorem repeat_any (b c0 n : Nat) (h1 : 1 ≤ n) (h9 : n ≤ 9) (w : World) (hb : w.cell? ⟨b, 0, none⟩ = some (.int .i64 (-1))) :
    Calls Try.prog 144 #[.slice (some ⟨b, 0, none⟩) 1 c0, .int .i64 n] w fun e w' => (∃ g, e = .returned (.slice (some ⟨g, 0, none⟩) n n) ∧ Own w' w.heap.size (some ⟨g, 0, none⟩) n n (noP n)) ∧ Below w.heap.size w w' := by
  have HM := Lib.hid (mul_any n h1 h9)
  have w1 : IntKind.u64.wrap (n : Int) = n := by rw [IntKind.wrap_u64]; omega
  have w2 : IntKind.i64.wrap (n : Int) = n := wrap_is rfl (by omega) (by omega)
  have HB := Lib.hid hb
  have hbs := lt_of_cell hb
  obtain ⟨i0, hi, hz0, hz1, hz2⟩ := info_parts intInfo
  clear hb
  go_enter Try.func144, Try.ntmps144
  go_wp2_with fail
  refine (HM.out _).mono ?_
  rintro e w' ⟨rfl, rfl⟩
  have ze : (madeCells (Value.int .i64 0).cells (n * 1)).toList = ints (List.replicate n 0) := by
    rw [show (Value.int .i64 0).cells = #[.int .i64 0] from rfl, toList_madeCells_one]; simp
  have ZE := Lib.hid ze
  clear ze
  go_wp2_with (at_make; refine wpList_make_full _ rfl _ _ 63 rfl w.heap.size 3 i0 (.int .i64 0) 1 Try.underlying63 hi hz0 hz1 _ _ _ _ n rfl rfl rfl rfl (by rw [hz2]; omega) (by unfold maxLen; omega) (Nat.le_refl _) ?_; intro w1 hown hg1; rw [ZE.out] at hown; have hb1 := below_row hg1 (Nat.le_refl w.heap.size) (fun k e => by cases e); have hc1 := (hb1.cell (p := ⟨b, 0, none⟩) hbs).trans HB.out; have HB1 := Lib.hid hb1; have hcr : ∀ j, j < 1 → w1.cell? ⟨b, 0 + j, none⟩ = some (.int .i64 (([-1] : List Int).getD j 0)) := (fun j hj => by (obtain rfl : j = 0 := by omega); exact hc1); obtain ⟨W2, hcp, ho2, hg2⟩ := copy_part (q := 1) (o := 0) (dL := n) (dC := n) (sL := 1) (sC := c0) (l := [-1]) hown hcr rfl (by (have e : Nat.min 1 n = min 1 n := rfl); rw [e]; omega) (by omega) (by omega); have HO2 := Lib.hid ho2; have HG2 := Lib.hid hg2; have HOW := Lib.hid hown; clear hown hg1 hb1 hc1 hcr ho2 hg2)
  have hneg : NegTo (splR (List.replicate n (0 : Int)) 0 [-1]) 1 := fun j hj => by
    rw [splR_get (by simp; omega), if_neg (by omega), if_pos (by simp; omega)]
    obtain rfl : j = 0 := by omega
    rfl
  have hb2 : Below w.heap.size w W2 := HB1.out.grown HG2.out HB1.out.size (fun k e => by cases e; exact Nat.le_refl _)
  have HN := Lib.hid hneg
  have HB2 := Lib.hid hb2
  clear hcp hneg hb2
  go_loopw [8] (fun v wr => ∃ (k : Nat) (R : List Int), 1 ≤ k ∧ k ≤ n ∧ v = .int .i64 k ∧ Own wr w.heap.size (some ⟨w.heap.size, 0, none⟩) n n R ∧ NegTo R k ∧ Below w.heap.size w wr) (fun v _ => n - (intOf v).toNat)
  case atStart => exact ⟨1, _, Nat.le_refl _, h1, rfl, HO2.out, HN.out, HB2.out⟩
  case round =>
    clear HO2 HN HB2
    obtain ⟨k, R, hk1, hkn, rfl, ho, hneg, hbl⟩ := hrel
    have HO := Lib.hid ho
    have HNG := Lib.hid hneg
    have HBL := Lib.hid hbl
    by_cases hlt : k < n
    · obtain ⟨q, eq⟩ : ∃ q, q = Nat.min k (n - k) := ⟨_, rfl⟩
      have hq : 1 ≤ q ∧ q ≤ k ∧ q ≤ n - k := by
        have : q = min k (n - k) := eq
        omega
      have hod : Own wr.drew w.heap.size (some ⟨w.heap.size, 0, none⟩) n n R := ho.dr
      obtain ⟨W3, hcp, ho3, hg3⟩ := copy_part (q := q) (o := k) (dL := n - k) (dC := n - k) (sL := k) (sC := n) (l := List.replicate q (-1)) hod (fun j hj => by
        rw [hod.cell (0 + j) (by omega), hneg (0 + j) (by omega)]
        simp [List.getD_eq_getElem?_getD, hj]) (by simp) eq (by omega) (by omega)
      have hn3 : NegTo (splR R k (List.replicate q (-1))) (k + q) := fun j hj => by
        rw [splR_get (by simp [ho.len]; omega)]
        by_cases g1 : j < k
        · rw [if_pos g1]; exact hneg j g1
        · rw [if_neg g1, if_pos (by simp; omega)]
          simp [List.getD_eq_getElem?_getD, show j - k < q by omega]
      have HO3 := Lib.hid ho3
      have HN3 := Lib.hid hn3
      have HB3 := Lib.hid (hbl.drew.grown hg3 (by exact hbl.size) (fun j e => by cases e; exact Nat.le_refl _))
      have v1 : IntKind.i64.wrap ((k : Int) + (q : Int)) = (k : Int) + q := wrap_is rfl (by omega) (by omega)
      have e1 : (k : Int) ≤ (n : Int) := by omega
      have e2 : (0 : Int) ≤ (k : Int) := by omega
      have e3 : ¬ (n = k) := by omega
      have e4 : ¬ (k = n) := by omega
      have d1 : decide ((k : Int) < (n : Int)) = true := by simp; omega
      clear eq hod ho3 hn3 hg3 ho hneg hbl
      go_wp2_with fail
      go_region
      go_wp2_with fail
      go_roundw
      case rel => first | exact ⟨k + q, _, by omega, by omega, by go_num, HO3.out, HN3.out, HB3.out⟩ | ((repeat apply Exists.intro); exact ⟨⟨k + q, _, by omega, by omega, by go_num, HO3.out, HN3.out, HB3.out⟩, rfl⟩)
      case measure => simp [intOf]; omega
    · obtain rfl : k = n := by omega
      clear ho hneg hbl
      go_wp2_with fail
      go_ret
      exact ⟨⟨_, rfl, by rw [← neg_all HO.out.len HNG.out]; exact HO.out⟩, HBL.out⟩
end Go.Proofs.Ytaffdppmpfgghaa
