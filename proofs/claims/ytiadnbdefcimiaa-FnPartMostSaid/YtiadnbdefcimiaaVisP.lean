/- Joined: Rept, VisP. -/
import Derived.Test.YtiadnbdefcimiaaVis
/- math/bits.Mul of small numbers, slices.Repeat of one number. -/
namespace Go.Proofs.Ytiadnbdefcimiaa
open Go.RowKit Go.Sort Go.Lib

theorem nine_of {n : Nat} (h1 : 1 ≤ n) (h9 : n ≤ 9) : n = 1 ∨ n = 2 ∨ n = 3 ∨ n = 4 ∨ n = 5 ∨ n = 6 ∨ n = 7 ∨ n = 8 ∨ n = 9 := by omega
theorem mul64_any (n : Nat) (h1 : 1 ≤ n) (h9 : n ≤ 9) (w : World) : Calls Try.prog 103 #[.int .u64 1, .int .u64 n] w fun e w' => e = .returned (.tuple #[.int .u64 0, .int .u64 n]) ∧ w = w' := by
  have a1 : bits .and .u64 1 4294967295 = 1 := by decide
  have a2 : bits .and .u64 (n : Int) 4294967295 = n := by rcases nine_of h1 h9 with rfl | rfl | rfl | rfl | rfl | rfl | rfl | rfl | rfl <;> decide
  have a3 : bits .and .u64 0 4294967295 = 0 := by decide
  have s2 : (n : Int) / 4294967296 = 0 := by omega
  have w1 : IntKind.u64.wrap (n : Int) = n := by rw [IntKind.wrap_u64]; omega
  go_enter Try.func103, Try.ntmps103
  go_wp2
  go_ret2
  exact ⟨rfl, rfl⟩
theorem mul_any (n : Nat) (h1 : 1 ≤ n) (h9 : n ≤ 9) (w : World) : Calls Try.prog 94 #[.int .u64 1, .int .u64 n] w fun e w' => e = .returned (.tuple #[.int .u64 0, .int .u64 n]) ∧ w = w' := by
  have HM := Lib.hid (mul64_any n h1 h9)
  have w1 : IntKind.u64.wrap (n : Int) = n := by rw [IntKind.wrap_u64]; omega
  go_enter Try.func94, Try.ntmps94
  go_wp2_with fail
  refine (HM.out _).mono ?_
  rintro e w' ⟨rfl, rfl⟩
  go_wp2_with fail
  go_ret2
  exact ⟨rfl, rfl⟩

/-- The first numbers of a row are -1. -/
def NegTo (R : List Int) (k : Nat) : Prop := ∀ j, j < k → R.getD j 0 = -1
theorem neg_all {R : List Int} {n : Nat} (hl : R.length = n) (h : NegTo R n) : R = noP n := by
  refine ext_getD (by simp [noP, hl]) fun j hj => ?_
  rw [h j (by omega), noP_get (by omega)]
theorem splR_get {R l : List Int} {o j : Nat} (h : o + l.length ≤ R.length) : (splR R o l).getD j 0 = if j < o then R.getD j 0 else if j < o + l.length then l.getD (j - o) 0 else R.getD j 0 := by
  unfold splR
  have e : (R.take o).length = o := by simp; omega
  by_cases h1 : j < o
  · rw [if_pos h1, List.getD_eq_getElem?_getD, List.getElem?_append_left (by omega), List.getElem?_take_of_lt h1, ← List.getD_eq_getElem?_getD]
  · rw [if_neg h1, List.getD_eq_getElem?_getD, List.getElem?_append_right (by omega), e]
    by_cases h2 : j < o + l.length
    · rw [if_pos h2, List.getElem?_append_left (by omega), ← List.getD_eq_getElem?_getD]
    · rw [if_neg h2, List.getElem?_append_right (by omega), List.getElem?_drop, show o + l.length + (j - o - l.length) = j by omega, ← List.getD_eq_getElem?_getD]
/-- copy into a row of the call's own, from wherever. -/
theorem copy_part {W : World} {B gr tot b off q o dL dC sL sC : Nat} {R l : List Int} (h : Own W B (some ⟨gr, 0, none⟩) tot tot R) (hr : ∀ j, j < q → W.cell? ⟨b, off + j, none⟩ = some (.int .i64 (l.getD j 0))) (hl : l.length = q) (hq : q = Nat.min sL dL) (ho : o + q ≤ tot) (ht : tot ≤ 1000000) :
    ∃ W', (Builtin.copy_ #[42, 42] 3 #[.slice (some ⟨gr, o, none⟩) dL dC, .slice (some ⟨b, off, none⟩) sL sC]).run Try.prog W = .ok (.int .i64 q) W' ∧ Own W' B (some ⟨gr, 0, none⟩) tot tot (splR R o l) ∧ W.grownBy W' (some gr) := by
  have hc := own_cells h
  have hR := h.len
  have hrun := run_copy_row (P := Try.prog) W 42 42 3 3 gr o dL dC ⟨b, off, none⟩ sL sC (ints R).toArray 3 (ints l) Try.underlying42 intSz hc (by simp [hl, ← hq]) (Rd.cells hl hr) (by simp [hl, hR]; omega) (by intro v hv; simp at hv; obtain ⟨x, _, rfl⟩ := hv; rfl)
  have hll : (ints l).length = q := by simp [hl]
  rw [hll] at hrun
  refine ⟨W.setRow gr _, hrun, own_of_cells h.blk.1 ht (by rw [splR_len (by rw [hl, hR]; exact ho), hR]) ?_, setRow_grown W gr _⟩
  rw [setRow_heap W gr _ _ _ _ hc]
  have e : (ints R).toArray.toList.take o ++ ints l ++ (ints R).toArray.toList.drop (o + q) = ints (splR R o l) := by
    unfold splR
    rw [hl]
    show (ints R).take o ++ ints l ++ (ints R).drop (o + q) = _
    rw [← ints_app, ← ints_app, List.append_assoc]
    unfold ints
    rw [List.map_take, List.map_drop]
  first | rw [e] | (rw [← List.append_assoc, e])

set_option maxRecDepth 100000 in
set_option maxHeartbeats 4000000 in
theorem repeat_any (b c0 n : Nat) (h1 : 1 ≤ n) (h9 : n ≤ 9) (w : World) (hb : w.cell? ⟨b, 0, none⟩ = some (.int .i64 (-1))) :
    Calls Try.prog 82 #[.slice (some ⟨b, 0, none⟩) 1 c0, .int .i64 n] w fun e w' => (∃ g, e = .returned (.slice (some ⟨g, 0, none⟩) n n) ∧ Own w' w.heap.size (some ⟨g, 0, none⟩) n n (noP n)) ∧ Below w.heap.size w w' := by
  have HM := Lib.hid (mul_any n h1 h9)
  have w1 : IntKind.u64.wrap (n : Int) = n := by rw [IntKind.wrap_u64]; omega
  have w2 : IntKind.i64.wrap (n : Int) = n := wrap_is rfl (by omega) (by omega)
  have HB := Lib.hid hb
  have hbs := lt_of_cell hb
  obtain ⟨i0, hi, hz0, hz1, hz2⟩ := info_parts intInfo
  clear hb
  go_enter Try.func82, Try.ntmps82
  go_wp2_with fail
  refine (HM.out _).mono ?_
  rintro e w' ⟨rfl, rfl⟩
  have ze : (madeCells (Value.int .i64 0).cells (n * 1)).toList = ints (List.replicate n 0) := by
    rw [show (Value.int .i64 0).cells = #[.int .i64 0] from rfl, toList_madeCells_one]; simp
  have ZE := Lib.hid ze
  clear ze
  go_wp2_with (at_make; refine wpList_make_full _ rfl _ _ 42 rfl w.heap.size 3 i0 (.int .i64 0) 1 Try.underlying42 hi hz0 hz1 _ _ _ _ n rfl rfl rfl rfl (by rw [hz2]; omega) (by unfold maxLen; omega) (Nat.le_refl _) ?_; intro w1 hown hg1; rw [ZE.out] at hown; have hb1 := below_row hg1 (Nat.le_refl w.heap.size) (fun k e => by cases e); have hc1 := (hb1.cell (p := ⟨b, 0, none⟩) hbs).trans HB.out; have HB1 := Lib.hid hb1; have hcr : ∀ j, j < 1 → w1.cell? ⟨b, 0 + j, none⟩ = some (.int .i64 (([-1] : List Int).getD j 0)) := (fun j hj => by (obtain rfl : j = 0 := by omega); exact hc1); obtain ⟨W2, hcp, ho2, hg2⟩ := copy_part (q := 1) (o := 0) (dL := n) (dC := n) (sL := 1) (sC := c0) (l := [-1]) hown hcr rfl (by (have e : Nat.min 1 n = min 1 n := rfl); rw [e]; omega) (by omega) (by omega); have HO2 := Lib.hid ho2; have HG2 := Lib.hid hg2; have HOW := Lib.hid hown; clear hown hg1 hb1 hc1 hcr ho2 hg2)
  have hneg : NegTo (splR (List.replicate n (0 : Int)) 0 [-1]) 1 := fun j hj => by
    rw [splR_get (by simp; omega), if_neg (by omega), if_pos (by simp; omega)]
    obtain rfl : j = 0 := by omega
    rfl
  have hb2 : Below w.heap.size w W2 := HB1.out.grown HG2.out HB1.out.size (fun k e => by cases e; exact Nat.le_refl _)
  have HN := Lib.hid hneg
  have HB2 := Lib.hid hb2
  clear hcp hneg hb2
  go_loopw [8] (fun v wr => ∃ (k : Nat) (R : List Int), 1 ≤ k ∧ k ≤ n ∧ v = .int .i64 k ∧ Own wr w.heap.size (some ⟨w.heap.size, 0, none⟩) n n R ∧ NegTo R k ∧ Below w.heap.size w wr) (fun v _ => n - (intOf v).toNat)
  case atStart => exact ⟨1, _, Nat.le_refl _, h1, rfl, HO2.out, HN.out, HB2.out⟩
  case round =>
    clear HO2 HN HB2
    obtain ⟨k, R, hk1, hkn, rfl, ho, hneg, hbl⟩ := hrel
    have HO := Lib.hid ho
    have HNG := Lib.hid hneg
    have HBL := Lib.hid hbl
    by_cases hlt : k < n
    · obtain ⟨q, eq⟩ : ∃ q, q = Nat.min k (n - k) := ⟨_, rfl⟩
      have hq : 1 ≤ q ∧ q ≤ k ∧ q ≤ n - k := by
        have : q = min k (n - k) := eq
        omega
      have hod : Own wr.drew w.heap.size (some ⟨w.heap.size, 0, none⟩) n n R := ho.dr
      obtain ⟨W3, hcp, ho3, hg3⟩ := copy_part (q := q) (o := k) (dL := n - k) (dC := n - k) (sL := k) (sC := n) (l := List.replicate q (-1)) hod (fun j hj => by
        rw [hod.cell (0 + j) (by omega), hneg (0 + j) (by omega)]
        simp [List.getD_eq_getElem?_getD, hj]) (by simp) eq (by omega) (by omega)
      have hn3 : NegTo (splR R k (List.replicate q (-1))) (k + q) := fun j hj => by
        rw [splR_get (by simp [ho.len]; omega)]
        by_cases g1 : j < k
        · rw [if_pos g1]; exact hneg j g1
        · rw [if_neg g1, if_pos (by simp; omega)]
          simp [List.getD_eq_getElem?_getD, show j - k < q by omega]
      have HO3 := Lib.hid ho3
      have HN3 := Lib.hid hn3
      have HB3 := Lib.hid (hbl.drew.grown hg3 (by exact hbl.size) (fun j e => by cases e; exact Nat.le_refl _))
      have v1 : IntKind.i64.wrap ((k : Int) + (q : Int)) = (k : Int) + q := wrap_is rfl (by omega) (by omega)
      have e1 : (k : Int) ≤ (n : Int) := by omega
      have e2 : (0 : Int) ≤ (k : Int) := by omega
      have e3 : ¬ (n = k) := by omega
      have e4 : ¬ (k = n) := by omega
      have d1 : decide ((k : Int) < (n : Int)) = true := by simp; omega
      clear eq hod ho3 hn3 hg3 ho hneg hbl
      go_wp2_with fail
      go_region
      go_wp2_with fail
      go_roundw
      case rel => first | exact ⟨k + q, _, by omega, by omega, by go_num, HO3.out, HN3.out, HB3.out⟩ | ((repeat apply Exists.intro); exact ⟨⟨k + q, _, by omega, by omega, by go_num, HO3.out, HN3.out, HB3.out⟩, rfl⟩)
      case measure => simp [intOf]; omega
    · obtain rfl : k = n := by omega
      clear ho hneg hbl
      go_wp2_with fail
      go_ret
      exact ⟨⟨_, rfl, by rw [← neg_all HO.out.len HNG.out]; exact HO.out⟩, HBL.out⟩
end Go.Proofs.Ytiadnbdefcimiaa

/- The program's way through the part lists of a bundle: visitParts. -/
namespace Go.Proofs.Ytiadnbdefcimiaa
open Go.RowKit Go.Sort Go.Lib

set_option maxRecDepth 100000 in
set_option maxHeartbeats 4000000 in
theorem visitPartsG_any {σ : Type} (w0 : World) (B bx : Nat) (J : Nat → σ → World → Prop) (acc : σ → List Int → σ) (s : σ) (fid : FuncId) (caps : Array Value) (b off n c : Nat) (zs : List Int) (w : World) (h : Rd w (some ⟨b, off, none⟩) n zs) (hn1 : 1 ≤ n) (hn9 : n ≤ 9) (hz : ∀ j, j < n → 1 ≤ zs.getD j 0 ∧ zs.getD j 0 ≤ 60)
    (hJ : ∀ gr, w.heap.size ≤ gr → ∀ s W W', J gr s W → ∀ row, W.grownBy W' row → row = none ∨ row = some gr → J gr s W') (hbx : B ≤ bx ∧ bx < w.heap.size) (hB : B ≤ w.heap.size) (hbel : Below B w0 w) (hj : ∀ gr, w.heap.size ≤ gr → J gr s w)
    (hv : ∀ gr, w.heap.size ≤ gr → ∀ l s W b off c, gr < W.heap.size → (∃ m, PL (cloQ zs) n l m) → Rd W (some ⟨b, off, none⟩) n l → J gr s W → Calls Try.prog fid (#[.slice (some ⟨b, off, none⟩) n c] ++ caps) W fun e w' => e = .returned (.tuple #[]) ∧ J gr (acc s l) w' ∧ W.grownBy w' (some bx))
    (he : ∀ args w, (callFunc fid args).run Try.prog w = .ok (.enter fid args) w) :
    Calls Try.prog 50 #[.slice (some ⟨b, off, none⟩) n c, .func (.func fid) #[] caps] w fun e w' => e = .returned (.tuple #[]) ∧ (∃ gr, w.heap.size ≤ gr ∧ J gr ((visP 0 (noP n) (triP (cloQ zs) n)).foldl acc s) w') ∧ Below B w0 w' := by
  have HR := Lib.hid h
  have HZ := Lib.hid hz
  have HJ := Lib.hid hJ
  have HV := Lib.hid hv
  have HBL := Lib.hid hbel
  have HJ0 := Lib.hid hj
  obtain ⟨i0, hi, hz0, hz1, hz2⟩ := info_parts intInfo
  obtain ⟨tot, htot⟩ : ∃ tot, tot = n * (n / 3) := ⟨_, rfl⟩
  obtain ⟨d, hd⟩ : ∃ d, d = n / 3 := ⟨_, rfl⟩
  have hq1 : Int.tdiv (n : Int) 3 = (d : Int) := by rw [hd]; rfl
  have hq2 : (n : Int) / 3 = (d : Int) := by omega
  have ht9 : tot ≤ 1000 := by rw [htot]; exact Nat.le_trans (Nat.mul_le_mul hn9 (show n / 3 ≤ 3 by omega)) (by decide)
  have hq4 : (n : Int) * (d : Int) = (tot : Int) := by rw [htot, hd]; simp
  have hq3 : IntKind.i64.wrap ((n : Int) * (d : Int)) = (tot : Int) := wrap_is hq4 (by omega) (by omega)
  have hd9 : d ≤ 9 := by omega
  have HT := Lib.hid htot
  have hc0 : (w.alloc (.cells #[.int .i64 (-1)] 3)).cell? ⟨w.heap.size, 0, none⟩ = some (.int .i64 (-1)) := by rw [cell_of_row _ _ 0 _ _ _ (World.alloc_heap_new w _)]; rfl
  have HRP := Lib.hid (repeat_any w.heap.size 1 n hn1 hn9 _ hc0)
  clear h hz hJ hv hbel hj htot hc0 hd
  go_enter Try.func50, Try.ntmps50
  go_wp2_with fail
  refine HRP.out.mono ?_
  rintro e w2 ⟨⟨g0, rfl, o0⟩, b2⟩
  have HO0 := Lib.hid o0
  have hb2 : Below w.heap.size w w2 := below_then (below_alloc (Below.refl _ _) _) b2
  have HB2 := Lib.hid hb2
  have hs2 := hb2.size
  clear o0 b2 hb2
  go_wp2_with (at_make; refine wpList_make_full _ rfl _ _ 23 rfl w2.heap.size 3 i0 (.int .i64 0) 1 Try.underlying23 hi hz0 hz1 _ _ _ _ tot rfl rfl rfl rfl (by rw [hz2]; omega) (by unfold maxLen; omega) (Nat.le_refl _) ?_; intro w3 hown hg3)
  have ze : (madeCells (Value.int .i64 0).cells (tot * 1)).toList = ints (List.replicate tot 0) := by
    rw [show (Value.int .i64 0).cells = #[.int .i64 0] from rfl, toList_madeCells_one]; simp
  rw [ze] at hown
  have hb3 : Below w2.heap.size w2 w3 := below_row hg3 (Nat.le_refl _) (fun k e => by cases e)
  have HB3 := Lib.hid (below_then HB2.out hb3)
  have HO3 := Lib.hid (show Own w3 w2.heap.size (some ⟨w2.heap.size, 0, none⟩) tot tot (List.replicate tot 0) from hown)
  have HO03 := Lib.hid (HO0.out.same hb3)
  have hs3 := hb3.size
  clear ze hown hg3 hb3
  refine (closing_any _ _ _ _).mono ?_
  rintro e w4 ⟨rfl, rfl⟩
  have hb4 : Below w3.heap.size w3 (w3.alloc (.cells #[.slice (some ⟨b, off, none⟩) n c] 39)) := below_alloc (Below.refl _ _) _
  have hBs : (w3.alloc (.cells #[.slice (some ⟨b, off, none⟩) n c] 39)).cell? ⟨w3.heap.size, 0, none⟩ = some (.slice (some ⟨b, off, none⟩) n c) := by rw [cell_of_row _ _ 0 _ _ _ (World.alloc_heap_new w3 _)]; rfl
  have hcz : ∀ j, j < n → (w3.alloc (.cells #[.slice (some ⟨b, off, none⟩) n c] 39)).cell? ⟨b, off + j, none⟩ = some (.int .i64 (zs.getD j 0)) := by
    obtain ⟨b', off', e, _, hc⟩ := ((HR.out.same HB3.out).same hb4).2 (by omega)
    simp only [Option.some.injEq, Addr.mk.injEq, and_true] at e
    obtain ⟨rfl, rfl⟩ := e
    exact hc
  have HCL := Lib.hid (collect_any w3.heap.size b off n c zs hn1 hn9 HR.out.1 HZ.out _ hBs hcz)
  clear hBs hcz
  obtain ⟨w4, hw4⟩ : ∃ w4, w3.alloc (.cells #[.slice (some ⟨b, off, none⟩) n c] 39) = w4 := ⟨_, rfl⟩
  rw [hw4] at hb4 HCL ⊢
  have HB4 := Lib.hid (below_then HB3.out hb4)
  have HO4 := Lib.hid (HO3.out.same hb4)
  have HO04 := Lib.hid (HO03.out.same hb4)
  have hs4 := hb4.size
  clear hw4 hb4
  go_wp2_with fail
  refine HCL.out.mono ?_
  rintro e w5 ⟨⟨A, cT, rfl, oT⟩, b5⟩
  obtain ⟨Ts, eTs⟩ : ∃ Ts, Ts = triP (cloQ zs) n := ⟨_, rfl⟩
  rw [← eTs] at oT ⊢
  obtain ⟨bt, hbt⟩ : ∃ bt, 0 < Ts.length → A = some ⟨bt, 0, none⟩ := by
    by_cases h0 : 0 < Ts.length
    · obtain ⟨g, e, _⟩ := oT.form h0
      exact ⟨g, fun _ => e⟩
    · exact ⟨0, fun h => absurd h h0⟩
  have hg0 := HO0.out.blk
  have hsz1 : (w.alloc (.cells #[.int .i64 (-1)] 3)).heap.size = w.heap.size + 1 := by simp
  rw [hsz1] at hg0
  have hb5 : Below w.heap.size w w5 := below_then HB4.out b5
  have hlen : Ts.length ≤ 1000 := by
    rw [eTs]
    refine Nat.le_trans (List.length_filter_le _ _) ?_
    have := q1_len n hn9 n
    unfold allQ
    omega
  have hcT : Ts.length ≤ cT ∧ cT ≤ 9223372036854775807 := by
    rcases oT.2 with ⟨e, e0⟩ | ⟨g, cap, cur, e, _, _, h1, h2, _⟩
    · injection e with _ e1 e2
      omega
    · injection e with _ _ e2
      unfold maxLen at h2
      omega
  have hgr5 : w2.heap.size < w5.heap.size := by have := (HO4.out.same b5).blk; omega
  have hI : VisI w0 B g0 n w2.heap.size tot bx bt cT n A Ts (fun s W => J w2.heap.size s W ∧ w2.heap.size < W.heap.size) (List.replicate tot 0) s w5 := by
    refine ⟨(HO04.out.same b5).lower (by omega), (HO4.out.same b5).lower (by omega), oT.lower (by omega), hbt, ⟨HJ.out w2.heap.size hs2 s w w5 (HJ0.out _ hs2) none (grown_of_below hb5) (.inl rfl), hgr5⟩, HBL.out.trans (hb5.mono hB), ⟨by omega, by omega, by omega, fun e => ?_, fun e => ?_⟩, hbx.1⟩
    · have := (oT.row _ e).1
      omega
    · have := (oT.row _ e).1
      have := HO3.out.blk.2
      omega
  have HVF := visitFrom_any w0 B g0 n w2.heap.size tot bx bt cT n A Ts (fun s W => J w2.heap.size s W ∧ w2.heap.size < W.heap.size) acc (cloQ zs) fid caps hn1 hn9 HT.out hlen hcT.1 hcT.2 (fun s W W' hj row hg hr => ⟨HJ.out w2.heap.size hs2 s W W' hj.1 row hg hr, Nat.lt_of_lt_of_le hj.2 hg.size⟩) (fun l s W b off c hp hR hj => (HV.out w2.heap.size hs2 l s W b off c hj.2 hp hR hj.1).mono fun e w' h => ⟨h.1, ⟨h.2.1, Nat.lt_of_lt_of_le hj.2 h.2.2.size⟩, h.2.2⟩) he (Ts.length + 1) 0 (by omega) (by omega) 0 (noP n) (List.replicate tot 0) s w5 g0 0 n A (some ⟨w2.heap.size, 0, none⟩) (by rw [eTs, List.drop_zero]; exact noP_pv _ n) (.inl ⟨rfl, rfl, rfl, rfl⟩) (fun h => by rw [hbt h]) (fun _ => by rw [Nat.zero_mul]) hI
  rw [Nat.zero_mul, Nat.sub_zero, Nat.sub_zero, Nat.sub_zero, List.drop_zero] at HVF
  have HVF2 := Lib.hid HVF
  have ETS := Lib.hid eTs
  clear HVF hI hcT hlen hb5 hg0 oT b5 eTs hbt hsz1 hq1 hq2 hq3 hq4 hi hz0 hz1 hz2
  go_wp2_with fail
  refine HVF2.out.mono ?_
  rintro e w6 ⟨rfl, R6, h6, _⟩
  have H6 := Lib.hid h6
  clear h6
  go_wp2_with fail
  go_end0
  exact ⟨rfl, ⟨_, hs2, by rw [← ETS.out]; exact H6.out.st.1⟩, H6.out.bel⟩
theorem visitParts_any {σ : Type} (w0 : World) (B bx : Nat) (J : σ → World → Prop) (acc : σ → List Int → σ) (s : σ) (fid : FuncId) (caps : Array Value) (b off n c : Nat) (zs : List Int) (w : World) (h : Rd w (some ⟨b, off, none⟩) n zs) (hn1 : 1 ≤ n) (hn9 : n ≤ 9) (hz : ∀ j, j < n → 1 ≤ zs.getD j 0 ∧ zs.getD j 0 ≤ 60)
    (hJ : ∀ s W W', J s W → ∀ row, W.grownBy W' row → (∀ r, row = some r → w.heap.size ≤ r) → J s W') (hbx : B ≤ bx ∧ bx < w.heap.size) (hB : B ≤ w.heap.size) (hbel : Below B w0 w) (hj : J s w)
    (hv : ∀ l s W b off c, (∃ m, PL (cloQ zs) n l m) → Rd W (some ⟨b, off, none⟩) n l → J s W → Calls Try.prog fid (#[.slice (some ⟨b, off, none⟩) n c] ++ caps) W fun e w' => e = .returned (.tuple #[]) ∧ J (acc s l) w' ∧ W.grownBy w' (some bx))
    (he : ∀ args w, (callFunc fid args).run Try.prog w = .ok (.enter fid args) w) :
    Calls Try.prog 50 #[.slice (some ⟨b, off, none⟩) n c, .func (.func fid) #[] caps] w fun e w' => e = .returned (.tuple #[]) ∧ J ((visP 0 (noP n) (triP (cloQ zs) n)).foldl acc s) w' ∧ Below B w0 w' :=
  (visitPartsG_any w0 B bx (fun _ => J) acc s fid caps b off n c zs w h hn1 hn9 hz (fun gr hgr s W W' hj row hg hr => hJ s W W' hj row hg (fun r e => by
      rcases hr with hr | hr
      · rw [hr] at e; cases e
      · rw [hr] at e; cases e; exact hgr)) hbx hB hbel (fun _ _ => hj) (fun _ _ l s W b off c _ hp hR hj => hv l s W b off c hp hR hj) he).mono fun _ _ h => ⟨h.1, h.2.1.elim fun _ h => h.2, h.2.2⟩
end Go.Proofs.Ytiadnbdefcimiaa
