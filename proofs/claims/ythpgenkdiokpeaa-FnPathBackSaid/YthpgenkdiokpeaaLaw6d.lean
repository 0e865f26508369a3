/- The walks of the laws FnPathBack, FnPathTurn, FnBox. -/
import Derived.Test.YthpgenkdiokpeaaDraw6
import Derived.Test.YthpgenkdiokpeaaPthG
import Derived.Test.YthpgenkdiokpeaaPathI7
import Derived.Test.YthpgenkdiokpeaaBoxP
import Derived.Test.YthpgenkdiokpeaaRowH
namespace Go.Proofs.Ythpgenkdiokpeaa
open Go.RowKit Go.Sort Go.Lib

theorem loN_char {f : Nat → Int} : ∀ {k : Nat}, loN f k ≤ 0 ∧ (∀ i, i < k → loN f k ≤ f i) ∧ (loN f k = 0 ∨ ∃ i, i < k ∧ loN f k = f i)
  | 0 => ⟨Int.le_refl _, fun i hi => absurd hi (by omega), .inl rfl⟩
  | k + 1 => by
    obtain ⟨h1, h2, h3⟩ := loN_char (f := f) (k := k)
    simp only [loN]
    refine ⟨by omega, fun i hi => ?_, ?_⟩
    · by_cases e : i = k
      · subst e; omega
      · have := h2 i (by omega); omega
    · by_cases c : f k < loN f k
      · exact .inr ⟨k, by omega, by omega⟩
      · rcases h3 with h3 | ⟨i, hi, h3⟩
        · exact .inl (by omega)
        · exact .inr ⟨i, by omega, by omega⟩
theorem hi_lo (f : Nat → Int) : ∀ k, hiN f k = -loN (fun i => -f i) k
  | 0 => rfl
  | k + 1 => by simp only [hiN, loN, hi_lo f k]; omega
/-- The same values, 0 among them, have the same least one. -/
theorem loN_same {f g : Nat → Int} {k : Nat} (h1 : ∀ i, i < k → f i = 0 ∨ ∃ j, j < k ∧ f i = g j) (h2 : ∀ i, i < k → g i = 0 ∨ ∃ j, j < k ∧ g i = f j) : loN f k = loN g k := by
  obtain ⟨a1, a2, a3⟩ := loN_char (f := f) (k := k)
  obtain ⟨b1, b2, b3⟩ := loN_char (f := g) (k := k)
  have c1 : loN g k ≤ loN f k := by
    rcases a3 with e | ⟨i, hi, e⟩
    · omega
    · rcases h1 i hi with e2 | ⟨j, hj, e2⟩
      · omega
      · have := b2 j hj; omega
  have c2 : loN f k ≤ loN g k := by
    rcases b3 with e | ⟨i, hi, e⟩
    · omega
    · rcases h2 i hi with e2 | ⟨j, hj, e2⟩
      · omega
      · have := a2 j hj; omega
  omega
theorem cor_bak {l : List Pt} (hc : tot l = (0, 0)) {i : Nat} (_hi : i ≤ l.length) : cor (bakP l) i = cor l (l.length - i) := by
  have e : (bakP l).take i = ((l.drop (l.length - i)).map negP).reverse := by
    unfold bakP
    rw [List.take_reverse, List.length_map, List.map_drop]
  have hs : addP (tot (l.take (l.length - i))) (tot (l.drop (l.length - i))) = (0, 0) := by rw [← tot_append, List.take_append_drop]; exact hc
  simp only [addP, Prod.mk.injEq] at hs
  unfold cor
  rw [e, tot_perm (List.reverse_perm _), tot_neg]
  exact Prod.ext (by simp only [negP]; omega) (by simp only [negP]; omega)
theorem bak_vals {l : List Pt} (hc : tot l = (0, 0)) (F : Pt → Int) (h0 : F (0, 0) = 0) : ∀ i, i < l.length → F (cor (bakP l) i) = 0 ∨ ∃ j, j < l.length ∧ F (cor (bakP l) i) = F (cor l j) := fun i hi => by
  rw [cor_bak hc (by omega)]
  by_cases e : i = 0
  · subst e; rw [Nat.sub_zero, cor_len, hc]; exact .inl h0
  · exact .inr ⟨l.length - i, by omega, rfl⟩
theorem bak_vals' {l : List Pt} (hc : tot l = (0, 0)) (F : Pt → Int) (h0 : F (0, 0) = 0) : ∀ i, i < l.length → F (cor l i) = 0 ∨ ∃ j, j < l.length ∧ F (cor l i) = F (cor (bakP l) j) := fun i hi => by
  by_cases e : i = 0
  · subst e; rw [cor_zero]; exact .inl h0
  · exact .inr ⟨l.length - i, by omega, by rw [cor_bak hc (by omega)]; congr 2; omega⟩
theorem bak_len (l : List Pt) : (bakP l).length = l.length := by simp [bakP]
theorem box_bak {l : List Pt} (hc : tot l = (0, 0)) : boxW (bakP l) = boxW l ∧ boxH (bakP l) = boxH l := by
  unfold boxW boxH
  rw [bak_len, hi_lo, hi_lo, hi_lo, hi_lo]
  rw [loN_same (f := cxN (bakP l)) (g := cxN l) (bak_vals hc (fun p => p.1) rfl) (bak_vals' hc (fun p => p.1) rfl), loN_same (f := cyN (bakP l)) (g := cyN l) (bak_vals hc (fun p => p.2) rfl) (bak_vals' hc (fun p => p.2) rfl),
    loN_same (f := fun i => -cxN (bakP l) i) (g := fun i => -cxN l i) (bak_vals hc (fun p => -p.1) rfl) (bak_vals' hc (fun p => -p.1) rfl), loN_same (f := fun i => -cyN (bakP l) i) (g := fun i => -cyN l i) (bak_vals hc (fun p => -p.2) rfl) (bak_vals' hc (fun p => -p.2) rfl)]
  exact ⟨rfl, rfl⟩
theorem cor_qua (l : List Pt) (i : Nat) : cor (l.map quaP) i = quaP (cor l i) := by
  unfold cor
  rw [← List.map_take, tot_qua]
theorem box_qua (l : List Pt) : boxW (l.map quaP) = boxH l ∧ boxH (l.map quaP) = boxW l := by
  unfold boxW boxH
  rw [List.length_map]
  have e1 : cyN (l.map quaP) = cxN l := by funext i; show (cor (l.map quaP) i).2 = _; rw [cor_qua]; rfl
  have e2 : cxN (l.map quaP) = fun i => -cyN l i := by funext i; show (cor (l.map quaP) i).1 = _; rw [cor_qua]; rfl
  rw [e1, e2]
  refine ⟨?_, rfl⟩
  rw [hi_lo, hi_lo (cyN l)]
  have e3 : (fun i => -(fun i => -cyN l i) i) = cyN l := by funext i; show - -cyN l i = _; omega
  rw [e3]
  omega
theorem pBox (A : Option Addr) (n c : Nat) (l : List Pt) (w : World) (h : RdM w A n (rowsOf l)) (P : IsPath l) : Calls Try.prog 43 #[.slice A n c] w fun e w' => e = .returned (.tuple #[.int .i64 (boxW l), .int .i64 (boxH l), .bool true]) ∧ Below w.heap.size w w' := by
  have h1 := pathBox_any A n c (rowsOf l) w h (small_rows P.hi)
  rw [ifP_yes _ (pathB_rows P), ifP_yes _ (pathB_rows P), pathB_rows P, ptsL_rows] at h1
  exact h1
theorem qBox (A : Option Addr) (n c : Nat) (l : List Pt) (w : World) (h : RdM w A n (rowsOf l)) (P : IsPath l) : Calls Try.prog 52 #[.slice A n c] w fun e w' => e = .returned (.tuple #[.int .i64 (boxW l), .int .i64 (boxH l), .bool true]) ∧ Below w.heap.size w w' := by
  have h1 := specPathBox_any A n c (rowsOf l) w h (small_rows P.hi)
  rw [ifP_yes _ (pathB_rows P), ifP_yes _ (pathB_rows P), pathB_rows P, ptsL_rows] at h1
  exact h1

set_option maxRecDepth 100000 in
set_option maxHeartbeats 4000000 in
theorem fnPathBack_walk (A0 : Option Addr) (n0 c0 : Nat) (z0 : List Int) (w : World) (h0 : RdB w A0 n0 z0) (k0 : WfL .u8 z0) (q0 : n0 ≤ c0) :
    Calls Try.prog 6 #[.slice A0 n0 c0] w fun e w' => e = .returned (.bool true) ∧ Below w.heap.size w w' := by
  by_cases big : n0 ≤ 1048576
  rotate_left
  · go_enter Try.func6, Try.ntmps6
    go_wp2_with fail
    go_ret
    exact ⟨rfl, Below.refl _ _⟩
  go_enter Try.func6, Try.ntmps6
  go_wp2_with fail
  refine (drawPathBack_any A0 n0 c0 z0 _ h0 (bytes_of k0) big q0).mono ?_
  rintro e w1 ⟨A, n, c, L, rfl, r, hs, hn1, hn9, B1⟩
  cases hp : pathB L with
  | false =>
    clear hn1 hn9
    go_wp2_with fail
    refine (pBack0 A n c L _ r hs hp).mono ?_
    rintro e w2 ⟨A2, c2, rfl, r2, b⟩
    have B2 := below_then B1 b
    replace r := r.same b
    clear b
    go_wp2_with fail
    refine (qBack0 A n c L _ r hs hp).mono ?_
    rintro e w3 ⟨A3, c3, rfl, r3, b⟩
    have B3 := below_then B2 b
    replace r := r.same b
    replace r2 := r2.same b
    clear b
    go_wp2_with fail
    refine (sameRowsM_any _ _ 0 _ _ [] _ r2 r3 small_nil).mono ?_
    rintro e w4 ⟨rfl, b⟩
    have B4 := below_then B3 b
    replace r := r.same b
    replace r2 := r2.same b
    replace r3 := r3.same b
    clear b
    go_wp2_with fail
    refine (sameRowsM_any _ _ 0 _ _ [] _ r2 r3 small_nil).mono ?_
    rintro e w5 ⟨rfl, b⟩
    have B5 := below_then B4 b
    replace r := r.same b
    replace r2 := r2.same b
    replace r3 := r3.same b
    clear b
    go_wp2_with fail
    go_ret
    exact ⟨rfl, B5⟩
  | true =>
    obtain ⟨l, rfl, P⟩ := path_form hp
    have hl : l.length = n := by rw [← rowsOf_len]; exact r.1
    have h8 := P.hi
    have h3 := P.lo
    clear hp hs
    have HS := Lib.hid P
    have HSM := Lib.hid (small_rows P.bak.hi)
    have HSL := Lib.hid (small_rows P.hi)
    have hI := fun W (h : RdM W A n (rowsOf l)) => pBox A n c l W h P
    have h4 := fun A c W (h : RdM W A n (rowsOf (bakP l))) => pBox A n c _ W h P.bak
    have h5 := fun A c W (h : RdM W A n (rowsOf (bakP l))) => pBack A n c _ W h P.bak
    rw [bak_bak] at h5
    rw [(box_bak P.closed).1, (box_bak P.closed).2] at h4
    generalize boxW l = zw at *
    generalize boxH l = zh at *
    have HI := Lib.hid hI
    have H4 := Lib.hid h4
    have H5 := Lib.hid h5
    clear hI h4 h5 hn1 hn9 h8 h3 hl P
    go_wp2_with fail
    refine (pBack A n c l _ r HS.out).mono ?_
    rintro e w2 ⟨A2, c2, rfl, r2, b⟩
    have B2 := below_then B1 b
    replace r := r.same b
    clear b
    go_wp2_with fail
    refine (qBack A n c l _ r HS.out).mono ?_
    rintro e w3 ⟨A3, c3, rfl, r3, b⟩
    have B3 := below_then B2 b
    replace r := r.same b
    replace r2 := r2.same b
    clear b
    go_wp2_with fail
    refine (sameRowsM_any _ _ n _ _ _ _ r2 r3 HSM.out).mono ?_
    rintro e w4 ⟨rfl, b⟩
    have B4 := below_then B3 b
    replace r := r.same b
    replace r2 := r2.same b
    replace r3 := r3.same b
    clear b
    go_wp2_with fail
    refine (H5.out A2 c2 _ r2).mono ?_
    rintro e w5 ⟨A5, c5, rfl, r5, b⟩
    have B5 := below_then B4 b
    replace r := r.same b
    replace r2 := r2.same b
    clear b
    go_wp2_with fail
    refine (HI.out _ r).mono ?_
    rintro e w6 ⟨rfl, b⟩
    have B6 := below_then B5 b
    replace r := r.same b
    replace r2 := r2.same b
    replace r5 := r5.same b
    clear b
    go_wp2_with fail
    refine (H4.out A2 c2 _ r2).mono ?_
    rintro e w7 ⟨rfl, b⟩
    have B7 := below_then B6 b
    replace r := r.same b
    replace r2 := r2.same b
    replace r5 := r5.same b
    clear b
    go_wp2_with fail
    refine (sameRowsM_any _ _ n _ _ _ _ r5 r HSL.out).mono ?_
    rintro e w8 ⟨rfl, b⟩
    have B8 := below_then B7 b
    replace r := r.same b
    replace r2 := r2.same b
    replace r5 := r5.same b
    clear b
    go_wp2_with fail
    go_ret
    exact ⟨rfl, B8⟩

set_option maxRecDepth 100000 in
set_option maxHeartbeats 4000000 in
theorem fnPathTurn_walk (A0 : Option Addr) (n0 c0 : Nat) (z0 : List Int) (w : World) (h0 : RdB w A0 n0 z0) (k0 : WfL .u8 z0) (q0 : n0 ≤ c0) :
    Calls Try.prog 7 #[.slice A0 n0 c0] w fun e w' => e = .returned (.bool true) ∧ Below w.heap.size w w' := by
  by_cases big : n0 ≤ 1048576
  rotate_left
  · go_enter Try.func7, Try.ntmps7
    go_wp2_with fail
    go_ret
    exact ⟨rfl, Below.refl _ _⟩
  go_enter Try.func7, Try.ntmps7
  go_wp2_with fail
  refine (drawPathTurn_any A0 n0 c0 z0 _ h0 (bytes_of k0) big q0).mono ?_
  rintro e w1 ⟨A, n, c, L, rfl, r, hs, hn1, hn9, B1⟩
  cases hp : pathB L with
  | false =>
    clear hn1 hn9
    go_wp2_with fail
    refine (pTurn0 A n c L _ r hs hp).mono ?_
    rintro e w2 ⟨A2, c2, rfl, r2, b⟩
    have B2 := below_then B1 b
    replace r := r.same b
    clear b
    go_wp2_with fail
    refine (qTurn0 A n c L _ r hs hp).mono ?_
    rintro e w3 ⟨A3, c3, rfl, r3, b⟩
    have B3 := below_then B2 b
    replace r := r.same b
    replace r2 := r2.same b
    clear b
    go_wp2_with fail
    refine (sameRowsM_any _ _ 0 _ _ [] _ r2 r3 small_nil).mono ?_
    rintro e w4 ⟨rfl, b⟩
    have B4 := below_then B3 b
    replace r := r.same b
    replace r2 := r2.same b
    replace r3 := r3.same b
    clear b
    go_wp2_with fail
    refine (sameRowsM_any _ _ 0 _ _ [] _ r2 r3 small_nil).mono ?_
    rintro e w5 ⟨rfl, b⟩
    have B5 := below_then B4 b
    replace r := r.same b
    replace r2 := r2.same b
    replace r3 := r3.same b
    clear b
    go_wp2_with fail
    go_ret
    exact ⟨rfl, B5⟩
  | true =>
    obtain ⟨l, rfl, P⟩ := path_form hp
    have hl : l.length = n := by rw [← rowsOf_len]; exact r.1
    have h8 := P.hi
    have h3 := P.lo
    clear hp hs
    have HS := Lib.hid P
    have HQ1 := Lib.hid P.qua
    have HQ2 := Lib.hid P.qua.qua
    have HSM := Lib.hid (small_rows P.qua.hi)
    have HSL := Lib.hid (small_rows P.hi)
    have hI := fun W (h : RdM W A n (rowsOf l)) => pBox A n c l W h P
    have h4 := fun A c W (h : RdM W A n (rowsOf (l.map quaP))) => pBox A n c _ W h P.qua
    have h5 := fun A c W (h : RdM W A n (rowsOf (((l.map quaP).map quaP).map quaP))) => pTurn A n c _ W h P.qua.qua.qua
    rw [qua4] at h5
    rw [(box_qua l).1, (box_qua l).2] at h4
    generalize boxW l = zw at *
    generalize boxH l = zh at *
    have HI := Lib.hid hI
    have H4 := Lib.hid h4
    have H5 := Lib.hid h5
    clear hI h4 h5 hn1 hn9 h8 h3 hl P
    go_wp2_with fail
    refine (pTurn A n c l _ r HS.out).mono ?_
    rintro e w2 ⟨A2, c2, rfl, r2, b⟩
    have B2 := below_then B1 b
    replace r := r.same b
    clear b
    go_wp2_with fail
    refine (qTurn A n c l _ r HS.out).mono ?_
    rintro e w3 ⟨A3, c3, rfl, r3, b⟩
    have B3 := below_then B2 b
    replace r := r.same b
    replace r2 := r2.same b
    clear b
    go_wp2_with fail
    refine (sameRowsM_any _ _ n _ _ _ _ r2 r3 HSM.out).mono ?_
    rintro e w4 ⟨rfl, b⟩
    have B4 := below_then B3 b
    replace r := r.same b
    replace r2 := r2.same b
    replace r3 := r3.same b
    clear b
    go_wp2_with fail
    refine (pTurn A2 n c2 _ _ r2 HQ1.out).mono ?_
    rintro e w5 ⟨A5, c5, rfl, r5, b⟩
    have B5 := below_then B4 b
    replace r := r.same b
    replace r2 := r2.same b
    clear b
    go_wp2_with fail
    refine (pTurn A5 n c5 _ _ r5 HQ2.out).mono ?_
    rintro e w6 ⟨A6, c6, rfl, r6, b⟩
    have B6 := below_then B5 b
    replace r := r.same b
    replace r2 := r2.same b
    replace r5 := r5.same b
    clear b
    go_wp2_with fail
    refine (H5.out A6 c6 _ r6).mono ?_
    rintro e w7 ⟨A7, c7, rfl, r7, b⟩
    have B7 := below_then B6 b
    replace r := r.same b
    replace r2 := r2.same b
    replace r5 := r5.same b
    replace r6 := r6.same b
    clear b
    go_wp2_with fail
    refine (HI.out _ r).mono ?_
    rintro e w8 ⟨rfl, b⟩
    have B8 := below_then B7 b
    replace r := r.same b
    replace r2 := r2.same b
    replace r5 := r5.same b
    replace r6 := r6.same b
    replace r7 := r7.same b
    clear b
    go_wp2_with fail
    refine (H4.out A2 c2 _ r2).mono ?_
    rintro e w9 ⟨rfl, b⟩
    have B9 := below_then B8 b
    replace r := r.same b
    replace r2 := r2.same b
    replace r5 := r5.same b
    replace r6 := r6.same b
    replace r7 := r7.same b
    clear b
    go_wp2_with fail
    refine (sameRowsM_any _ _ n _ _ _ _ r7 r HSL.out).mono ?_
    rintro e w10 ⟨rfl, b⟩
    have B10 := below_then B9 b
    replace r := r.same b
    replace r2 := r2.same b
    replace r5 := r5.same b
    replace r6 := r6.same b
    replace r7 := r7.same b
    clear b
    go_wp2_with fail
    go_ret
    exact ⟨rfl, B10⟩

set_option maxRecDepth 100000 in
set_option maxHeartbeats 4000000 in
theorem fnBox_walk (A0 : Option Addr) (n0 c0 : Nat) (z0 : List Int) (w : World) (h0 : RdB w A0 n0 z0) (k0 : WfL .u8 z0) (q0 : n0 ≤ c0) :
    Calls Try.prog 10 #[.slice A0 n0 c0] w fun e w' => e = .returned (.bool true) ∧ Below w.heap.size w w' := by
  by_cases big : n0 ≤ 1048576
  rotate_left
  · go_enter Try.func10, Try.ntmps10
    go_wp2_with fail
    go_ret
    exact ⟨rfl, Below.refl _ _⟩
  go_enter Try.func10, Try.ntmps10
  go_wp2_with fail
  refine (drawPathBox_any A0 n0 c0 z0 _ h0 (bytes_of k0) big q0).mono ?_
  rintro e w1 ⟨A, n, c, L, rfl, r, hs, hn1, hn9, B1⟩
  cases hp : pathB L with
  | false =>
    clear hn1 hn9
    have hI := fun W (h : RdM W A n L) => pathBox_any A n c L W h hs
    have hQ := fun W (h : RdM W A n L) => specPathBox_any A n c L W h hs
    rw [ifP_no _ hp, ifP_no _ hp, hp] at hI hQ
    have HI := Lib.hid hI
    have HQ := Lib.hid hQ
    clear hI hQ
    go_wp2_with fail
    refine (HI.out _ r).mono ?_
    rintro e w2 ⟨rfl, b⟩
    have B2 := below_then B1 b
    replace r := r.same b
    clear b
    go_wp2_with fail
    refine (HQ.out _ r).mono ?_
    rintro e w3 ⟨rfl, b⟩
    have B3 := below_then B2 b
    replace r := r.same b
    clear b
    go_wp2_with fail
    go_ret
    exact ⟨rfl, B3⟩
  | true =>
    obtain ⟨l, rfl, P⟩ := path_form hp
    have hl : l.length = n := by rw [← rowsOf_len]; exact r.1
    have h8 := P.hi
    have h3 := P.lo
    clear hp hs
    have hI := fun W (h : RdM W A n (rowsOf l)) => pBox A n c l W h P
    have hQ := fun W (h : RdM W A n (rowsOf l)) => qBox A n c l W h P
    have hA := fun W (h : RdM W A n (rowsOf l)) => pArea A n c l W h P
    have hC := fun W (h : RdM W A n (rowsOf l)) => pConvex A n c l W h P
    have hbx := P.box_bd (Nat.le_refl _)
    have hb1 : 0 ≤ boxW l ∧ boxW l ≤ 144 := by unfold boxW; omega
    have hb2 : 0 ≤ boxH l ∧ boxH l ≤ 144 := by unfold boxH; omega
    have hcv : convB l = true → areaP l ≤ 2 * (boxW l * boxH l) ∧ 1 ≤ boxW l ∧ 1 ≤ boxH l := fun hc => ⟨box_area P hc, (box_pos P hc).1, (box_pos P hc).2⟩
    generalize boxW l = zw at *
    generalize boxH l = zh at *
    generalize areaP l = a at *
    have hm : 0 ≤ zw * zh ∧ zw * zh ≤ 144 * 144 := ⟨Int.mul_nonneg hb1.1 hb2.1, Int.mul_le_mul hb1.2 hb2.2 hb2.1 (by omega)⟩
    have hm2 : 2 * zw * zh = 2 * (zw * zh) := by grind
    have v1 : IntKind.i64.wrap (2 * zw) = 2 * zw := wrap_is rfl (by omega) (by omega)
    have v2 : IntKind.i64.wrap (2 * zw * zh) = 2 * zw * zh := wrap_is rfl (by omega) (by omega)
    have d1 : decide (zw ≥ 0) = true := by simp; omega
    have d2 : decide (zh ≥ 0) = true := by simp; omega
    have HI := Lib.hid hI
    have HQ := Lib.hid hQ
    have HA := Lib.hid hA
    clear hI hQ hA hn1 hn9 h8 h3 hl P hbx
    cases hc : convB l with
    | false =>
      rw [hc] at hC
      have HC := Lib.hid hC
      clear hC hc hcv hm hm2
      go_wp2_with fail
      refine (HI.out _ r).mono ?_
      rintro e w2 ⟨rfl, b⟩
      have B2 := below_then B1 b
      replace r := r.same b
      clear b
      go_wp2_with fail
      refine (HQ.out _ r).mono ?_
      rintro e w3 ⟨rfl, b⟩
      have B3 := below_then B2 b
      replace r := r.same b
      clear b
      go_wp2_with fail
      refine (HA.out _ r).mono ?_
      rintro e w4 ⟨rfl, b⟩
      have B4 := below_then B3 b
      replace r := r.same b
      clear b
      go_wp2_with fail
      refine (HC.out _ r).mono ?_
      rintro e w5 ⟨rfl, b⟩
      have B5 := below_then B4 b
      replace r := r.same b
      clear b
      go_wp2_with fail
      go_ret
      exact ⟨rfl, B5⟩
    | true =>
      rw [hc] at hC
      have HC := Lib.hid hC
      have hcv := hcv hc
      have d3 : decide (a ≤ 2 * zw * zh) = true := by rw [decide_eq_true_eq]; omega
      have d4 : decide (zw ≥ 1) = true := by simp; omega
      have d5 : decide (zh ≥ 1) = true := by simp; omega
      clear hC hc hcv hm hm2
      go_wp2_with fail
      refine (HI.out _ r).mono ?_
      rintro e w2 ⟨rfl, b⟩
      have B2 := below_then B1 b
      replace r := r.same b
      clear b
      go_wp2_with fail
      refine (HQ.out _ r).mono ?_
      rintro e w3 ⟨rfl, b⟩
      have B3 := below_then B2 b
      replace r := r.same b
      clear b
      go_wp2_with fail
      refine (HA.out _ r).mono ?_
      rintro e w4 ⟨rfl, b⟩
      have B4 := below_then B3 b
      replace r := r.same b
      clear b
      go_wp2_with fail
      refine (HC.out _ r).mono ?_
      rintro e w5 ⟨rfl, b⟩
      have B5 := below_then B4 b
      replace r := r.same b
      clear b
      go_wp2_with fail
      go_ret
      exact ⟨rfl, B5⟩
end Go.Proofs.Ythpgenkdiokpeaa
