/- Contracts of chapter 2: lowest, TriSame. -/
import Derived.Test.YtcfmnjkgebopcaaTri3
import Derived.Test.YtcfmnjkgebopcaaLow
import Derived.Laws.StructEq
namespace Go.Proofs.Ytcfmnjkgebopcaa
open Go.RowKit Go.Sort

/-- The lowest form, as a value. -/
def lowV (A B C : Nat) : Value := .agg #[.int .i64 ((A : Int) / (g3 A B C : Int)), .int .i64 ((B : Int) / (g3 A B C : Int)), .int .i64 ((C : Int) / (g3 A B C : Int))]
theorem mod_yes {A k : Nat} (h : k ∣ A) : (((A : Int) % (k : Int)) == 0) = true := by
  have : A % k = 0 := Nat.mod_eq_zero_of_dvd h
  have e : ((A : Int) % (k : Int)) = ((A % k : Nat) : Int) := by simp
  rw [e, this]; rfl
theorem mod_no {A k : Nat} (h : ¬ k ∣ A) : (((A : Int) % (k : Int)) == 0) = false := by
  have : ¬ A % k = 0 := fun e => h (Nat.dvd_of_mod_eq_zero e)
  have e : ((A : Int) % (k : Int)) = ((A % k : Nat) : Int) := by simp
  rw [e]; simp; omega
set_option maxRecDepth 100000 in
set_option maxHeartbeats 4000000 in
theorem lowest_any (A B C : Nat) (w : World) (h : TriP A B C) : Calls Try.prog 138 #[.agg #[.int .i64 A, .int .i64 B, .int .i64 C]] w fun e w' => e = .returned (lowV A B C) ∧ Below w.heap.size w w' := by
  obtain ⟨h1, h2, h3, h4, h5⟩ := h
  obtain ⟨W, hW⟩ : ∃ W, W = (w.alloc (.cells #[.int .i64 A, .int .i64 B, .int .i64 C] 63)).alloc (.cells #[.int .i64 0, .int .i64 0, .int .i64 0] 63) := ⟨_, rfl⟩
  have hP : W.heap[w.heap.size]? = some (.cells #[.int .i64 A, .int .i64 B, .int .i64 C] 63 (0, 0)) := by rw [hW]; exact (Below.heap_alloc _ _ _ (by simp)).trans (World.alloc_heap_new w _)
  have hR : W.heap[w.heap.size + 1]? = some (.cells #[.int .i64 0, .int .i64 0, .int .i64 0] 63 (0, 0)) := by
    have := World.alloc_heap_new (w.alloc (.cells #[.int .i64 A, .int .i64 B, .int .i64 C] 63)) (.cells #[.int .i64 0, .int .i64 0, .int .i64 0] 63)
    rw [World.size_alloc] at this; rw [hW]; exact this
  have bW : Below w.heap.size w W := by rw [hW]; exact below_alloc (below_alloc (Below.refl _ _) _) _
  obtain ⟨u0, u1, u2, _, _, _⟩ := three_cells hP
  obtain ⟨r0, r1, r2, f0, f1, f2⟩ := three_cells hR
  have HW := Lib.hid hW
  have HR := Lib.hid hR
  have s0 : 0 < A := by omega
  clear hW hP hR
  have hgt : (A : Int) ≤ 60 := by omega
  have hgb : (B : Int) ≤ 60 := by omega
  go_enter Try.func138, Try.ntmps138
  go_wp2_with fail
  rw [← HW.out]
  go_loopw [3] (fun d wr => ∃ k : Nat, 1 ≤ k ∧ k ≤ A ∧ d = .int .i64 k ∧ (∀ e, k < e → e ≤ A → ¬ (e ∣ A ∧ e ∣ B ∧ e ∣ C)) ∧ wr = W) (fun d _ => (intOf d).toNat)
  case atStart => exact ⟨A, by omega, Nat.le_refl _, rfl, fun e he hl => by omega, rfl⟩
  case round =>
    obtain ⟨k, hk1, hkA, rfl, hno, rfl⟩ := hrel
    have HN := Lib.hid hno
    clear hno
    by_cases hgo : 1 < k
    · by_cases hcom : k ∣ A ∧ k ∣ B ∧ k ∣ C
      · have hg := g3_is s0 hcom.1 hcom.2.1 hcom.2.2 HN.out
        have HG := Lib.hid hg
        have m1 := mod_yes hcom.1
        have m2 := mod_yes hcom.2.1
        have m3 := mod_yes hcom.2.2
        have k0 : ¬ ((k : Int) = 0) := by omega
        have kk : ((k : Int) == 0) = false := by simp; omega
        have z1 : 0 ≤ (A : Int) / (k : Int) ∧ (A : Int) / (k : Int) ≤ 60 := ⟨Int.ediv_nonneg (by omega) (by omega), Int.le_trans (Int.ediv_le_self _ (by omega)) (by omega)⟩
        have z2 : 0 ≤ (B : Int) / (k : Int) ∧ (B : Int) / (k : Int) ≤ 60 := ⟨Int.ediv_nonneg (by omega) (by omega), Int.le_trans (Int.ediv_le_self _ (by omega)) (by omega)⟩
        have z3 : 0 ≤ (C : Int) / (k : Int) ∧ (C : Int) / (k : Int) ≤ 60 := ⟨Int.ediv_nonneg (by omega) (by omega), Int.le_trans (Int.ediv_le_self _ (by omega)) (by omega)⟩
        have v1 : IntKind.i64.wrap ((A : Int) / (k : Int)) = (A : Int) / (k : Int) := wrap_is rfl (by omega) (by omega)
        have v2 : IntKind.i64.wrap ((B : Int) / (k : Int)) = (B : Int) / (k : Int) := wrap_is rfl (by omega) (by omega)
        have v3 : IntKind.i64.wrap ((C : Int) / (k : Int)) = (C : Int) / (k : Int) := wrap_is rfl (by omega) (by omega)
        clear hcom hg
        go_wp2_with fail
        go_region
        have b5 := (three_below bW (by omega : w.heap.size ≤ w.heap.size + 1) (.int .i64 ((A : Int) / (k : Int))) (.int .i64 ((B : Int) / (k : Int))) (.int .i64 ((C : Int) / (k : Int)))).drew
        have hRn : (((wr.setCell ⟨w.heap.size + 1, 0, none⟩ (.int .i64 ((A : Int) / (k : Int)))).setCell ⟨w.heap.size + 1, 1, none⟩ (.int .i64 ((B : Int) / (k : Int)))).setCell ⟨w.heap.size + 1, 2, none⟩ (.int .i64 ((C : Int) / (k : Int)))).drew.heap[w.heap.size + 1]? = some (.cells #[.int .i64 ((A : Int) / (k : Int)), .int .i64 ((B : Int) / (k : Int)), .int .i64 ((C : Int) / (k : Int))] 63 (0, 0)) := three_set HR.out _ _ _
        generalize (((wr.setCell ⟨w.heap.size + 1, 0, none⟩ (.int .i64 ((A : Int) / (k : Int)))).setCell ⟨w.heap.size + 1, 1, none⟩ (.int .i64 ((B : Int) / (k : Int)))).setCell ⟨w.heap.size + 1, 2, none⟩ (.int .i64 ((C : Int) / (k : Int)))).drew = W4 at b5 hRn ⊢
        obtain ⟨y0, y1, y2, _, _, _⟩ := three_cells hRn
        go_wp2_with fail
        refine bodyPost_ret (v := lowV A B C) ?_ rfl ⟨rfl, b5⟩
        unfold lowV
        rw [HG.out]
        simp [results, Try.f138, go_sem, y0, y1, y2]
      · obtain ⟨m, rfl⟩ : ∃ m, k = m + 1 := ⟨k - 1, by omega⟩
        have k0 : ¬ (((m + 1 : Nat) : Int) = 0) := by omega
        have kk : (((m + 1 : Nat) : Int) == 0) = false := by simp; omega
        have kk2 : (((m : Int) + 1) == 0) = false := by simp; omega
        have k02 : ¬ ((m : Int) + 1 = 0) := by omega
        have hlast : ∀ e, m < e → e ≤ A → ¬ (e ∣ A ∧ e ∣ B ∧ e ∣ C) := fun e he hl => by
          by_cases e1 : e = m + 1
          · subst e1; exact hcom
          · exact HN.out e (by omega) hl
        have HLs := Lib.hid hlast
        clear hlast
        by_cases c1 : m + 1 ∣ A
        · have m1 := mod_yes c1
          simp only [Int.natCast_add, Int.natCast_one] at m1
          by_cases c2 : m + 1 ∣ B
          · have m2 := mod_yes c2
            simp only [Int.natCast_add, Int.natCast_one] at m2
            have m3 := mod_no (fun c3 => hcom ⟨c1, c2, c3⟩)
            simp only [Int.natCast_add, Int.natCast_one] at m3
            clear hcom c1 c2
            go_wp2_with fail
            go_roundw
            case rel => exact ⟨m, by omega, by omega, by go_num, HLs.out, trivial⟩
            case measure => simp [intOf]
          · have m2 := mod_no c2
            simp only [Int.natCast_add, Int.natCast_one] at m2
            clear hcom c1 c2
            go_wp2_with fail
            go_roundw
            case rel => exact ⟨m, by omega, by omega, by go_num, HLs.out, trivial⟩
            case measure => simp [intOf]
        · have m1 := mod_no c1
          simp only [Int.natCast_add, Int.natCast_one] at m1
          clear hcom c1
          go_wp2_with fail
          go_roundw
          case rel => exact ⟨m, by omega, by omega, by go_num, HLs.out, trivial⟩
          case measure => simp [intOf]
    · obtain rfl : k = 1 := by omega
      have hg := g3_is s0 (Nat.one_dvd A) (Nat.one_dvd B) (Nat.one_dvd C) HN.out
      have b5 := three_below bW (by omega : w.heap.size ≤ w.heap.size + 1) (.int .i64 A) (.int .i64 B) (.int .i64 C)
      have hRn := three_set HR.out (.int .i64 A) (.int .i64 B) (.int .i64 C)
      have HRn := Lib.hid hRn
      have HG := Lib.hid hg
      clear hRn hg
      go_wp2_with fail
      have hRn := HRn.out
      generalize ((wr.setCell ⟨w.heap.size + 1, 0, none⟩ (.int .i64 A)).setCell ⟨w.heap.size + 1, 1, none⟩ (.int .i64 B)).setCell ⟨w.heap.size + 1, 2, none⟩ (.int .i64 C) = W4 at b5 hRn ⊢
      obtain ⟨y0, y1, y2, _, _, _⟩ := three_cells hRn
      refine bodyPost_ret (v := lowV A B C) ?_ rfl ⟨rfl, b5⟩
      unfold lowV
      rw [HG.out]
      simp [results, Try.f138, go_sem, y0, y1, y2]

/-- Two triangles with the same angles. -/
noncomputable def samB (xs ys : List Int) : Bool := triLB xs && (triLB ys && (decide (xs.getD 0 0 * ys.getD 1 0 = xs.getD 1 0 * ys.getD 0 0) && decide (xs.getD 0 0 * ys.getD 2 0 = xs.getD 2 0 * ys.getD 0 0)))
theorem samB_no1 {xs ys : List Int} (h : triLB xs = false) : samB xs ys = false := by unfold samB; rw [h]; rfl
theorem samB_no2 {xs ys : List Int} (h : triLB ys = false) : samB xs ys = false := by unfold samB; rw [h]; simp
theorem samB_of {xs ys : List Int} (h : triLB xs = true) (h2 : triLB ys = true) : samB xs ys = (decide (xs.getD 0 0 * ys.getD 1 0 = xs.getD 1 0 * ys.getD 0 0) && decide (xs.getD 0 0 * ys.getD 2 0 = xs.getD 2 0 * ys.getD 0 0)) := by unfold samB; rw [h, h2]; simp
theorem low_same {A B C X Y Z : Nat} (hA : 0 < A) (hX : 0 < X) :
    (decide (((A : Int) * (Y : Int)) = (B : Int) * (X : Int)) && decide (((A : Int) * (Z : Int)) = (C : Int) * (X : Int))) =
    (decide (((A : Int) / (g3 A B C : Int)) = (X : Int) / (g3 X Y Z : Int)) && (decide (((B : Int) / (g3 A B C : Int)) = (Y : Int) / (g3 X Y Z : Int)) && decide (((C : Int) / (g3 A B C : Int)) = (Z : Int) / (g3 X Y Z : Int)))) := by
  have h := low_cross (a := A) (b := B) (c := C) (x := X) (y := Y) (z := Z) hA hX
  have c1 : ∀ p q : Nat, ((p : Int) / (q : Int)) = ((p / q : Nat) : Int) := fun p q => by simp
  have c2 : ∀ p q : Nat, ((p : Int) * (q : Int)) = ((p * q : Nat) : Int) := fun p q => by simp
  rw [c1, c1, c1, c1, c1, c1, c2, c2, c2, c2, Bool.eq_iff_iff]
  simp only [Bool.and_eq_true, decide_eq_true_eq, Int.natCast_inj]
  exact h

theorem eql_three (a b c x y z : Int) (w : World) : (binOp .eql 63 (.agg #[.int .i64 a, .int .i64 b, .int .i64 c]) (.agg #[.int .i64 x, .int .i64 y, .int .i64 z])).run Try.prog w = .ok (.bool (decide (a = x) && (decide (b = y) && decide (c = z)))) w := by
  have hu : Try.prog.underlying 63 = some (.struct (Try.prog.fieldsOf 63)) := by kernel_rfl
  have hs : Try.prog.stoodInHeld 63 = false := by kernel_rfl
  rw [run_eql_struct, run_equalIn_agg w 9999 _ _ _ hu hs]
  have hi := Try.underlying3
  have h3 := Try.underlying63
  by_cases h1 : a = x
  · by_cases h2 : b = y
    · by_cases h4 : c = z
      · simp [Program.fieldsOf, h3, Op.eqFields, part, go_sem, hi, h1, h2, h4]
      · simp [Program.fieldsOf, h3, Op.eqFields, part, go_sem, hi, h1, h2, h4]
    · simp [Program.fieldsOf, h3, Op.eqFields, part, go_sem, hi, h1, h2]
  · simp [Program.fieldsOf, h3, Op.eqFields, part, go_sem, hi, h1]

set_option maxRecDepth 100000 in
set_option maxHeartbeats 4000000 in
theorem implTriSame_any (A : Option Addr) (n c : Nat) (xs : List Int) (A2 : Option Addr) (n2 c2 : Nat) (ys : List Int) (w : World) (h : Rd w A n xs) (hn : n ≤ 1048576) (h2 : Rd w A2 n2 ys) (hn2 : n2 ≤ 1048576) :
    Calls Try.prog 84 #[.slice A n c, .slice A2 n2 c2] w fun e w' => e = .returned (.bool (samB xs ys)) ∧ Below w.heap.size w w' := by
  by_cases ht : triLB xs = true
  · by_cases ht2 : triLB ys = true
    · obtain ⟨p1, p2, p3, p4, p5⟩ := (triLB_yes ht).2.2
      obtain ⟨q1, q2, q3, q4, q5⟩ := (triLB_yes ht2).2.2
      have hS := samB_of ht ht2
      have HP := Lib.hid (triLB_yes ht).2.2
      have HQ := Lib.hid (triLB_yes ht2).2.2
      have hY1 := triangleOf_yes A n c xs w h hn ht
      obtain ⟨a, ea⟩ : ∃ a : Nat, xs.getD 0 0 = a := ⟨(xs.getD 0 0).toNat, by omega⟩
      obtain ⟨b, eb⟩ : ∃ b : Nat, xs.getD 1 0 = b := ⟨(xs.getD 1 0).toNat, by omega⟩
      obtain ⟨d, ed⟩ : ∃ d : Nat, xs.getD 2 0 = d := ⟨(xs.getD 2 0).toNat, by omega⟩
      obtain ⟨x, ex⟩ : ∃ x : Nat, ys.getD 0 0 = x := ⟨(ys.getD 0 0).toNat, by omega⟩
      obtain ⟨y, ey⟩ : ∃ y : Nat, ys.getD 1 0 = y := ⟨(ys.getD 1 0).toNat, by omega⟩
      obtain ⟨z, ez⟩ : ∃ z : Nat, ys.getD 2 0 = z := ⟨(ys.getD 2 0).toNat, by omega⟩
      have hY2 : ∀ W, Below w.heap.size w W → Calls Try.prog 131 #[.slice A2 n2 c2] W fun e w' => e = .returned (.tuple #[.agg #[.int .i64 x, .int .i64 y, .int .i64 z], .bool true]) ∧ Below W.heap.size W w' := fun W hb => by
        have := triangleOf_yes A2 n2 c2 ys W (h2.below (Nat.le_refl _) hb) hn2 ht2
        rwa [ex, ey, ez] at this
      rw [ea, eb, ed] at hY1 HP
      rw [ex, ey, ez] at HQ
      rw [ea, eb, ed, ex, ey, ez, low_same (by omega) (by omega)] at hS
      have HS := Lib.hid hS
      have HY2 := Lib.hid hY2
      have hgd : Try.prog.eqGuardType Try.prog.depth 63 = false := by kernel_rfl
      clear h h2 ht ht2 hS hY2 ea eb ed ex ey ez p1 p2 p3 p4 p5 q1 q2 q3 q4 q5
      go_enter Try.func84, Try.ntmps84
      go_wp2_with fail
      refine hY1.mono ?_
      rintro e w1 ⟨rfl, b1⟩
      have b2 := below_alloc b1 (.cells #[.int .i64 a, .int .i64 b, .int .i64 d] 63)
      have s1 := World.alloc_heap_new w1 (.cells #[.int .i64 a, .int .i64 b, .int .i64 d] 63)
      go_wp2_with fail
      refine (HY2.out _ b2).mono ?_
      rintro e w2 ⟨rfl, b3⟩
      have b4 := below_alloc (below_then b2 b3) (.cells #[.int .i64 x, .int .i64 y, .int .i64 z] 63)
      have s2 := (b3.block w1.heap.size (by simp)).trans s1
      have s3 := (Below.heap_alloc w2 (.cells #[.int .i64 x, .int .i64 y, .int .i64 z] 63) w1.heap.size (Nat.lt_of_lt_of_le (by simp) b3.size)).trans s2
      have t3 := World.alloc_heap_new w2 (.cells #[.int .i64 x, .int .i64 y, .int .i64 z] 63)
      obtain ⟨W2, hW2⟩ : ∃ W2, W2 = w2.alloc (.cells #[.int .i64 x, .int .i64 y, .int .i64 z] 63) := ⟨_, rfl⟩
      rw [← hW2] at b4 s3 t3
      have HW := Lib.hid hW2
      obtain ⟨u0, u1, u2, _, _, _⟩ := three_cells s3
      obtain ⟨v0, v1, v2, _, _, _⟩ := three_cells t3
      have k0 : ∀ d' os, (grow (redrawn W2 d') os).cell? ⟨w1.heap.size, 0, none⟩ = some (.int .i64 a) := fun d' os => cell_regrown u0 d' os
      have k1 : ∀ d' os, (grow (redrawn W2 d') os).cell? ⟨w1.heap.size, 1, none⟩ = some (.int .i64 b) := fun d' os => cell_regrown u1 d' os
      have k2 : ∀ d' os, (grow (redrawn W2 d') os).cell? ⟨w1.heap.size, 2, none⟩ = some (.int .i64 d) := fun d' os => cell_regrown u2 d' os
      have j0 : ∀ d' os, (grow (redrawn W2 d') os).cell? ⟨w2.heap.size, 0, none⟩ = some (.int .i64 x) := fun d' os => cell_regrown v0 d' os
      have j1 : ∀ d' os, (grow (redrawn W2 d') os).cell? ⟨w2.heap.size, 1, none⟩ = some (.int .i64 y) := fun d' os => cell_regrown v1 d' os
      have j2 : ∀ d' os, (grow (redrawn W2 d') os).cell? ⟨w2.heap.size, 2, none⟩ = some (.int .i64 z) := fun d' os => cell_regrown v2 d' os
      obtain ⟨V1, hV1⟩ : ∃ V1, V1 = (a : Int) / (g3 a b d : Int) := ⟨_, rfl⟩
      obtain ⟨V2, hV2⟩ : ∃ V2, V2 = (b : Int) / (g3 a b d : Int) := ⟨_, rfl⟩
      obtain ⟨V3, hV3⟩ : ∃ V3, V3 = (d : Int) / (g3 a b d : Int) := ⟨_, rfl⟩
      obtain ⟨U1, hU1⟩ : ∃ U1, U1 = (x : Int) / (g3 x y z : Int) := ⟨_, rfl⟩
      obtain ⟨U2, hU2⟩ : ∃ U2, U2 = (y : Int) / (g3 x y z : Int) := ⟨_, rfl⟩
      obtain ⟨U3, hU3⟩ : ∃ U3, U3 = (z : Int) / (g3 x y z : Int) := ⟨_, rfl⟩
      have cL : ∀ d' os, Calls Try.prog 138 #[.agg #[.int .i64 a, .int .i64 b, .int .i64 d]] (grow (redrawn W2 d') os) fun e w'' => e = .returned (.agg #[.int .i64 V1, .int .i64 V2, .int .i64 V3]) ∧ ∃ p : Regrown, w'' = grow (redrawn W2 p.d) p.os := fun d' os => by
        have := lowest_any a b d (grow (redrawn W2 d') os) HP.out
        unfold lowV at this
        rw [← hV1, ← hV2, ← hV3] at this
        exact Calls.regrown_of this
      have cM : ∀ d' os, Calls Try.prog 138 #[.agg #[.int .i64 x, .int .i64 y, .int .i64 z]] (grow (redrawn W2 d') os) fun e w'' => e = .returned (.agg #[.int .i64 U1, .int .i64 U2, .int .i64 U3]) ∧ ∃ p : Regrown, w'' = grow (redrawn W2 p.d) p.os := fun d' os => by
        have := lowest_any x y z (grow (redrawn W2 d') os) HQ.out
        unfold lowV at this
        rw [← hU1, ← hU2, ← hU3] at this
        exact Calls.regrown_of this
      rw [← hV1, ← hV2, ← hV3, ← hU1, ← hU2, ← hU3] at HS
      have hE := eql_three V1 V2 V3 U1 U2 U3
      rw [← HS.out] at hE
      clear hV1 hV2 hV3 hU1 hU2 hU3 u0 u1 u2 v0 v1 v2 s1 s2 s3 t3 hW2 hY1
      obtain ⟨r, hr⟩ : ∃ r, r = samB xs ys := ⟨_, rfl⟩
      rw [← hr] at hE
      have HRR := Lib.hid hr
      clear hr
      go_wp2_with fail
      rw [← HW.out]
      refine wp_region_quiet_below (by kernel_rfl) (by kernel_rfl) ?_
      repeat (go_big_quiet_step (first | (with_reducible exact cL _ _) | (with_reducible exact cM _ _)))
      refine wpQuiet_nil ?_
      intro _ hw'
      obtain ⟨⟨dq, osq⟩, hw''⟩ := hw'
      subst hw''
      have bq := below_regrown W2 dq osq
      generalize Go.Sort.grow (redrawn W2 dq) osq = wq at bq ⊢
      go_wp2_with fail
      go_ret
      exact ⟨ret_b HRR.out, b4.trans (bq.mono b4.size)⟩
    · rw [Bool.not_eq_true] at ht2
      have HS := Lib.hid (samB_no2 (xs := xs) ht2)
      have HT2 := Lib.hid ht2
      have hY1 := triangleOf_yes A n c xs w h hn ht
      have HR2 := Lib.hid h2
      clear h h2 ht ht2
      go_enter Try.func84, Try.ntmps84
      go_wp2_with fail
      refine hY1.mono ?_
      rintro e w1 ⟨rfl, b1⟩
      have b2 := below_alloc b1 (.cells #[.int .i64 (xs.getD 0 0), .int .i64 (xs.getD 1 0), .int .i64 (xs.getD 2 0)] 63)
      go_wp2_with fail
      refine (triangleOf_no _ _ _ ys _ (HR2.out.below (Nat.le_refl _) b2) hn2 HT2.out).mono ?_
      rintro e w2 ⟨rfl, b3⟩
      have b4 := below_alloc (below_then b2 b3) (.cells #[.int .i64 0, .int .i64 0, .int .i64 0] 63)
      go_wp2_with fail
      go_quiet (fail)
      go_wp2_with fail
      go_ret
      exact ⟨ret_b HS.out.symm, below_drewN b4 _⟩
  · rw [Bool.not_eq_true] at ht
    have HS := Lib.hid (samB_no1 (ys := ys) ht)
    have HT := Lib.hid ht
    have HR2 := Lib.hid h2
    have hY2 : ∀ W, Below w.heap.size w W → Calls Try.prog 131 #[.slice A2 n2 c2] W fun e w' => (∃ x y z v, e = .returned (.tuple #[.agg #[.int .i64 x, .int .i64 y, .int .i64 z], .bool v])) ∧ Below W.heap.size W w' := fun W hb => by
      by_cases ht2 : triLB ys = true
      · exact (triangleOf_yes A2 n2 c2 ys W (h2.below (Nat.le_refl _) hb) hn2 ht2).mono fun e w' ⟨he, hb⟩ => ⟨⟨_, _, _, _, he⟩, hb⟩
      · rw [Bool.not_eq_true] at ht2
        exact (triangleOf_no A2 n2 c2 ys W (h2.below (Nat.le_refl _) hb) hn2 ht2).mono fun e w' ⟨he, hb⟩ => ⟨⟨_, _, _, _, he⟩, hb⟩
    have HY2 := Lib.hid hY2
    clear ht hY2 h2
    go_enter Try.func84, Try.ntmps84
    go_wp2_with fail
    refine (triangleOf_no _ _ _ xs _ h hn HT.out).mono ?_
    rintro e w1 ⟨rfl, b1⟩
    have b2 := below_alloc b1 (.cells #[.int .i64 0, .int .i64 0, .int .i64 0] 63)
    go_wp2_with fail
    refine (HY2.out _ b2).mono ?_
    rintro e w2 ⟨⟨x, y, z, v, rfl⟩, b3⟩
    have b4 := below_alloc (below_then b2 b3) (.cells #[.int .i64 x, .int .i64 y, .int .i64 z] 63)
    go_wp2_with fail
    go_quiet (fail)
    go_wp2_with fail
    go_ret
    exact ⟨ret_b HS.out.symm, below_drewN b4 _⟩

set_option maxRecDepth 100000 in
set_option maxHeartbeats 4000000 in
theorem specTriSame_any (A : Option Addr) (n c : Nat) (xs : List Int) (A2 : Option Addr) (n2 c2 : Nat) (ys : List Int) (w : World) (h : Rd w A n xs) (hn : n ≤ 1048576) (h2 : Rd w A2 n2 ys) (hn2 : n2 ≤ 1048576) :
    Calls Try.prog 85 #[.slice A n c, .slice A2 n2 c2] w fun e w' => e = .returned (.bool (samB xs ys)) ∧ Below w.heap.size w w' := by
  have cX : ∀ d os, Calls Try.prog 132 #[.slice A n c] (grow (redrawn w d) os) fun e w'' => e = .returned (.bool (triLB xs)) ∧ ∃ p : Regrown, w'' = grow (redrawn w p.d) p.os := fun d os =>
    Calls.regrown_of (l2Tri_any A n c xs _ (h.same (below_regrown w d os)) hn)
  have cY : ∀ d os, Calls Try.prog 132 #[.slice A2 n2 c2] (grow (redrawn w d) os) fun e w'' => e = .returned (.bool (triLB ys)) ∧ ∃ p : Regrown, w'' = grow (redrawn w p.d) p.os := fun d os =>
    Calls.regrown_of (l2Tri_any A2 n2 c2 ys _ (h2.same (below_regrown w d os)) hn2)
  by_cases ht : triLB xs = true
  · rw [ht] at cX
    by_cases ht2 : triLB ys = true
    · rw [ht2] at cY
      have HS := Lib.hid (samB_of ht ht2)
      obtain ⟨l1, _, p1, p2, p3, p4, p5⟩ := triLB_yes ht
      obtain ⟨l2, _, q1, q2, q3, q4, q5⟩ := triLB_yes ht2
      obtain rfl : n = 3 := by rw [← h.1]; exact l1
      obtain rfl : n2 = 3 := by rw [← h2.1]; exact l2
      obtain ⟨b, off, rfl, hbl, hc⟩ := h.2 (by omega)
      obtain ⟨b2, off2, rfl, hbl2, hc2⟩ := h2.2 (by omega)
      have k0 : ∀ d os, (grow (redrawn w d) os).cell? ⟨b, off, none⟩ = some (.int .i64 (xs.getD 0 0)) := fun d os => cell_regrown (hc 0 (by omega)) d os
      have k1 : ∀ d os, (grow (redrawn w d) os).cell? ⟨b, off + 1, none⟩ = some (.int .i64 (xs.getD 1 0)) := fun d os => cell_regrown (hc 1 (by omega)) d os
      have k2 : ∀ d os, (grow (redrawn w d) os).cell? ⟨b, off + 2, none⟩ = some (.int .i64 (xs.getD 2 0)) := fun d os => cell_regrown (hc 2 (by omega)) d os
      have j0 : ∀ d os, (grow (redrawn w d) os).cell? ⟨b2, off2, none⟩ = some (.int .i64 (ys.getD 0 0)) := fun d os => cell_regrown (hc2 0 (by omega)) d os
      have j1 : ∀ d os, (grow (redrawn w d) os).cell? ⟨b2, off2 + 1, none⟩ = some (.int .i64 (ys.getD 1 0)) := fun d os => cell_regrown (hc2 1 (by omega)) d os
      have j2 : ∀ d os, (grow (redrawn w d) os).cell? ⟨b2, off2 + 2, none⟩ = some (.int .i64 (ys.getD 2 0)) := fun d os => cell_regrown (hc2 2 (by omega)) d os
      obtain ⟨a, ea⟩ : ∃ a, a = xs.getD 0 0 := ⟨_, rfl⟩
      obtain ⟨e, ee⟩ : ∃ e, e = xs.getD 1 0 := ⟨_, rfl⟩
      obtain ⟨f, ef⟩ : ∃ f, f = xs.getD 2 0 := ⟨_, rfl⟩
      obtain ⟨x, ex⟩ : ∃ x, x = ys.getD 0 0 := ⟨_, rfl⟩
      obtain ⟨y, ey⟩ : ∃ y, y = ys.getD 1 0 := ⟨_, rfl⟩
      obtain ⟨z, ez⟩ : ∃ z, z = ys.getD 2 0 := ⟨_, rfl⟩
      rw [← ea] at k0 HS p1 p2 p5
      rw [← ee] at k1 HS p2 p3 p5
      rw [← ef] at k2 HS p3 p4 p5
      rw [← ex] at j0 HS q1 q2 q5
      rw [← ey] at j1 HS q2 q3 q5
      rw [← ez] at j2 HS q3 q4 q5
      have m1 := mul_bd (a := a) (b := y) (A := 60) (B := 60) (by omega) (by omega) (by omega) (by omega)
      have m2 := mul_bd (a := e) (b := x) (A := 60) (B := 60) (by omega) (by omega) (by omega) (by omega)
      have m3 := mul_bd (a := a) (b := z) (A := 60) (B := 60) (by omega) (by omega) (by omega) (by omega)
      have m4 := mul_bd (a := f) (b := x) (A := 60) (B := 60) (by omega) (by omega) (by omega) (by omega)
      have w1 : IntKind.i64.wrap (a * y) = a * y := wrap_is rfl (by omega) (by omega)
      have w2 : IntKind.i64.wrap (e * x) = e * x := wrap_is rfl (by omega) (by omega)
      have w3 : IntKind.i64.wrap (a * z) = a * z := wrap_is rfl (by omega) (by omega)
      have w4 : IntKind.i64.wrap (f * x) = f * x := wrap_is rfl (by omega) (by omega)
      clear ht ht2 h h2 hc hc2 ea ee ef ex ey ez l1 l2
      by_cases e1 : a * y = e * x
      · by_cases e2 : a * z = f * x
        · have d1 : (a * y == e * x) = true := by simpa using e1
          have d2 : (a * z == f * x) = true := by simpa using e2
          have HR := Lib.hid (HS.out.trans (show (decide (a * y = e * x) && decide (a * z = f * x)) = true by rw [decide_eq_true e1, decide_eq_true e2]; rfl))
          clear e1 e2 HS
          go_enter Try.func85, Try.ntmps85
          go_wp2_with fail
          refine wp_region_quiet_below (by kernel_rfl) (by kernel_rfl) ?_
          repeat (go_big_quiet_step (first | (with_reducible exact cX _ _) | (with_reducible exact cY _ _)))
          refine wpQuiet_nil ?_
          intro _ hw'
          obtain ⟨⟨dq, osq⟩, hw''⟩ := hw'
          subst hw''
          have bq := below_regrown w dq osq
          generalize Go.Sort.grow (redrawn w dq) osq = wq at bq ⊢
          go_wp2_with fail
          go_ret
          exact ⟨ret_b HR.out.symm, bq⟩
        · have d1 : (a * y == e * x) = true := by simpa using e1
          have d2 : (a * z == f * x) = false := by simpa using e2
          have HR := Lib.hid (HS.out.trans (show (decide (a * y = e * x) && decide (a * z = f * x)) = false by rw [decide_eq_false e2]; simp))
          clear e1 e2 HS
          go_enter Try.func85, Try.ntmps85
          go_wp2_with fail
          refine wp_region_quiet_below (by kernel_rfl) (by kernel_rfl) ?_
          repeat (go_big_quiet_step (first | (with_reducible exact cX _ _) | (with_reducible exact cY _ _)))
          refine wpQuiet_nil ?_
          intro _ hw'
          obtain ⟨⟨dq, osq⟩, hw''⟩ := hw'
          subst hw''
          have bq := below_regrown w dq osq
          generalize Go.Sort.grow (redrawn w dq) osq = wq at bq ⊢
          go_wp2_with fail
          go_ret
          exact ⟨ret_b HR.out.symm, bq⟩
      · have d1 : (a * y == e * x) = false := by simpa using e1
        have HR := Lib.hid (HS.out.trans (show (decide (a * y = e * x) && decide (a * z = f * x)) = false by rw [decide_eq_false e1]; rfl))
        clear e1 HS
        go_enter Try.func85, Try.ntmps85
        go_wp2_with fail
        refine wp_region_quiet_below (by kernel_rfl) (by kernel_rfl) ?_
        repeat (go_big_quiet_step (first | (with_reducible exact cX _ _) | (with_reducible exact cY _ _)))
        refine wpQuiet_nil ?_
        intro _ hw'
        obtain ⟨⟨dq, osq⟩, hw''⟩ := hw'
        subst hw''
        have bq := below_regrown w dq osq
        generalize Go.Sort.grow (redrawn w dq) osq = wq at bq ⊢
        go_wp2_with fail
        go_ret
        exact ⟨ret_b HR.out.symm, bq⟩
    · rw [Bool.not_eq_true] at ht2
      rw [ht2] at cY
      have HR := Lib.hid (samB_no2 (xs := xs) ht2)
      clear ht ht2 h h2
      go_enter Try.func85, Try.ntmps85
      go_wp2_with fail
      refine wp_region_quiet_below (by kernel_rfl) (by kernel_rfl) ?_
      repeat (go_big_quiet_step (first | (with_reducible exact cX _ _) | (with_reducible exact cY _ _)))
      refine wpQuiet_nil ?_
      intro _ hw'
      obtain ⟨⟨dq, osq⟩, hw''⟩ := hw'
      subst hw''
      have bq := below_regrown w dq osq
      generalize Go.Sort.grow (redrawn w dq) osq = wq at bq ⊢
      go_wp2_with fail
      go_ret
      exact ⟨ret_b HR.out.symm, bq⟩
  · rw [Bool.not_eq_true] at ht
    rw [ht] at cX
    have HR := Lib.hid (samB_no1 (ys := ys) ht)
    clear ht h h2 cY
    go_enter Try.func85, Try.ntmps85
    go_wp2_with fail
    refine wp_region_quiet_below (by kernel_rfl) (by kernel_rfl) ?_
    repeat (go_big_quiet_step (with_reducible exact cX _ _))
    refine wpQuiet_nil ?_
    intro _ hw'
    obtain ⟨⟨dq, osq⟩, hw''⟩ := hw'
    subst hw''
    have bq := below_regrown w dq osq
    generalize Go.Sort.grow (redrawn w dq) osq = wq at bq ⊢
    go_wp2_with fail
    go_ret
    exact ⟨ret_b HR.out.symm, bq⟩
end Go.Proofs.Ytcfmnjkgebopcaa
