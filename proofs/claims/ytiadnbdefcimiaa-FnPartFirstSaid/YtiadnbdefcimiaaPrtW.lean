/- Joined: PrtW, PrtM. -/
import Derived.Test.YtiadnbdefcimiaaVisP
import Derived.Test.YtiadnbdefcimiaaPrtI
import Derived.Test.YtiadnbdefcimiaaMany
/- The program's counts of ways: PartWays, PartMay. -/
namespace Go.Proofs.Ytiadnbdefcimiaa
open Go.RowKit Go.Sort Go.Lib

theorem grown_weak {W W' : World} (h : W.grownBy W' none) (row : Option Nat) : W.grownBy W' row := { h with block := fun k hk _ => h.block k hk (by simp) }
abbrev bxJ (bx : Nat) (s : Int) (W : World) : Prop := Boxed W bx 3 (.int .i64 s)
theorem bxJ_stable {bx k : Nat} (hk : bx < k) : ∀ (s : Int) (W W' : World), bxJ bx s W → ∀ row, W.grownBy W' row → (∀ r, row = some r → k ≤ r) → bxJ bx s W' := fun s W W' h row hg hr =>
  Boxed.kept h hg (fun e => by have := hr bx e.symm; omega)
/-- One way more. -/
def accW (s : Int) (l : List Int) : Int := if whlB l = true then IntKind.i64.wrap (s + 1) else s
theorem accW_all : ∀ (L : List (List Int)) (s : Nat), s + L.countP whlB ≤ 1000000 → L.foldl accW (s : Int) = ((s + L.countP whlB : Nat) : Int)
  | [], s, _ => by simp
  | l :: L, s, h => by
    rw [List.foldl_cons]
    rw [List.countP_cons] at h ⊢
    by_cases hw : whlB l = true
    · rw [if_pos hw] at h ⊢
      rw [show accW (s : Int) l = ((s + 1 : Nat) : Int) by unfold accW; rw [if_pos hw]; exact wrap_is (by omega) (by omega) (by omega), accW_all L (s + 1) (by omega)]
      congr 1; omega
    · rw [if_neg hw] at h ⊢
      rw [show accW (s : Int) l = (s : Int) by unfold accW; rw [if_neg hw], accW_all L s (by omega), Nat.add_zero]
set_option maxHeartbeats 1000000 in
theorem partWays1_any (bx b off n c : Nat) (l : List Int) (s : Int) (W : World) (hR : Rd W (some ⟨b, off, none⟩) n l) (hn : n ≤ 9) (hj : bxJ bx s W) :
    Calls Try.prog 56 #[.slice (some ⟨b, off, none⟩) n c, .pointer (some ⟨bx, 0, none⟩)] W fun e w' => e = .returned (.tuple #[]) ∧ bxJ bx (accW s l) w' ∧ W.grownBy w' (some bx) := by
  have HW := Lib.hid (whole_any (some ⟨b, off, none⟩) n c l W hR (by omega))
  have HA := Lib.hid (show accW s l = if whlB l = true then IntKind.i64.wrap (s + 1) else s from rfl)
  have HJ := Lib.hid hj
  clear hR hj
  generalize hb : whlB l = bz at *
  obtain ⟨z, ez⟩ : ∃ z, z = IntKind.i64.wrap (s + 1) := ⟨_, rfl⟩
  rw [← ez] at HA
  have v1 := ez.symm
  clear ez
  go_enter Try.func56, Try.ntmps56
  go_wp2_with fail
  refine HW.out.mono ?_
  rintro e w2 ⟨rfl, b2⟩
  have hbx : bxJ bx s w2 := Boxed.kept HJ.out (grown_of_below b2) (by simp)
  have hc := hbx.cell
  have hf := hbx.frozen
  have HB := Lib.hid hbx
  have HG := Lib.hid (grown_weak (grown_of_below b2) (some bx))
  clear hbx b2
  cases bz with
  | true =>
    go_wp2_with fail
    go_end0
    refine ⟨rfl, ?_, HG.out.trans (grownBy_setCell' _ _ _)⟩
    have this : accW s l = z := by simpa using HA.out
    rw [this]
    exact HB.out.set _
  | false =>
    go_wp2_with fail
    go_end0
    refine ⟨rfl, ?_, HG.out⟩
    have this : accW s l = s := by simpa using HA.out
    rw [this]
    exact HB.out
/-- What PartWays tells. -/
noncomputable def waysM (xs : List Int) : Int := if bundleB xs = true then (wayP (cloQ xs) xs.length : Int) else 0
theorem waysM_yes {xs : List Int} (h : bundleB xs = true) : waysM xs = (wayP (cloQ xs) xs.length : Int) := by unfold waysM; rw [if_pos h]
theorem waysM_no {xs : List Int} (h : bundleB xs = false) : waysM xs = 0 := by unfold waysM; rw [h]; rfl

set_option maxRecDepth 100000 in
set_option maxHeartbeats 2000000 in
theorem implPartWays_any (A : Option Addr) (n c : Nat) (xs : List Int) (w : World) (h : Rd w A n xs) (hn : n ≤ 1048576) :
    Calls Try.prog 23 #[.slice A n c] w fun e w' => e = .returned (.tuple #[.int .i64 (waysM xs), .bool (bundleB xs)]) ∧ Below w.heap.size w w' := by
  by_cases hb : bundleB xs = true
  · have HM := Lib.hid (waysM_yes hb)
    have HB := Lib.hid hb
    have hbd := bundleB_true hb
    have hn9 : n ≤ 9 := by rw [← h.1]; exact hbd.2.1
    have hn1 : 1 ≤ n := by rw [← h.1]; exact hbd.1
    have hz := hbd.2.2.1
    rw [h.1] at hz
    have hA := accW_all (visP 0 (noP n) (triP (cloQ xs) n)) 0 (by rw [ways_is]; have := wayP_le (Q := cloQ xs) hn9; omega)
    rw [ways_is, Nat.zero_add] at hA
    rw [h.1] at HM
    have HAA := Lib.hid hA
    obtain ⟨b, off, rfl, _, _⟩ := h.2 hn1
    have HZ := Lib.hid hz
    have HR := Lib.hid h
    clear hb hbd hA hz h
    go_enter Try.func23, Try.ntmps23
    go_wp2_with fail
    refine (valid_any _ _ _ xs _ HR.out hn).mono ?_
    rintro e w1 ⟨rfl, b1⟩
    rw [HB.out]
    go_wp2_with fail
    have hb2 : Below w1.heap.size w1 (w1.alloc (.cells #[.int .i64 0] 3)) := below_alloc (Below.refl _ _) _
    have hbx : bxJ w1.heap.size 0 (w1.alloc (.cells #[.int .i64 0] 3)) := Boxed.new w1 3 (.int .i64 0)
    have HV := Lib.hid (visitParts_any w w.heap.size w1.heap.size (bxJ w1.heap.size) accW 0 56 #[.pointer (some ⟨w1.heap.size, 0, none⟩)] b off n c xs (w1.alloc (.cells #[.int .i64 0] 3)) ((HR.out.same b1).same hb2) hn1 hn9 HZ.out
      (bxJ_stable (by simp)) ⟨b1.size, by simp⟩ (Nat.le_trans b1.size hb2.size) (below_then b1 hb2) hbx
      (fun l s W b off c _ hR hj => partWays1_any w1.heap.size b off n c l s W hR hn9 hj) (enters_of Try.func56 (by kernel_rfl) rfl))
    have hs1 := b1.size
    clear hb2 hbx b1
    refine HV.out.mono ?_
    rintro e w2 ⟨rfl, hj2, b2⟩
    rw [show (visP 0 (noP n) (triP (cloQ xs) n)).foldl accW 0 = ((wayP (cloQ xs) n : Nat) : Int) from HAA.out, ← HM.out] at hj2
    have hc := hj2.cell
    have HB2 := Lib.hid b2
    clear hj2 b2
    go_wp2_with fail
    go_ret2
    exact ⟨ret_ib2 HB.out, HB2.out⟩
  · rw [Bool.not_eq_true] at hb
    have HM := Lib.hid (waysM_no hb)
    have HB := Lib.hid hb
    clear hb
    go_enter Try.func23, Try.ntmps23
    go_wp2_with fail
    refine (valid_any _ _ _ xs _ h hn).mono ?_
    rintro e w1 ⟨rfl, b1⟩
    rw [HB.out]
    go_wp2_with fail
    go_ret2
    exact ⟨by rw [HB.out, HM.out]; rfl, b1⟩
/-- Whether there is a way. -/
noncomputable def mayM (xs : List Int) : Bool := bundleB xs && decide (0 < waysM xs)
theorem implPartMay_any (A : Option Addr) (n c : Nat) (xs : List Int) (w : World) (h : Rd w A n xs) (hn : n ≤ 1048576) :
    Calls Try.prog 17 #[.slice A n c] w fun e w' => e = .returned (.bool (mayM xs)) ∧ Below w.heap.size w w' := by
  have HW := Lib.hid (implPartWays_any A n c xs w h hn)
  have HM := Lib.hid (show mayM xs = (bundleB xs && decide (0 < waysM xs)) from rfl)
  generalize hb : bundleB xs = bz at *
  generalize waysM xs = z at *
  clear h hb
  cases bz with
  | true =>
    go_enter Try.func17, Try.ntmps17
    go_wp2_with fail
    refine HW.out.mono ?_
    rintro e w2 ⟨rfl, b2⟩
    go_wp2_with fail
    go_ret
    exact ⟨by rw [HM.out]; rfl, b2⟩
  | false =>
    go_enter Try.func17, Try.ntmps17
    go_wp2_with fail
    refine HW.out.mono ?_
    rintro e w2 ⟨rfl, b2⟩
    go_wp2_with fail
    go_ret
    exact ⟨by rw [HM.out]; rfl, b2⟩
end Go.Proofs.Ytiadnbdefcimiaa

/- The program's greatest number of threes: PartMost. -/
namespace Go.Proofs.Ytiadnbdefcimiaa
open Go.RowKit Go.Sort Go.Lib Go.Shelf
attribute [local go_sem] Oper.semAt_some

/-- The greater number. -/
def accM (s : Int) (l : List Int) : Int := max s (thrL l)
theorem accM_all (L : List (List Int)) (s : Int) : L.foldl accM s = mxR thrL L s := rfl
theorem pl_small {Q : Tri → Bool} {n : Nat} {l : List Int} (hn : n ≤ 9) (h : ∃ m, PL Q n l m) : ∀ j, j < l.length → -1 ≤ l.getD j 0 ∧ l.getD j 0 ≤ 1000 := fun j hj => by
  obtain ⟨m, h⟩ := h
  have h1 := h.rng j (by rw [← h.len]; exact hj)
  have h2 := h.le
  omega
set_option maxRecDepth 100000 in
set_option maxHeartbeats 4000000 in
theorem partMost1_any (bx b off n c : Nat) (l : List Int) (s : Int) (W : World) (hR : Rd W (some ⟨b, off, none⟩) n l) (hn1 : 1 ≤ n) (hn : n ≤ 9) (hl : ∀ j, j < l.length → -1 ≤ l.getD j 0 ∧ l.getD j 0 ≤ 1000) (hj : bxJ bx s W) :
    Calls Try.prog 51 #[.slice (some ⟨b, off, none⟩) n c, .pointer (some ⟨bx, 0, none⟩)] W fun e w' => e = .returned (.tuple #[]) ∧ bxJ bx (accM s l) w' ∧ W.grownBy w' (some bx) := by
  have HT := Lib.hid (fun W' (hW : Below W.heap.size W W') => threes_any (some ⟨b, off, none⟩) n c l W' (hR.same hW) hn1 (by omega) hl)
  obtain ⟨z, ez⟩ : ∃ z, z = thrL l := ⟨_, rfl⟩
  rw [← ez] at HT
  have HA := Lib.hid (show accM s l = max s z by rw [ez]; rfl)
  have HJ := Lib.hid hj
  have y0 := cell_regrown hj.cell
  have cT : ∀ r d os, CallsIn Fence.wide r Try.prog 52 #[.slice (some ⟨b, off, none⟩) n c] (grow (redrawn W d) os) fun e w'' => e = .returned (.int .i64 z) ∧ ∃ p : Regrown, w'' = grow (redrawn W p.d) p.os := fun r d os => CallsIn.regrown_of (callsIn_wide.2 (HT.out _ (below_regrown W d os)))
  have hfn : Fence.wide.fn 52 := trivial
  clear hR hl hj ez
  refine (callsIn_wide (n := 5)).1 ?_
  refine callsIn_of_wp Try.func51 rfl trivial ?_ rfl
  simp only [Try.ntmps51, List.size_toArray, List.length_cons, List.length_nil, Nat.reduceAdd, Nat.reduceSub, Array.replicate_succ, Array.replicate_zero, List.push_toArray, List.append_toArray, List.nil_append, List.cons_append]
  gi_wp2_with fail
  refine region_qtail 3 (by kernel_rfl) (by kernel_rfl) ?_
  simp only [List.take_succ_cons, List.take_zero, List.drop_succ_cons, List.drop_zero]
  repeat (quiet_step_in (with_reducible exact cT _ _ _))
  refine wpQuietIn_nil ?_
  intro _ hw'
  obtain ⟨⟨dq, osq⟩, hw''⟩ := hw'
  subst hw''
  have bq := below_regrown W dq osq
  generalize grow (redrawn W dq) osq = wq at bq ⊢
  have hbx : bxJ bx s wq := Boxed.kept HJ.out (grown_of_below bq) (by simp)
  have hc := hbx.cell
  have hf := hbx.frozen
  have HB := Lib.hid hbx
  have HG := Lib.hid (grown_weak (grown_of_below bq) (some bx))
  clear hbx bq y0 cT
  gi_wp2_with fail
  all_goals go_end0
  all_goals
    refine ⟨rfl, ?_, HG.out.trans (grownBy_setCell' _ _ _)⟩
    rw [HA.out]
    first
      | (rw [Int.max_eq_right (by omega)]; exact HB.out.set _)
      | (rw [Int.max_eq_left (by omega)]; exact HB.out.set _)
/-- What PartMost tells. -/
noncomputable def mostB (xs : List Int) : Int := if bundleB xs = true then mstP (cloQ xs) xs.length else 0
theorem mostB_yes {xs : List Int} (h : bundleB xs = true) : mostB xs = mstP (cloQ xs) xs.length := by unfold mostB; rw [if_pos h]
theorem mostB_no {xs : List Int} (h : bundleB xs = false) : mostB xs = 0 := by unfold mostB; rw [h]; rfl

set_option maxRecDepth 100000 in
set_option maxHeartbeats 2000000 in
theorem implPartMost_any (A : Option Addr) (n c : Nat) (xs : List Int) (w : World) (h : Rd w A n xs) (hn : n ≤ 1048576) :
    Calls Try.prog 19 #[.slice A n c] w fun e w' => e = .returned (.tuple #[.int .i64 (mostB xs), .bool (bundleB xs)]) ∧ Below w.heap.size w w' := by
  by_cases hb : bundleB xs = true
  · have HM := Lib.hid (mostB_yes hb)
    have HB := Lib.hid hb
    have hbd := bundleB_true hb
    have hn9 : n ≤ 9 := by rw [← h.1]; exact hbd.2.1
    have hn1 : 1 ≤ n := by rw [← h.1]; exact hbd.1
    have hz := hbd.2.2.1
    rw [h.1] at hz HM
    obtain ⟨b, off, rfl, _, _⟩ := h.2 hn1
    have HZ := Lib.hid hz
    have HR := Lib.hid h
    clear hb hbd hz h
    go_enter Try.func19, Try.ntmps19
    go_wp2_with fail
    refine (valid_any _ _ _ xs _ HR.out hn).mono ?_
    rintro e w1 ⟨rfl, b1⟩
    rw [HB.out]
    go_wp2_with fail
    have hb2 : Below w1.heap.size w1 (w1.alloc (.cells #[.int .i64 0] 3)) := below_alloc (Below.refl _ _) _
    have hbx : bxJ w1.heap.size 0 (w1.alloc (.cells #[.int .i64 0] 3)) := Boxed.new w1 3 (.int .i64 0)
    have HV := Lib.hid (visitParts_any w w.heap.size w1.heap.size (bxJ w1.heap.size) accM 0 51 #[.pointer (some ⟨w1.heap.size, 0, none⟩)] b off n c xs (w1.alloc (.cells #[.int .i64 0] 3)) ((HR.out.same b1).same hb2) hn1 hn9 HZ.out
      (bxJ_stable (by simp)) ⟨b1.size, by simp⟩ (Nat.le_trans b1.size hb2.size) (below_then b1 hb2) hbx
      (fun l s W b off c hp hR hj => partMost1_any w1.heap.size b off n c l s W hR hn1 hn9 (pl_small hn9 hp) hj) (enters_of Try.func51 (by kernel_rfl) rfl))
    have hs1 := b1.size
    clear hb2 hbx b1
    refine HV.out.mono ?_
    rintro e w2 ⟨rfl, hj2, b2⟩
    rw [show (visP 0 (noP n) (triP (cloQ xs) n)).foldl accM 0 = mostB xs from HM.out.symm] at hj2
    have hc := hj2.cell
    have HB2 := Lib.hid b2
    clear hj2 b2
    go_wp2_with fail
    go_ret2
    exact ⟨ret_ib2 HB.out, HB2.out⟩
  · rw [Bool.not_eq_true] at hb
    have HM := Lib.hid (mostB_no hb)
    have HB := Lib.hid hb
    clear hb
    go_enter Try.func19, Try.ntmps19
    go_wp2_with fail
    refine (valid_any _ _ _ xs _ h hn).mono ?_
    rintro e w1 ⟨rfl, b1⟩
    rw [HB.out]
    go_wp2_with fail
    go_ret2
    exact ⟨by rw [HB.out, HM.out]; rfl, b1⟩
end Go.Proofs.Ytiadnbdefcimiaa
