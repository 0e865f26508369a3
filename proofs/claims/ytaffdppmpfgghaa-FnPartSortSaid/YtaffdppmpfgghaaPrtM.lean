/- The program's greatest number of threes: PartMost. -/
import Derived.Test.YtaffdppmpfgghaaPrtW
namespace Go.Proofs.Ytaffdppmpfgghaa
open Go.RowKit Go.Sort Go.Lib Go.Shelf
attribute [local go_sem] Oper.semAt_some

/-- The greater number. -/
def accM (s : Int) (l : List Int) : Int := max s (thrL l)
theorem accM_all (L : List (List Int)) (s : Int) : L.foldl accM s = mxR thrL L s := rfl
theorem pl_small {Q : Tri → Bool} {n : Nat} {l : List Int} (hn : n ≤ 9) (h : ∃ m, PL Q n l m) : ∀ j, j < l.length → -1 ≤ l.getD j 0 ∧ l.getD j 0 ≤ 1000 := fun j hj => by
  obtain ⟨m, h⟩ := h
  have h1 := h.rng j (by rw [← h.len]; exact hj)
  have h2 := h.le
  omega
set_option maxRecDepth 100000 in
set_option maxHeartbeats 4000000 in
theorem partMost1_any (bx b off n c : Nat) (l : List Int) (s : Int) (W : World) (hR : Rd W (some ⟨b, off, none⟩) n l) (hn1 : 1 ≤ n) (hn : n ≤ 9) (hl : ∀ j, j < l.length → -1 ≤ l.getD j 0 ∧ l.getD j 0 ≤ 1000) (hj : bxJ bx s W) :
    Calls Try.prog 114 #[.slice (some ⟨b, off, none⟩) n c, .pointer (some ⟨bx, 0, none⟩)] W fun e w' => e = .returned (.tuple #[]) ∧ bxJ bx (accM s l) w' ∧ W.grownBy w' (some bx) := by
  have HT := Lib.hid (fun W' (hW : Below W.heap.size W W') => threes_any (some ⟨b, off, none⟩) n c l W' (hR.same hW) hn1 (by omega) hl)
  obtain ⟨z, ez⟩ : ∃ z, z = thrL l := ⟨_, rfl⟩
  rw [← ez] at HT
  have HA := Lib.hid (show accM s l = max s z by rw [ez]; rfl)
  have HJ := Lib.hid hj
  have y0 := cell_regrown hj.cell
  have cT : ∀ r d os, CallsIn Fence.wide r Try.prog 115 #[.slice (some ⟨b, off, none⟩) n c] (grow (redrawn W d) os) fun e w'' => e = .returned (.int .i64 z) ∧ ∃ p : Regrown, w'' = grow (redrawn W p.d) p.os := fun r d os => CallsIn.regrown_of (callsIn_wide.2 (HT.out _ (below_regrown W d os)))
  have hfn : Fence.wide.fn 115 := trivial
  clear hR hl hj ez
  refine (callsIn_wide (n := 5)).1 ?_
  refine callsIn_of_wp Try.func114 rfl trivial ?_ rfl
  simp only [Try.ntmps114, List.size_toArray, List.length_cons, List.length_nil, Nat.reduceAdd, Nat.reduceSub, Array.replicate_succ, Array.replicate_zero, List.push_toArray, List.append_toArray, List.nil_append, List.cons_append]
  gi_wp2_with fail
  refine region_qtail 3 (by kernel_rfl) (by kernel_rfl) ?_
  simp only [List.take_succ_cons, List.take_zero, List.drop_succ_cons, List.drop_zero]
  repeat (quiet_step_in (with_reducible exact cT _ _ _))
  refine wpQuietIn_nil ?_
  intro _ hw'
  obtain ⟨⟨dq, osq⟩, hw''⟩ := hw'
  subst hw''
  have bq := below_regrown W dq osq
  generalize grow (redrawn W dq) osq = wq at bq ⊢
  have hbx : bxJ bx s wq := Boxed.kept HJ.out (grown_of_below bq) (by simp)
  have hc := hbx.cell
  have hf := hbx.frozen
  have HB := Lib.hid hbx
  have HG := Lib.hid (grown_weak (grown_of_below bq) (some bx))
  clear hbx bq y0 cT
  gi_wp2_with fail
  all_goals go_end0
  all_goals
    refine ⟨rfl, ?_, HG.out.trans (grownBy_setCell' _ _ _)⟩
    rw [HA.out]
    first
      | (rw [Int.max_eq_right (by omega)]; exact HB.out.set _)
      | (rw [Int.max_eq_left (by omega)]; exact HB.out.set _)
/-- What PartMost tells. -/
noncomputable def mostB (xs : List Int) : Int := if bundleB xs = true then mstP (cloQ xs) xs.length else 0
theorem mostB_yes {xs : List Int} (h : bundleB xs = true) : mostB xs = mstP (cloQ xs) xs.length := by unfold mostB; rw [if_pos h]
theorem mostB_no {xs : List Int} (h : bundleB xs = false) : mostB xs = 0 := by unfold mostB; rw [h]; rfl

set_option maxRecDepth 100000 in
set_option maxHeartbeats 2000000 in
theorem implPartMost_any (A : Option Addr) (n c : Nat) (xs : List Int) (w : World) (h : Rd w A n xs) (hn : n ≤ 1048576) :
    Calls Try.prog 59 #[.slice A n c] w fun e w' => e = .returned (.tuple #[.int .i64 (mostB xs), .bool (bundleB xs)]) ∧ Below w.heap.size w w' := by
  by_cases hb : bundleB xs = true
  · have HM := Lib.hid (mostB_yes hb)
    have HB := Lib.hid hb
    have hbd := bundleB_true hb
    have hn9 : n ≤ 9 := by rw [← h.1]; exact hbd.2.1
    have hn1 : 1 ≤ n := by rw [← h.1]; exact hbd.1
    have hz := hbd.2.2.1
    rw [h.1] at hz HM
    obtain ⟨b, off, rfl, _, _⟩ := h.2 hn1
    have HZ := Lib.hid hz
    have HR := Lib.hid h
    clear hb hbd hz h
    go_enter Try.func59, Try.ntmps59
    go_wp2_with fail
    refine (valid_any _ _ _ xs _ HR.out hn).mono ?_
    rintro e w1 ⟨rfl, b1⟩
    rw [HB.out]
    go_wp2_with fail
    have hb2 : Below w1.heap.size w1 (w1.alloc (.cells #[.int .i64 0] 3)) := below_alloc (Below.refl _ _) _
    have hbx : bxJ w1.heap.size 0 (w1.alloc (.cells #[.int .i64 0] 3)) := Boxed.new w1 3 (.int .i64 0)
    have HV := Lib.hid (visitParts_any w w.heap.size w1.heap.size (bxJ w1.heap.size) accM 0 114 #[.pointer (some ⟨w1.heap.size, 0, none⟩)] b off n c xs (w1.alloc (.cells #[.int .i64 0] 3)) ((HR.out.same b1).same hb2) hn1 hn9 HZ.out
      (bxJ_stable (by simp)) ⟨b1.size, by simp⟩ (Nat.le_trans b1.size hb2.size) (below_then b1 hb2) hbx
      (fun l s W b off c hp hR hj => partMost1_any w1.heap.size b off n c l s W hR hn1 hn9 (pl_small hn9 hp) hj) (enters_of Try.func114 (by kernel_rfl) rfl))
    have hs1 := b1.size
    clear hb2 hbx b1
    refine HV.out.mono ?_
    rintro e w2 ⟨rfl, hj2, b2⟩
    rw [show (visP 0 (noP n) (triP (cloQ xs) n)).foldl accM 0 = mostB xs from HM.out.symm] at hj2
    have hc := hj2.cell
    have HB2 := Lib.hid b2
    clear hj2 b2
    go_wp2_with fail
    go_ret2
    exact ⟨ret_ib2 HB.out, HB2.out⟩
  · rw [Bool.not_eq_true] at hb
    have HM := Lib.hid (mostB_no hb)
    have HB := Lib.hid hb
    clear hb
    go_enter Try.func59, Try.ntmps59
    go_wp2_with fail
    refine (valid_any _ _ _ xs _ h hn).mono ?_
    rintro e w1 ⟨rfl, b1⟩
    rw [HB.out]
    go_wp2_with fail
    go_ret2
    exact ⟨by rw [HB.out, HM.out]; rfl, b1⟩
end Go.Proofs.Ytaffdppmpfgghaa
