/- The model's areas and rims. -/
import Derived.Test.YtkjhkcnmhakfcaaPathS2
namespace Go.Proofs.Ytkjhkcnmhakfcaa
open Go.RowKit Go.Sort Go.Lib

theorem cor_sq {l : List Pt} (h : IsPath l) {i j : Nat} (hi : i ≤ l.length) (hj : j ≤ l.length) : ∀ a b : Int, (a = (cor l i).1 ∨ a = (cor l i).2) → (b = (cor l j).1 ∨ b = (cor l j).2) → -1000000 ≤ a * b ∧ a * b ≤ 1000000 := fun a b ha hb => by
  have h1 := h.bd72 hi
  have h2 := h.bd72 hj
  have := mul_sq (a := a) (b := b) (A := 72) (B := 72) (by rcases ha with rfl | rfl <;> omega) (by rcases ha with rfl | rfl <;> omega) (by rcases hb with rfl | rfl <;> omega) (by rcases hb with rfl | rfl <;> omega)
  omega

set_option maxRecDepth 100000 in
set_option maxHeartbeats 4000000 in
theorem l6sArea_any (A : Option Addr) (n c : Nat) (L : List (List Int)) (w : World) (h : RdM w A n L) (hp : pathB L = true) :
    Calls Try.prog 83 #[.slice A n c] w fun e w' => e = .returned (.int .i64 (areaP (ptsL L))) ∧ Below w.heap.size w w' := by
  have hK := l6sCorners_any A n c L w h hp
  obtain ⟨hP, hst⟩ := pathB_true hp
  have hl : (ptsL L).length = n := by simp [h.1]
  have hn8 : n ≤ 8 := by have := hP.hi; omega
  have hn3 : 3 ≤ n := by have := hP.lo; omega
  generalize ptsL L = l at *
  obtain ⟨F, eF⟩ : ∃ F : Nat → Int, F = fun i => crs (cor l i) (cor l ((i + 1) % l.length)) := ⟨_, rfl⟩
  have hA : areaP l = sumF F n := by rw [eF, ← hl]; rfl
  rw [hA]
  have HF := Lib.hid eF
  have HP := Lib.hid hP
  have HL := Lib.hid hl
  have hbd : ∀ k, k ≤ n → -82944 ≤ sumF F k ∧ sumF F k ≤ 82944 := fun k hk => by rw [eF]; exact areaP_part_bd hP (by omega)
  have HBd := Lib.hid hbd
  clear h hp hst hA hP hl eF hbd
  go_enter Try.func83, Try.ntmps83
  go_wp2_with fail
  refine hK.mono ?_
  rintro e w1 ⟨A1, c1, rfl, ⟨gs, ho⟩, hb1⟩
  have HO := Lib.hid ho
  have HB1 := Lib.hid hb1
  clear hK ho hb1
  go_wp2_with fail
  go_loopw [3, 5] (fun v i wr => ∃ k : Nat, k ≤ n ∧ i = .int .i64 k ∧ v = .int .i64 (sumF F k) ∧ Below w1.heap.size w1 wr) (fun _ i _ => n - (intOf i).toNat)
  case atStart => exact ⟨0, Nat.zero_le _, rfl, rfl, Below.refl _ _⟩
  case round =>
    obtain ⟨k, hk, rfl, rfl, hb⟩ := hrel
    by_cases hlt : k < n
    · have hm : (k + 1) % n < n := Nat.mod_lt _ (by omega)
      have ho := HO.out.same hb
      obtain ⟨g, rfl, _, _, hc1⟩ := ho.at_ hlt
      obtain ⟨g', e, _, _, hc2⟩ := ho.at_ hm
      cases e
      have r1 := (ho.rows k (by rw [rowsOf_len, corL_len, HL.out]; exact hlt)).2.rd
      have r2 := (ho.rows ((k + 1) % n) (by rw [rowsOf_len, corL_len, HL.out]; exact hm)).2.rd
      have e1 : rowL (rowsOf (corL l)) k = ptRow (cor l k) := by rw [rowsOf_at (by rw [corL_len, HL.out]; exact hlt), corL_at (by rw [HL.out]; exact hlt)]
      have e2 : rowL (rowsOf (corL l)) ((k + 1) % n) = ptRow (cor l ((k + 1) % n)) := by rw [rowsOf_at (by rw [corL_len, HL.out]; exact hm), corL_at (by rw [HL.out]; exact hm)]
      rw [e1] at hc1 r1
      rw [e2] at hc2 r2
      have hF : F k = crs (cor l k) (cor l ((k + 1) % n)) := by rw [HF.out, HL.out]
      have hsq := cor_sq HP.out (i := k) (j := (k + 1) % n) (by rw [HL.out]; omega) (by rw [HL.out]; omega)
      have hC := fun W (h1 : Rd W (some ⟨gs.getD k 0, 0, none⟩) 2 (ptRow (cor l k))) (h2 : Rd W (some ⟨gs.getD ((k + 1) % n) 0, 0, none⟩) 2 (ptRow (cor l ((k + 1) % n)))) => l6sCross_any (some ⟨gs.getD k 0, 0, none⟩) (some ⟨gs.getD ((k + 1) % n) 0, 0, none⟩) 2 2 (ptRow (cor l k)) (ptRow (cor l ((k + 1) % n))) W h1 h2 hsq
      have hv : ∀ W, Rd W (some ⟨gs.getD k 0, 0, none⟩) 2 (ptRow (cor l k)) → Rd W (some ⟨gs.getD ((k + 1) % n) 0, 0, none⟩) 2 (ptRow (cor l ((k + 1) % n))) → Calls Try.prog 97 #[.slice (some ⟨gs.getD k 0, 0, none⟩) 2 2, .slice (some ⟨gs.getD ((k + 1) % n) 0, 0, none⟩) 2 2] W fun e w' => e = .returned (.int .i64 (F k)) ∧ Below W.heap.size W w' := fun W h1 h2 => by rw [hF]; exact hC W h1 h2
      have cE : ∀ d os, Calls Try.prog 97 #[.slice (some ⟨gs.getD k 0, 0, none⟩) 2 2, .slice (some ⟨gs.getD ((k + 1) % n) 0, 0, none⟩) 2 2] (grow (redrawn wr d) os) fun e w'' => e = .returned (.int .i64 (F k)) ∧ ∃ p : Regrown, w'' = grow (redrawn wr p.d) p.os := fun d os =>
        Calls.regrown_of (hv _ (r1.same (below_regrown wr d os)) (r2.same (below_regrown wr d os)))
      have y1 : ∀ d os, (grow (redrawn wr d) os).cell? ⟨g, k, none⟩ = some (.slice (some ⟨gs.getD k 0, 0, none⟩) 2 2) := fun d os => cell_regrown hc1 d os
      have y2 : ∀ d os, (grow (redrawn wr d) os).cell? ⟨g, (k + 1) % n, none⟩ = some (.slice (some ⟨gs.getD ((k + 1) % n) 0, 0, none⟩) 2 2) := fun d os => cell_regrown hc2 d os
      have b1 := HBd.out k (by omega)
      have b2 := HBd.out (k + 1) (by omega)
      have HSn := Lib.hid (show sumF F (k + 1) = sumF F k + F k from rfl)
      rw [HSn.out] at b2
      have v1 : IntKind.i64.wrap (sumF F k + F k) = sumF F k + F k := wrap_is rfl (by omega) (by omega)
      have v2 : IntKind.i64.wrap ((k : Int) + 1) = (k : Int) + 1 := wrap_is rfl (by omega) (by omega)
      have t1 : Int.tmod ((k : Int) + 1) (n : Int) = (((k + 1) % n : Nat) : Int) := rfl
      have d0 : ((n : Int) == 0) = false := by simp; omega
      have HB := Lib.hid hb
      have HM := Lib.hid hm
      have g1 : (k : Int) < (n : Int) := by omega
      have g2 : (0 : Int) ≤ (k : Int) := by omega
      have g3 : ((k : Int)).toNat = k := by omega
      generalize gs.getD k 0 = ga at *
      generalize gs.getD ((k + 1) % n) 0 = gb at *
      generalize (k + 1) % n = m at *
      have g4 : (m : Int) < (n : Int) := by omega
      have g5 : (0 : Int) ≤ (m : Int) := by omega
      have g6 : ((m : Int)).toNat = m := by omega
      generalize F k = fk at *
      clear ho hc1 hc2 r1 r2 e1 e2 hF hsq hC hv b1 b2 hm hb
      go_wp2_with fail
      refine wp_region_quiet_below (by kernel_rfl) (by kernel_rfl) ?_
      repeat (go_big_quiet_step (with_reducible exact cE _ _))
      refine wpQuiet_nil ?_
      intro _ hw'
      obtain ⟨⟨dq, osq⟩, hw''⟩ := hw'
      subst hw''
      have bq := below_regrown wr dq osq
      generalize Go.Sort.grow (redrawn wr dq) osq = wq at bq ⊢
      go_wp2_with fail
      go_roundw
      case rel => exact ⟨k + 1, by omega, by go_num, by rw [HSn.out], HB.out.trans (bq.mono HB.out.size)⟩
      case measure => simp [intOf]; omega
    · obtain rfl : k = n := by omega
      go_wp2_with fail
      go_ret
      exact ⟨rfl, HB1.out.trans (hb.mono HB1.out.size)⟩
end Go.Proofs.Ytkjhkcnmhakfcaa
