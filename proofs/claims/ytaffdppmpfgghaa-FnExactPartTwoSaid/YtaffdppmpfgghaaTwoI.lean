/- The program's sets with half of the sum: sets, PartTwo. -/
import Derived.Test.YtaffdppmpfgghaaPartT
import Derived.Test.YtaffdppmpfgghaaI1a
import Derived.Test.YtaffdppmpfgghaaMany
import Derived.Test.YtaffdppmpfgghaaPathS
namespace Go.Proofs.Ytaffdppmpfgghaa
open Go.RowKit Go.Sort Go.Lib

theorem setN_512 {r : List Int} {s : Int} (h : r.length ≤ 9) : setN r s ≤ 512 := Nat.le_trans (setN_le r s) (Nat.le_trans (Nat.pow_le_pow_right (by omega) h) (by decide))
set_option maxRecDepth 100000 in
set_option maxHeartbeats 4000000 in
theorem sets_any : ∀ (r : List Int) (A : Option Addr) (n c : Nat) (s : Int) (w : World), Rd w A n r → n ≤ c → c ≤ 9223372036854775807 → r.length ≤ 9 → (∀ j, j < r.length → 1 ≤ r.getD j 0 ∧ r.getD j 0 ≤ 60) → -1000000 ≤ s - 60 * (r.length : Int) → s ≤ 1000000 →
    Calls Try.prog 137 #[.slice A n c, .int .i64 s] w fun e w' => e = .returned (.int .i64 (setN r s : Nat)) ∧ Below w.heap.size w w'
  | [], A, n, c, s, w, h, _, _, _, _, _, _ => by
    obtain rfl : n = 0 := h.1.symm
    by_cases hs : s = 0
    · subst hs
      go_enter Try.func137, Try.ntmps137
      go_wp2
      go_ret
      exact ⟨by simp [setN], Below.refl _ _⟩
    · have e1 : (s == 0) = false := by simpa using hs
      have e2 := hs
      go_enter Try.func137, Try.ntmps137
      go_wp2
      go_ret
      exact ⟨by simp [setN, hs], Below.refl _ _⟩
  | x :: r, A, n, c, s, w, h, hc, hcM, h9, hx, hs1, hs2 => by
    obtain rfl : n = r.length + 1 := h.1.symm
    obtain ⟨b, off, rfl, _, hcell⟩ := h.2 (by omega)
    have q0 : w.cell? ⟨b, off, none⟩ = some (.int .i64 x) := by have := hcell 0 (by omega); simpa using this
    have hx0 := hx 0 (by simp)
    simp only [List.getD_cons_zero] at hx0
    simp only [List.length_cons] at hs1 h9
    have htl : ∀ A1 W, Below w.heap.size w W → (r.length = 0 ∨ A1 = some ⟨b, off + 1, none⟩) → Rd W A1 r.length r := fun A1 W hW hA => by
      rcases hA with h0 | rfl
      · exact ⟨rfl, fun h1 => absurd h1 (by omega)⟩
      · have := (h.drop (k := 1) (by omega)).same hW
        simpa using this
    have IH := fun (A1 : Option Addr) (c1 : Nat) (s1 : Int) (W : World) (hW : Below w.heap.size w W) (hA : r.length = 0 ∨ A1 = some ⟨b, off + 1, none⟩) (hc1 : r.length ≤ c1) (hc2 : c1 ≤ 9223372036854775807) (ha : -1000000 ≤ s1 - 60 * (r.length : Int)) (hb : s1 ≤ 1000000) =>
      sets_any r A1 r.length c1 s1 W (htl A1 W hW hA) hc1 hc2 (by omega) (fun j hj => by have := hx (j + 1) (by simp; omega); simpa using this) ha hb
    have hs : setN (x :: r) s = setN r s + setN r (s - x) := rfl
    have b1 := setN_512 (r := r) (s := s) (by omega)
    have b2 := setN_512 (r := r) (s := s - x) (by omega)
    obtain ⟨k1, e1⟩ : ∃ k1, k1 = setN r s := ⟨_, rfl⟩
    obtain ⟨k2, e2⟩ : ∃ k2, k2 = setN r (s - x) := ⟨_, rfl⟩
    have IH1 := fun A1 c1 W hW hA hc1 hc2 => IH A1 c1 s W hW hA hc1 hc2 (by omega) hs2
    have IH2 := fun A1 c1 W hW hA hc1 hc2 => IH A1 c1 (s - x) W hW hA hc1 hc2 (by omega) (by omega)
    rw [← e1] at hs b1 IH1
    rw [← e2] at hs b2 IH2
    rw [hs]
    have v1 : IntKind.i64.wrap (s - x) = s - x := wrap_is rfl (by omega) (by omega)
    have v2 : IntKind.i64.wrap ((k1 : Int) + (k2 : Int)) = ((k1 + k2 : Nat) : Int) := wrap_is (by omega) (by omega) (by omega)
    have y0 := cell_regrown q0
    have g0 : ¬ ((r.length : Int) + 1 = 0) := by omega
    have g1 : (1 : Int) ≤ (c : Int) := by omega
    by_cases hc1 : c = 1
    · have hr0 : r.length = 0 := by omega
      have cE1 : ∀ d os, Calls Try.prog 137 #[.slice (some ⟨b, off, none⟩) 0 0, .int .i64 s] (grow (redrawn w d) os) fun e w'' => e = .returned (.int .i64 k1) ∧ ∃ p : Regrown, w'' = grow (redrawn w p.d) p.os := fun d os => by
        have := IH1 (some ⟨b, off, none⟩) 0 (grow (redrawn w d) os) (below_regrown w d os) (.inl hr0) (by omega) (by omega)
        rw [hr0] at this
        exact Calls.regrown_of this
      have cE2 : ∀ d os, Calls Try.prog 137 #[.slice (some ⟨b, off, none⟩) 0 0, .int .i64 (s - x)] (grow (redrawn w d) os) fun e w'' => e = .returned (.int .i64 k2) ∧ ∃ p : Regrown, w'' = grow (redrawn w p.d) p.os := fun d os => by
        have := IH2 (some ⟨b, off, none⟩) 0 (grow (redrawn w d) os) (below_regrown w d os) (.inl hr0) (by omega) (by omega)
        rw [hr0] at this
        exact Calls.regrown_of this
      subst hc1
      rw [hr0]
      clear IH IH1 IH2 htl hcell hx h hs hr0 e1 e2 q0
      go_enter Try.func137, Try.ntmps137
      go_wp2_with fail
      refine wp_region_quiet_below (by kernel_rfl) (by kernel_rfl) ?_
      repeat (go_big_quiet_step (first | with_reducible exact cE1 _ _ | with_reducible exact cE2 _ _))
      refine wpQuiet_nil ?_
      intro _ hw'
      obtain ⟨⟨dq, osq⟩, hw''⟩ := hw'
      subst hw''
      have bq := below_regrown w dq osq
      generalize Go.Sort.grow (redrawn w dq) osq = wq at bq ⊢
      go_wp2_with fail
      go_ret
      exact ⟨rfl, bq⟩
    · have hc0 : ¬ (1 = c) := fun e => hc1 e.symm
      obtain ⟨m, em⟩ : ∃ m, m = r.length := ⟨_, rfl⟩
      have cE1 : ∀ d os, Calls Try.prog 137 #[.slice (some ⟨b, off + 1, none⟩) m (c - 1), .int .i64 s] (grow (redrawn w d) os) fun e w'' => e = .returned (.int .i64 k1) ∧ ∃ p : Regrown, w'' = grow (redrawn w p.d) p.os := fun d os => by
        rw [em]
        exact Calls.regrown_of (IH1 (some ⟨b, off + 1, none⟩) (c - 1) (grow (redrawn w d) os) (below_regrown w d os) (.inr rfl) (by omega) (by omega))
      have cE2 : ∀ d os, Calls Try.prog 137 #[.slice (some ⟨b, off + 1, none⟩) m (c - 1), .int .i64 (s - x)] (grow (redrawn w d) os) fun e w'' => e = .returned (.int .i64 k2) ∧ ∃ p : Regrown, w'' = grow (redrawn w p.d) p.os := fun d os => by
        rw [em]
        exact Calls.regrown_of (IH2 (some ⟨b, off + 1, none⟩) (c - 1) (grow (redrawn w d) os) (below_regrown w d os) (.inr rfl) (by omega) (by omega))
      have em1 : r.length + 1 - 1 = m := by omega
      rw [← em] at g0 ⊢
      have g2 : (1 : Int) ≤ (m : Int) + 1 := by omega
      have g3 : (m : Int) + 1 ≤ (c : Int) := by omega
      clear IH IH1 IH2 htl hcell hx h hs em e1 e2 q0 em1
      go_enter Try.func137, Try.ntmps137
      go_wp2_with fail
      refine wp_region_quiet_below (by kernel_rfl) (by kernel_rfl) ?_
      repeat (go_big_quiet_step (first | with_reducible exact cE1 _ _ | with_reducible exact cE2 _ _))
      refine wpQuiet_nil ?_
      intro _ hw'
      obtain ⟨⟨dq, osq⟩, hw''⟩ := hw'
      subst hw''
      have bq := below_regrown w dq osq
      generalize Go.Sort.grow (redrawn w dq) osq = wq at bq ⊢
      go_wp2_with fail
      go_ret
      exact ⟨rfl, bq⟩
termination_by r => r.length

/-- What PartTwo tells. -/
noncomputable def twoB (xs : List Int) : Int := if bundleB xs = true then (twoP xs : Int) else 0
theorem twoB_yes {xs : List Int} (h : bundleB xs = true) : twoB xs = (twoP xs : Int) := by unfold twoB; rw [if_pos h]
theorem twoB_no {xs : List Int} (h : bundleB xs = false) : twoB xs = 0 := by unfold twoB; rw [h]; rfl
set_option maxRecDepth 100000 in
set_option maxHeartbeats 4000000 in
theorem implPartTwo_any (A : Option Addr) (n c : Nat) (xs : List Int) (w : World) (h : Rd w A n xs) (hn : n ≤ 1048576) (hc : n ≤ c) (hcM : c ≤ 9223372036854775807) :
    Calls Try.prog 85 #[.slice A n c] w fun e w' => e = .returned (.tuple #[.int .i64 (twoB xs), .bool (bundleB xs)]) ∧ Below w.heap.size w w' := by
  by_cases hb : bundleB xs = true
  · have HM := Lib.hid (twoB_yes hb)
    have HB := Lib.hid hb
    have hbd := bundleB_true hb
    have hn9 : n ≤ 9 := by rw [← h.1]; exact hbd.2.1
    have hn1 : 1 ≤ n := by rw [← h.1]; exact hbd.1
    have hx := hbd.2.2.1
    have hsm := bundle_small hbd
    have hS := fun W (hW : Below w.heap.size w W) => implSum_any A n c xs W (h.same hW) hn hsm
    have hsum : 0 ≤ sumL xs ∧ sumL xs ≤ 540 := by
      rw [sumL_eq]
      have key : ∀ l : List Int, (∀ y ∈ l, 1 ≤ y ∧ y ≤ 60) → 0 ≤ l.sum ∧ l.sum ≤ 60 * (l.length : Int) := by
        intro l
        induction l with
        | nil => intro _; simp
        | cons y l ih =>
          intro hy
          have h1 := ih fun z hz => hy z (by simp [hz])
          have h2 := hy y (by simp)
          rw [List.sum_cons, List.length_cons]
          omega
      have := key xs fun y hy => by
        obtain ⟨j, hj, e⟩ := List.getElem_of_mem hy
        have := hx j hj
        rw [List.getD_eq_getElem?_getD, List.getElem?_eq_getElem hj, Option.getD_some, e] at this
        exact this
      rw [h.1] at this
      omega
    obtain ⟨z, ez⟩ : ∃ z, z = sumL xs := ⟨_, rfl⟩
    rw [← ez] at hsum hS
    have hzs : xs.sum = z := by rw [ez, sumL_eq]
    have HR := Lib.hid h
    have hS1 := Lib.hid hS
    rcases Int.emod_two_eq z with hz | hz
    · obtain ⟨d, hd⟩ : ∃ d, d = z / 2 := ⟨_, rfl⟩
      have t1 : Int.tmod z 2 = 0 := by rw [Int.tmod_eq_emod_of_nonneg hsum.1]; exact hz
      have t2 : Int.tdiv z 2 = d := by rw [Int.tdiv_eq_ediv_of_nonneg hsum.1, hd]
      have t3 : z / 2 = d := hd.symm
      obtain ⟨x0, e0⟩ : ∃ x0, x0 = xs.getD 0 0 := ⟨_, rfl⟩
      have hx0 := hx 0 (by rw [h.1]; omega)
      rw [← e0] at hx0
      have hval : twoP xs = setN (xs.drop 1) (d - x0) := by unfold twoP; rw [hzs, if_pos hz, hd, e0]
      have HV := Lib.hid hval
      obtain ⟨b, off, rfl, hbl, hcell⟩ := h.2 hn1
      have q0 : w.cell? ⟨b, off, none⟩ = some (.int .i64 x0) := by have := hcell 0 (by omega); rw [← e0] at this; simpa using this
      have HQ := Lib.hid q0
      have hdl : (xs.drop 1).length = n - 1 := by simp [h.1]
      have hset := fun (A1 : Option Addr) (c1 : Nat) (W : World) (hW : Below w.heap.size w W) (hA : n - 1 = 0 ∨ A1 = some ⟨b, off + 1, none⟩) (hc1 : n - 1 ≤ c1) (hc2 : c1 ≤ 9223372036854775807) =>
        sets_any (xs.drop 1) A1 (n - 1) c1 (d - x0) W (by
          rcases hA with h0 | rfl
          · exact ⟨hdl, fun h1 => absurd h1 (by omega)⟩
          · have := (h.drop (k := 1) hn1).same hW
            exact this) hc1 hc2 (by omega) (fun j hj => by
            have := hx (j + 1) (by rw [h.1]; omega)
            simpa [List.getD_eq_getElem?_getD] using this) (by omega) (by omega)
      obtain ⟨K, eK⟩ : ∃ K, K = setN (xs.drop 1) (d - x0) := ⟨_, rfl⟩
      rw [← eK] at hset
      have EK := Lib.hid eK
      have HS2 := Lib.hid hset
      have g1 : (1 : Int) ≤ (n : Int) := by omega
      have g2 : (n : Int) ≤ (c : Int) := by omega
      have g3 : (1 : Int) ≤ (c : Int) := by omega
      have g4 : (0 : Int) < (n : Int) := by omega
      clear hb hbd hx hS ez hzs hd e0 hval hcell q0 hset eK h
      go_enter Try.func85, Try.ntmps85
      go_wp2_with fail
      refine (valid_any _ _ _ xs _ HR.out hn).mono ?_
      rintro e w1 ⟨rfl, b1⟩
      rw [HB.out]
      go_wp2_with fail
      refine (hS1.out w1 b1).mono ?_
      rintro e w2 ⟨rfl, b2⟩
      have b3 := below_then b1 b2
      have HB3 := Lib.hid b3
      have y0 := cell_regrown ((b3.cell (p := ⟨b, off, none⟩) hbl).trans HQ.out)
      have cS : ∀ dr os, Calls Try.prog 117 #[.slice (some ⟨b, off, none⟩) n c] (grow (redrawn w2 dr) os) fun e w'' => e = .returned (.int .i64 z) ∧ ∃ p : Regrown, w'' = grow (redrawn w2 p.d) p.os := fun dr os => Calls.regrown_of (hS1.out _ (below_then b3 (below_regrown w2 dr os)))
      by_cases hc1 : c = 1
      · have hn0 : n = 1 := by omega
        have cE : ∀ dr os, Calls Try.prog 137 #[.slice (some ⟨b, off, none⟩) 0 0, .int .i64 (d - x0)] (grow (redrawn w2 dr) os) fun e w'' => e = .returned (.int .i64 K) ∧ ∃ p : Regrown, w'' = grow (redrawn w2 p.d) p.os := fun dr os => by
          have := HS2.out (some ⟨b, off, none⟩) 0 _ (below_then b3 (below_regrown w2 dr os)) (.inl (by omega)) (by omega) (by omega)
          rw [show n - 1 = 0 by omega] at this
          exact Calls.regrown_of this
        subst hc1 hn0
        clear b1 b2 b3
        go_wp2_with fail
        refine wp_region_quiet_below (by kernel_rfl) (by kernel_rfl) ?_
        repeat (go_big_quiet_step (first | with_reducible exact cS _ _ | with_reducible exact cE _ _))
        refine wpQuiet_nil ?_
        intro _ hw'
        obtain ⟨⟨dq, osq⟩, hw''⟩ := hw'
        subst hw''
        have bq := below_regrown w2 dq osq
        generalize Go.Sort.grow (redrawn w2 dq) osq = wq at bq ⊢
        go_wp2_with fail
        go_ret2
        exact ⟨by rw [HB.out, HM.out, HV.out, ← EK.out]; rfl, below_then HB3.out bq⟩
      · have hc0 : ¬ (1 = c) := fun e => hc1 e.symm
        have cE : ∀ dr os, Calls Try.prog 137 #[.slice (some ⟨b, off + 1, none⟩) (n - 1) (c - 1), .int .i64 (d - x0)] (grow (redrawn w2 dr) os) fun e w'' => e = .returned (.int .i64 K) ∧ ∃ p : Regrown, w'' = grow (redrawn w2 p.d) p.os := fun dr os =>
          Calls.regrown_of (HS2.out (some ⟨b, off + 1, none⟩) (c - 1) _ (below_then b3 (below_regrown w2 dr os)) (.inr rfl) (by omega) (by omega))
        clear b1 b2 b3
        go_wp2_with fail
        refine wp_region_quiet_below (by kernel_rfl) (by kernel_rfl) ?_
        repeat (go_big_quiet_step (first | with_reducible exact cS _ _ | with_reducible exact cE _ _))
        refine wpQuiet_nil ?_
        intro _ hw'
        obtain ⟨⟨dq, osq⟩, hw''⟩ := hw'
        subst hw''
        have bq := below_regrown w2 dq osq
        generalize Go.Sort.grow (redrawn w2 dq) osq = wq at bq ⊢
        go_wp2_with fail
        go_ret2
        exact ⟨by rw [HB.out, HM.out, HV.out, ← EK.out]; rfl, below_then HB3.out bq⟩
    · have t1 : Int.tmod z 2 = 1 := by rw [Int.tmod_eq_emod_of_nonneg hsum.1]; exact hz
      have HV := Lib.hid (show twoP xs = 0 by unfold twoP; rw [hzs, if_neg (by omega)])
      clear hb hbd hx hS ez hzs h
      go_enter Try.func85, Try.ntmps85
      go_wp2_with fail
      refine (valid_any _ _ _ xs _ HR.out hn).mono ?_
      rintro e w1 ⟨rfl, b1⟩
      rw [HB.out]
      go_wp2_with fail
      refine (hS1.out w1 b1).mono ?_
      rintro e w2 ⟨rfl, b2⟩
      go_wp2_with fail
      go_ret2
      exact ⟨by rw [HB.out, HM.out, HV.out]; rfl, below_then b1 b2⟩
  · rw [Bool.not_eq_true] at hb
    have HM := Lib.hid (twoB_no hb)
    have HB := Lib.hid hb
    clear hb
    go_enter Try.func85, Try.ntmps85
    go_wp2_with fail
    refine (valid_any _ _ _ xs _ h hn).mono ?_
    rintro e w1 ⟨rfl, b1⟩
    rw [HB.out]
    go_wp2_with fail
    go_ret2
    exact ⟨by rw [HB.out, HM.out]; rfl, b1⟩
end Go.Proofs.Ytaffdppmpfgghaa
