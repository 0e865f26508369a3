/- Gaps and closing, of the program and of the model. -/
import Derived.Test.YtaffdppmpfgghaaPolyQ
import Derived.Test.YtaffdppmpfgghaaS1a
import Derived.Lib.QuietBelow
namespace Go.Proofs.Ytaffdppmpfgghaa
open Go.RowKit Go.Sort

theorem last_cell {w : World} {A : Option Addr} {n : Nat} {xs : List Int} (h : Rd w A n xs) (h1 : 1 ≤ n) : ∃ b off m, n = m + 1 ∧ A = some ⟨b, off, none⟩ ∧ b < w.heap.size ∧ w.cell? ⟨b, off + m, none⟩ = some (.int .i64 (xs.getD (xs.length - 1) 0)) := by
  obtain ⟨m, rfl⟩ : ∃ m, n = m + 1 := ⟨n - 1, by omega⟩
  obtain ⟨b, off, rfl, hb, hc⟩ := h.2 (by omega)
  refine ⟨b, off, m, rfl, rfl, hb, ?_⟩
  rw [h.1, Nat.add_sub_cancel]
  exact hc m (by omega)

set_option maxHeartbeats 1000000 in
theorem implGap_any (A : Option Addr) (n c : Nat) (xs : List Int) (w : World) (h : Rd w A n xs) (h1 : 1 ≤ n) (hn : n ≤ 1048576) (hM : Small 1000000 xs) :
    Calls Try.prog 143 #[.slice A n c] w fun e w' => e = .returned (.int .i64 (gapL xs)) ∧ Below w.heap.size w w' := by
  have hS : ∀ d os, Calls Try.prog 117 #[.slice A n c] (grow (redrawn w d) os) fun e w'' => e = .returned (.int .i64 (sumL xs)) ∧ ∃ p : Regrown, w'' = grow (redrawn w p.d) p.os := fun d os =>
    Calls.regrown_of (implSum_any A n c xs _ (h.same (below_regrown w d os)) hn hM)
  have hbd := sumTo_bd hM xs.length (Nat.le_refl _)
  have hx := hM (xs.length - 1) (by rw [h.1]; omega)
  have hl : xs.length = n := h.1
  obtain ⟨b, off, m, rfl, rfl, hbl, hc⟩ := last_cell h h1
  have HG := Lib.hid (show gapL xs = sumL xs - 2 * xs.getD (xs.length - 1) 0 from rfl)
  rw [show sumTo xs xs.length = sumL xs from rfl] at hbd
  obtain ⟨x, ex⟩ : ∃ x, x = xs.getD (xs.length - 1) 0 := ⟨_, rfl⟩
  obtain ⟨s, es⟩ : ∃ s, s = sumL xs := ⟨_, rfl⟩
  rw [← ex] at hc hx HG
  rw [← es] at hS hbd HG
  have cx : ∀ d os, (grow (redrawn w d) os).cell? ⟨b, off + m, none⟩ = some (.int .i64 x) := fun d os => cell_regrown hc d os
  have e1 : ((m + 1 : Nat) : Int) - 1 = (m : Int) := by omega
  have v1 : IntKind.i64.wrap (m : Int) = (m : Int) := wrap_is rfl (by omega) (by omega)
  have v2 : IntKind.i64.wrap (2 * x) = 2 * x := wrap_is rfl (by omega) (by omega)
  have v3 : IntKind.i64.wrap (s - 2 * x) = s - 2 * x := wrap_is rfl (by omega) (by omega)
  have v4 : (m : Int) < ((m + 1 : Nat) : Int) := by omega
  have v5 : (m : Int) < (m : Int) + 1 := by omega
  clear hM hbd hx hl h h1 ex es hc
  go_enter Try.func143, Try.ntmps143
  go_wp2_with fail
  refine wp_region_quiet_below (by kernel_rfl) (by kernel_rfl) ?_
  repeat (go_big_quiet_step (exact hS _ _))
  refine wpQuiet_nil ?_
  intro _ hw'
  obtain ⟨⟨dq, osq⟩, hw''⟩ := hw'
  subst hw''
  have bq := below_regrown w dq osq
  generalize Go.Sort.grow (redrawn w dq) osq = wq at bq ⊢
  go_wp2_with fail
  go_ret
  exact ⟨ret_i HG.out.symm, bq⟩

set_option maxHeartbeats 1000000 in
theorem l3Gap_any (A : Option Addr) (n c : Nat) (xs : List Int) (w : World) (h : Rd w A n xs) (h1 : 1 ≤ n) (hn : n ≤ 1048576) (hM : Small 1000000 xs) :
    Calls Try.prog 153 #[.slice A n c] w fun e w' => e = .returned (.int .i64 (gapL xs)) ∧ Below w.heap.size w w' := by
  have hS : ∀ d os, Calls Try.prog 133 #[.slice A n c] (grow (redrawn w d) os) fun e w'' => e = .returned (.int .i64 (sumL xs)) ∧ ∃ p : Regrown, w'' = grow (redrawn w p.d) p.os := fun d os =>
    Calls.regrown_of (specSum_any A n c xs _ (h.same (below_regrown w d os)) hn hM)
  have hbd := sumTo_bd hM xs.length (Nat.le_refl _)
  have hx := hM (xs.length - 1) (by rw [h.1]; omega)
  have hl : xs.length = n := h.1
  obtain ⟨b, off, m, rfl, rfl, hbl, hc⟩ := last_cell h h1
  have HG := Lib.hid (show gapL xs = sumL xs - 2 * xs.getD (xs.length - 1) 0 from rfl)
  rw [show sumTo xs xs.length = sumL xs from rfl] at hbd
  obtain ⟨x, ex⟩ : ∃ x, x = xs.getD (xs.length - 1) 0 := ⟨_, rfl⟩
  obtain ⟨s, es⟩ : ∃ s, s = sumL xs := ⟨_, rfl⟩
  rw [← ex] at hc hx HG
  rw [← es] at hS hbd HG
  have cx : ∀ d os, (grow (redrawn w d) os).cell? ⟨b, off + m, none⟩ = some (.int .i64 x) := fun d os => cell_regrown hc d os
  have e1 : ((m + 1 : Nat) : Int) - 1 = (m : Int) := by omega
  have v1 : IntKind.i64.wrap (m : Int) = (m : Int) := wrap_is rfl (by omega) (by omega)
  have v2 : IntKind.i64.wrap (2 * x) = 2 * x := wrap_is rfl (by omega) (by omega)
  have v3 : IntKind.i64.wrap (s - 2 * x) = s - 2 * x := wrap_is rfl (by omega) (by omega)
  have v4 : (m : Int) < ((m + 1 : Nat) : Int) := by omega
  have v5 : (m : Int) < (m : Int) + 1 := by omega
  clear hM hbd hx hl h h1 ex es hc
  go_enter Try.func153, Try.ntmps153
  go_wp2_with fail
  refine wp_region_quiet_below (by kernel_rfl) (by kernel_rfl) ?_
  repeat (go_big_quiet_step (exact hS _ _))
  refine wpQuiet_nil ?_
  intro _ hw'
  obtain ⟨⟨dq, osq⟩, hw''⟩ := hw'
  subst hw''
  have bq := below_regrown w dq osq
  generalize Go.Sort.grow (redrawn w dq) osq = wq at bq ⊢
  go_wp2_with fail
  go_ret
  exact ⟨ret_i HG.out.symm, bq⟩

theorem clos_few {xs : List Int} (h : ¬ 3 ≤ xs.length) : closB xs = false := by unfold closB; rw [decide_eq_false h]; rfl
theorem clos_is {xs : List Int} (h : 3 ≤ xs.length) : closB xs = decide (gapL xs > 0) := by unfold closB; rw [decide_eq_true h]; rfl

set_option maxHeartbeats 1000000 in
theorem implCloses_any (A : Option Addr) (n c : Nat) (xs : List Int) (w : World) (h : Rd w A n xs) (hn : n ≤ 1048576) (hM : Small 1000000 xs) :
    Calls Try.prog 110 #[.slice A n c] w fun e w' => e = .returned (.bool (closB xs)) ∧ Below w.heap.size w w' := by
  by_cases h3 : 3 ≤ n
  · have HC := Lib.hid (clos_is (xs := xs) (by rw [h.1]; exact h3))
    have hg := implGap_any A n c xs w h (by omega) hn hM
    have d1 : decide ((n : Int) ≥ 3) = true := by simp; omega
    clear h hM
    go_enter Try.func110, Try.ntmps110
    go_wp2_with fail
    refine hg.mono ?_
    rintro e w1 ⟨rfl, b1⟩
    go_wp2_with fail
    go_ret
    exact ⟨ret_b HC.out.symm, b1⟩
  · have HC := Lib.hid (clos_few (xs := xs) (by rw [h.1]; exact h3))
    have d1 : decide ((n : Int) ≥ 3) = false := by simp; omega
    clear h hM
    go_enter Try.func110, Try.ntmps110
    go_wp2_with fail
    go_ret
    exact ⟨ret_b HC.out.symm, Below.refl _ _⟩

set_option maxHeartbeats 1000000 in
theorem l3Closes_any (A : Option Addr) (n c : Nat) (xs : List Int) (w : World) (h : Rd w A n xs) (hn : n ≤ 1048576) (hM : Small 1000000 xs) :
    Calls Try.prog 142 #[.slice A n c] w fun e w' => e = .returned (.bool (closB xs)) ∧ Below w.heap.size w w' := by
  by_cases h3 : 3 ≤ n
  · have HC := Lib.hid (clos_is (xs := xs) (by rw [h.1]; exact h3))
    have hg := l3Gap_any A n c xs w h (by omega) hn hM
    have d1 : decide ((n : Int) ≥ 3) = true := by simp; omega
    clear h hM
    go_enter Try.func142, Try.ntmps142
    go_wp2_with fail
    refine hg.mono ?_
    rintro e w1 ⟨rfl, b1⟩
    go_wp2_with fail
    go_ret
    exact ⟨ret_b HC.out.symm, b1⟩
  · have HC := Lib.hid (clos_few (xs := xs) (by rw [h.1]; exact h3))
    have d1 : decide ((n : Int) ≥ 3) = false := by simp; omega
    clear h hM
    go_enter Try.func142, Try.ntmps142
    go_wp2_with fail
    go_ret
    exact ⟨ret_b HC.out.symm, Below.refl _ _⟩
end Go.Proofs.Ytaffdppmpfgghaa
