/- The walks of the laws FnPolyMost, FnPolyParts. -/
import Derived.Test.YtaffdppmpfgghaaDraw3
import Derived.Test.YtaffdppmpfgghaaParts
import Derived.Test.YtaffdppmpfgghaaMany
import Derived.Test.YtaffdppmpfgghaaLaw1c
namespace Go.Proofs.Ytaffdppmpfgghaa
open Go.RowKit

theorem wpList_appG {ops : Array Oper} {rest : List Oper} {o : Oper} {a : Act} {Q : Exit → Act → World → Prop} {W : World} (hw : Region.wanted o (yielded ops a.tmps) = true) (s x : Operand)
    (ho : o.op = .call { callee := .builtin .append, args := #[s, x], argTypes := #[23, 23] })
    {B n c : Nat} {A : Option Addr} {xs : List Int} (hs : a.eval s = .slice A n c) (hown : Own W B A n c xs) {A2 : Option Addr} {m c2 : Nat} {ys : List Int} (hx : a.eval x = .slice A2 m c2) (hr : Rd W A2 m ys) (hn : n + m ≤ 16777216) (hB : B ≤ W.heap.size)
    (h : ∀ A' c' W', Own W' B A' (n + m) c' (xs ++ ys) → W.grownBy W' (Value.slice A n c).ownBlock → wpList Try.prog ops Q rest (a.put o.dst (.slice A' (n + m) c')) W') : wpList Try.prog ops Q (o :: rest) a W :=
  wpList_step fun K hK => by
    rw [if_pos hw]
    exact wp_appT 23 Try.underlying23 s x ho hs hown hx hr hn hB fun A' c' W' h2 h3 => hK _ _ (h A' c' W' h2 h3)

set_option maxRecDepth 100000 in
set_option maxHeartbeats 4000000 in
theorem fnPolyMost_walk (A0 : Option Addr) (n0 c0 : Nat) (z0 : List Int) (w : World) (h0 : RdB w A0 n0 z0) (k0 : WfL .u8 z0) (q0 : n0 ≤ c0) :
    Calls Try.prog 10 #[.slice A0 n0 c0] w fun e w' => e = .returned (.bool true) ∧ Below w.heap.size w w' := by
  by_cases big : n0 ≤ 1048576
  rotate_left
  · go_enter Try.func10, Try.ntmps10
    go_wp2_with fail
    go_ret
    exact ⟨rfl, Below.refl _ _⟩
  go_enter Try.func10, Try.ntmps10
  go_wp2_with fail
  refine (drawPolyMost_any A0 n0 c0 z0 _ h0 (bytes_of k0) big q0).mono ?_
  rintro e w1 ⟨A, n, c, xs, rfl, o1, hn, hx, b1⟩
  have hcap := o1.cap
  have hI := fun W (h : Rd W A n xs) => implPolyMost_any A n c xs W h (by omega) hcap
  have hT := fun W (h : Rd W A n xs) => specPolyMost_any A n c xs W h (by omega) hcap
  by_cases hs : bundleB xs = true
  · have hb := bundleB_true hs
    have hl1 := o1.len
    have hM := fun W (h : Rd W A n xs) => implStickMany_any A n c xs W h (by omega)
    have hC := fun W (h : Rd W A n xs) => implPolyCloses_any A n c xs W h (by omega)
    rw [mstM_yes hs, hs] at hI hT
    rw [manyM_yes hs, hs] at hM
    rw [pcB_yes hs, ← most_all hb.1, hl1] at hC
    have ht : cntT xs ≠ 0 → 3 ≤ mostL xs := tri_close hb
    have h03 : mostL xs = 0 ∨ 3 ≤ mostL xs := by
      unfold mostL
      rcases mostTo_is (xs := xs) xs.length with h | h
      · exact .inl h
      · exact .inr h.1
    generalize mostL xs = k at *
    generalize cntT xs = t at *
    have d1 : (decide (k = n)) = ((k : Int) == (n : Int)) := by
      rw [Bool.eq_iff_iff]; simp; omega
    rw [d1] at hC
    have hcase : (k ≤ 0 ∧ t ≤ 0) ∨ (3 ≤ k ∧ 0 < t) ∨ (3 ≤ k ∧ t ≤ 0) := by omega
    clear hs hb d1 ht h03 hl1
    rcases hcase with ⟨k1, k2⟩ | ⟨k1, k2⟩ | ⟨k1, k2⟩
    all_goals
      go_wp2_with fail
      refine (hI _ o1.rd).mono ?_
      rintro e w2 ⟨rfl, b2⟩
      have b3 := below_then b1 b2
      have o2 := o1.same b2
      go_wp2_with fail
      refine (hT _ o2.rd).mono ?_
      rintro e w3 ⟨rfl, b4⟩
      have b5 := below_then b3 b4
      have o3 := o2.same b4
      go_wp2_with fail
      refine (hM _ o3.rd).mono ?_
      rintro e w4 ⟨rfl, b6⟩
      have b7 := below_then b5 b6
      have o4 := o3.same b6
      go_wp2_with fail
      refine (hC _ o4.rd).mono ?_
      rintro e w5 ⟨rfl, b8⟩
      go_wp2_with fail
      go_ret
      exact ⟨ret_b (by first | rfl | (exfalso; omega) | (simp; omega) | simp), below_then b7 b8⟩
  · rw [Bool.not_eq_true] at hs
    rw [mstM_no hs, hs] at hI hT
    clear hs
    go_wp2_with fail
    refine (hI _ o1.rd).mono ?_
    rintro e w2 ⟨rfl, b2⟩
    have b3 := below_then b1 b2
    have o2 := o1.same b2
    go_wp2_with fail
    refine (hT _ o2.rd).mono ?_
    rintro e w3 ⟨rfl, b4⟩
    go_wp2_with fail
    go_ret
    exact ⟨rfl, below_then b3 b4⟩

end Go.Proofs.Ytaffdppmpfgghaa
