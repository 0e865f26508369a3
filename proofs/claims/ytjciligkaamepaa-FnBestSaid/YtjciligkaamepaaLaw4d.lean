/- The walk of the law FnBest. -/
import Derived.Test.YtjciligkaamepaaDraw4
import Derived.Test.YtjciligkaamepaaChain3
import Derived.Test.YtjciligkaamepaaApp
namespace Go.Proofs.Ytjciligkaamepaa
open Go.RowKit

theorem wpList_appB {ops : Array Oper} {rest : List Oper} {o : Oper} {a : Act} {Q : Exit → Act → World → Prop} {W : World} (hw : Region.wanted o (yielded ops a.tmps) = true) (s x : Operand)
    (ho : o.op = .call { callee := .builtin .append, args := #[s, x], argTypes := #[23, 23] })
    {B n c : Nat} {A : Option Addr} {xs : List Int} (hs : a.eval s = .slice A n c) (hown : Own W B A n c xs) {A2 : Option Addr} {m c2 : Nat} {ys : List Int} (hx : a.eval x = .slice A2 m c2) (hr : Rd W A2 m ys) (hn : n + m ≤ 16777216) (hB : B ≤ W.heap.size)
    (h : ∀ A' c' W', Own W' B A' (n + m) c' (xs ++ ys) → W.grownBy W' (Value.slice A n c).ownBlock → wpList Try.prog ops Q rest (a.put o.dst (.slice A' (n + m) c')) W') : wpList Try.prog ops Q (o :: rest) a W :=
  wpList_step fun K hK => by
    rw [if_pos hw]
    exact wp_appT 23 Try.underlying23 s x ho hs hown hx hr hn hB fun A' c' W' h2 h3 => hK _ _ (h A' c' W' h2 h3)

theorem best_cases {b : Bool} {j k : Nat} (h : b = decide (j = k)) : (b = true ∧ ((j : Int) == (k : Int)) = true) ∨ (b = false ∧ ((j : Int) == (k : Int)) = false) := by
  subst h
  by_cases e : j = k
  · exact .inl ⟨decide_eq_true e, by rw [beq_iff_eq]; omega⟩
  · exact .inr ⟨decide_eq_false e, by rw [beq_eq_false_iff_ne]; omega⟩

set_option maxRecDepth 100000 in
set_option maxHeartbeats 4000000 in
theorem fnBest_walk (A0 : Option Addr) (n0 c0 : Nat) (z0 : List Int) (w : World) (h0 : RdB w A0 n0 z0) (k0 : WfL .u8 z0) (q0 : n0 ≤ c0) :
    Calls Try.prog 10 #[.slice A0 n0 c0] w fun e w' => e = .returned (.bool true) ∧ Below w.heap.size w w' := by
  by_cases big : n0 ≤ 1048576
  rotate_left
  · go_enter Try.func10, Try.ntmps10
    go_wp2_with fail
    go_ret
    exact ⟨rfl, Below.refl _ _⟩
  go_enter Try.func10, Try.ntmps10
  go_wp2_with fail
  refine (drawChainBest_any A0 n0 c0 z0 _ h0 (bytes_of k0) big q0).mono ?_
  rintro e w1 ⟨A, n, c, xs, d, rfl, o1, hn, hx, hd1, hd2, b1⟩
  have hcap := o1.cap
  have hI := fun W (h : Rd W A n xs) => implChainBest_any A n c xs d W h (by omega) hcap
  have hS := fun W (h : Rd W A n xs) => specChainBest_any A n c xs d W h (by omega) hcap
  by_cases hs : bstB xs d = true
  · obtain ⟨hB, hD, h1⟩ := bstB_parts hs
    have hb := bundleB_true hB
    have hle := best_le xs d
    have hl1 := o1.len
    have hat : ∀ j, bestL xs d ≤ j → j ≤ n → chTo (xs.take j) d = decide (j = bestL xs d) := fun j h2 h3 => by
      rw [chTo_take hb (by omega) (by omega)]
      exact best_at (by omega) h2 (by omega) h1
    have hkn : bestL xs d ≤ n := by omega
    rw [bstM_yes hs, hs] at hI hS
    generalize bestL xs d = k at *
    have HAT := Lib.hid hat
    have HK := Lib.hid h1
    have HKN := Lib.hid hkn
    have d1 : decide ((k : Int) ≥ 1) = true := by simp; omega
    clear hs hB hD hb hle hl1 hat h1 hkn hx
    go_wp2_with fail
    refine (hI _ o1.rd).mono ?_
    rintro e w2 ⟨rfl, b2⟩
    have b3 := below_then b1 b2
    replace o1 := o1.same b2
    go_wp2_with fail
    refine (hS _ o1.rd).mono ?_
    rintro e w3 ⟨rfl, b4⟩
    have b5 := below_then b3 b4
    replace o1 := o1.same b4
    clear hI hS
    go_wp2_with fail
    obtain ⟨g, rfl, _, _⟩ := o1.form (by have := HK.out; have := HKN.out; omega)
    go_loopw [9] (fun i wr => ∃ j : Nat, k ≤ j ∧ j ≤ n + 1 ∧ i = .int .i64 j ∧ Own wr w.heap.size (some ⟨g, 0, none⟩) n c xs ∧ Below w.heap.size w wr) (fun i _ => (n + 1) - (intOf i).toNat)
    case atStart => exact ⟨k, Nat.le_refl _, by have := HKN.out; omega, rfl, o1, b5⟩
    case round =>
      obtain ⟨j, hkj, hj, rfl, ow, hbw⟩ := hrel
      by_cases hlt : j ≤ n
      · have HKJ := Lib.hid hkj
        have d2 : decide ((j : Int) ≤ (n : Int)) = true := by simp; omega
        have hl := Own.lit wr (B := wr.heap.size) (Nat.le_refl _) [] (by simp)
        have ht := (ow.al (.cells #[] 3)).rd.take hlt
        have hmm : 0 + j ≤ 16777216 := by omega
        have hz : wr.heap.size ≤ (wr.alloc (.cells #[] 3)).heap.size := by simp
        rcases best_cases (HAT.out j hkj hlt) with ⟨q1, q2⟩ | ⟨q1, q2⟩
        all_goals
          have HQ := Lib.hid q1
          clear q1 hkj
          go_wp2_with (at_builtin; refine wpList_appB ?_ _ _ rfl rfl hl rfl ht hmm hz ?_; (· first | rfl | simp [Region.wanted, yielded]); intro A9 c9 W9 o9 g9)
          have bb : Below wr.heap.size wr W9 := app_mark (below_alloc (Below.refl _ _) _) hl (Nat.le_refl _) g9
          rw [List.nil_append, Nat.zero_add] at o9
          refine (implChainTo_any A9 j c9 _ d _ o9.rd (by omega)).mono ?_
          rw [HQ.out]
          rintro e w10 ⟨rfl, b14⟩
          have ow2 := (ow.same bb).same b14
          have bw2 := below_then (below_then hbw bb) b14
          clear ow hl ht o9
          go_wp2_with fail
          go_roundw
          case rel => exact ⟨j + 1, by have := HKJ.out; omega, by omega, by go_num, ow2, bw2⟩
          case measure => simp [intOf]; omega
      · obtain rfl : j = n + 1 := by omega
        have d2 : decide (((n + 1 : Nat) : Int) ≤ (n : Int)) = false := by simp; omega
        go_wp2_with fail
        go_ret
        exact ⟨rfl, hbw⟩
  · rw [Bool.not_eq_true] at hs
    rw [bstM_no hs, hs] at hI hS
    clear hs
    go_wp2_with fail
    refine (hI _ o1.rd).mono ?_
    rintro e w2 ⟨rfl, b2⟩
    have b3 := below_then b1 b2
    replace o1 := o1.same b2
    go_wp2_with fail
    refine (hS _ o1.rd).mono ?_
    rintro e w3 ⟨rfl, b4⟩
    go_wp2_with fail
    go_ret
    exact ⟨rfl, below_then b3 b4⟩
end Go.Proofs.Ytjciligkaamepaa
