/- The law FnSum's walk. -/
import Derived.Test.YtgnlefdecjpmeaaDraw
import Derived.Test.YtgnlefdecjpmeaaLaw1a
import Derived.Test.YtgnlefdecjpmeaaS1a
namespace Go.Proofs.Ytgnlefdecjpmeaa
open Go.RowKit

theorem sum_ge {xs : List Int} (hb : Bundle xs) : (xs.length : Int) ≤ sumL xs := by
  have key : ∀ k, k ≤ xs.length → (k : Int) ≤ sumTo xs k := by
    intro k
    induction k with
    | zero => intro _; simp [sumTo]
    | succ k ih =>
      intro hk
      have h1 := ih (by omega)
      have h2 := hb.2.2.1 k (by omega)
      simp only [sumTo]
      omega
  exact key _ (Nat.le_refl _)
theorem small_of_bundle {xs : List Int} (hb : Bundle xs) : Small 1000000 xs := fun j hj => by
  have := hb.2.2.1 j hj; omega

set_option maxHeartbeats 2000000 in
theorem fnSum_walk (A0 : Option Addr) (n0 c0 : Nat) (z0 : List Int) (w : World) (h0 : RdB w A0 n0 z0) (k0 : WfL .u8 z0) (q0 : n0 ≤ c0) :
    Calls Try.prog 14 #[.slice A0 n0 c0] w fun e w' => e = .returned (.bool true) ∧ Below w.heap.size w w' := by
  by_cases big : n0 ≤ 1048576
  rotate_left
  · go_enter Try.func14, Try.ntmps14
    go_wp2_with fail
    go_ret
    exact ⟨rfl, Below.refl _ _⟩
  go_enter Try.func14, Try.ntmps14
  go_wp2_with fail
  refine (drawSum_any A0 n0 c0 z0 _ h0 (bytes_of k0) big q0).mono ?_
  rintro e w1 ⟨A, n, c, xs, rfl, o1, hn, hx, b1⟩
  go_wp2_with fail
  refine (implStickSum_any A n c xs _ o1.rd (by omega)).mono ?_
  rintro e w2 ⟨rfl, b2⟩
  have b3 := below_then b1 b2
  have o2 := o1.same b2
  go_wp2_with fail
  refine (specStickSum_any A n c xs _ o2.rd (by omega)).mono ?_
  rintro e w3 ⟨rfl, b4⟩
  have b5 := below_then b3 b4
  have o3 := o2.same b4
  have hlen := o3.rd.1
  by_cases hs : bundleB xs = true
  · have e1 : sumM xs = sumL xs := by simp [sumM, hs]
    have hb := bundleB_true hs
    have hge := sum_ge hb
    have hsm := small_of_bundle hb
    have r3 := o3.rd
    rw [e1, hs]
    obtain ⟨S, hS⟩ : ∃ S, S = sumL xs := ⟨_, rfl⟩
    rw [← hS] at hge ⊢
    have HS := Lib.hid hS
    clear hS e1 hs
    have hgn : (n : Int) ≤ S := by omega
    go_wp2_with fail
    refine (total_any A n c xs _ r3 (by omega) hsm).mono ?_
    rintro e w4 ⟨rfl, b6⟩
    rw [← HS.out]
    have b7 := below_then b5 b6
    go_wp2_with fail
    go_ret
    exact ⟨rfl, b7⟩
  · rw [Bool.not_eq_true] at hs
    have e1 : sumM xs = 0 := by simp [sumM, hs]
    rw [e1, hs]
    clear e1 hs
    go_wp2_with fail
    go_ret
    exact ⟨rfl, b5⟩
end Go.Proofs.Ytgnlefdecjpmeaa
