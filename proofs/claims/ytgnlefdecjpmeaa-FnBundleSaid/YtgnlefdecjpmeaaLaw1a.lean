/- The law FnThree's walk. -/
import Derived.Test.YtgnlefdecjpmeaaRead
import Derived.Test.YtgnlefdecjpmeaaCalc1
namespace Go.Proofs.Ytgnlefdecjpmeaa
open Go.RowKit

def Three3 (w : World) (e : Ending) (w' : World) : Prop :=
  ∃ a b c : Int, e = .returned (.tuple #[.int .i64 a, .int .i64 b, .int .i64 c]) ∧ Below w.heap.size w w'
theorem Rdr.bel {w0 w : World} {g p : Nat} (h : Rdr w0 w g p) : Below w0.heap.size w0 w := by
  obtain ⟨_, _, _, _, _, _, _, _, _, hb⟩ := h; exact hb

set_option maxHeartbeats 2000000 in
theorem drawThree_any (A : Option Addr) (n c : Nat) (bs : List Int) (w : World) (h : RdB w A n bs) (hb : Bytes bs) (hn : n ≤ 1048576) (hc : n ≤ c) :
    Calls Try.prog 34 #[.slice A n c] w (Three3 w) := by
  go_enter Try.func34, Try.ntmps34
  go_wp2_with fail
  refine (l6Open_any A n c bs _ h hb hn hc).mono ?_
  rintro e w1 ⟨g, rfl, _, _, r1, _⟩
  go_wp2_with fail
  refine (l91Length_any w g 0 _ r1 (by omega)).mono ?_
  rintro e w2 ⟨a, rfl, ha1, ha2, r2, _⟩
  go_wp2_with fail
  refine (l91Length_any w g _ _ r2 (by omega)).mono ?_
  rintro e w3 ⟨b, rfl, hb1, hb2, r3, _⟩
  go_wp2_with fail
  refine (pick_any w g _ 2 _ r3 (by omega) (by omega) (by omega)).mono ?_
  rintro e w4 ⟨v, rfl, _, hv, r4, _⟩
  have hv := hv (by omega)
  rcases (show v = 0 ∨ v = 1 by omega) with rfl | rfl
  · rcases (show a ≤ b ∨ b < a by omega) with hab | hab
    all_goals
      go_wp2_with fail
      all_goals
        refine (pick_any w g _ _ _ r4 (by omega) (by omega) (by omega)).mono ?_
        rintro e w5 ⟨u, rfl, _, hu, r5, _⟩
        have hu := hu (by omega)
        go_wp2_with fail
        go_ret3
        exact ⟨_, _, _, rfl, r5.bel⟩
  · go_wp2_with fail
    refine (l91Length_any w g _ _ r4 (by omega)).mono ?_
    rintro e w5 ⟨u, rfl, hu1, hu2, r5, _⟩
    go_wp2_with fail
    refine (pick_any w g _ 24 _ r5 (by omega) (by omega) (by omega)).mono ?_
    rintro e w6 ⟨v6, rfl, _, hv6, r6, _⟩
    have hv6 := hv6 (by omega)
    go_wp2_with fail
    refine (pick_any w g _ 24 _ r6 (by omega) (by omega) (by omega)).mono ?_
    rintro e w7 ⟨v7, rfl, _, hv7, r7, _⟩
    have hv7 := hv7 (by omega)
    go_wp2_with fail
    go_ret3
    exact ⟨_, _, _, rfl, r7.bel⟩

theorem sides_swap (a b c : Int) : sidesB b a c = sidesB a b c := by
  unfold sidesB triB
  rw [Bool.eq_iff_iff]
  simp only [Bool.and_eq_true, decide_eq_true_eq]
  constructor
  · rintro ⟨⟨⟨h1, h2⟩, h3⟩, ⟨h4, h5⟩, h6⟩; exact ⟨⟨⟨h2, h1⟩, h3⟩, ⟨by omega, by omega⟩, by omega⟩
  · rintro ⟨⟨⟨h1, h2⟩, h3⟩, ⟨h4, h5⟩, h6⟩; exact ⟨⟨⟨h2, h1⟩, h3⟩, ⟨by omega, by omega⟩, by omega⟩
theorem sides_rev (a b c : Int) : sidesB c b a = sidesB a b c := by
  unfold sidesB triB
  rw [Bool.eq_iff_iff]
  simp only [Bool.and_eq_true, decide_eq_true_eq]
  constructor
  · rintro ⟨⟨⟨h1, h2⟩, h3⟩, ⟨h4, h5⟩, h6⟩; exact ⟨⟨⟨h3, h2⟩, h1⟩, ⟨by omega, by omega⟩, by omega⟩
  · rintro ⟨⟨⟨h1, h2⟩, h3⟩, ⟨h4, h5⟩, h6⟩; exact ⟨⟨⟨h3, h2⟩, h1⟩, ⟨by omega, by omega⟩, by omega⟩
theorem sides_same {m : Int} (h1 : 1 ≤ m) (h2 : m ≤ 60) : sidesB m m m = true := by
  unfold sidesB triB
  rw [inB_mk h1 h2]
  simp; omega
theorem sides_bd {a b c : Int} (h : sidesB a b c = true) : (1 ≤ a ∧ a ≤ 60) ∧ (1 ≤ b ∧ b ≤ 60) ∧ (1 ≤ c ∧ c ≤ 60) := by
  unfold sidesB at h
  simp only [Bool.and_eq_true] at h
  exact ⟨inB_true h.1.1.1, inB_true h.1.1.2, inB_true h.1.2⟩

set_option maxHeartbeats 2000000 in
theorem fnThree_walk (A0 : Option Addr) (n0 c0 : Nat) (z0 : List Int) (w : World) (h0 : RdB w A0 n0 z0) (k0 : WfL .u8 z0) (q0 : n0 ≤ c0) :
    Calls Try.prog 5 #[.slice A0 n0 c0] w fun e w' => e = .returned (.bool true) ∧ Below w.heap.size w w' := by
  by_cases big : n0 ≤ 1048576
  rotate_left
  · go_enter Try.func5, Try.ntmps5
    go_wp2_with fail
    go_ret
    exact ⟨rfl, Below.refl _ _⟩
  go_enter Try.func5, Try.ntmps5
  go_wp2_with fail
  refine (drawThree_any A0 n0 c0 z0 _ h0 (bytes_of k0) big q0).mono ?_
  rintro e w1 ⟨a, b, c, rfl, b1⟩
  go_wp2_with fail
  refine (implThree_any a b c _).mono ?_
  rintro e w2 ⟨rfl, b2⟩
  go_wp2_with fail
  refine (specThree_any a b c _).mono ?_
  rintro e w3 ⟨rfl, b3⟩
  have b4 := below_then (below_then b1 b2) b3
  by_cases hs : sidesB a b c = true
  · have HS := Lib.hid hs
    have hbd := sides_bd hs
    have HW := Lib.hid ((sides_swap a b c).trans hs)
    have HR := Lib.hid ((sides_rev a b c).trans hs)
    rw [hs]
    clear hs b1 b2 b3
    obtain ⟨⟨p1, p2⟩, ⟨p3, p4⟩, p5, p6⟩ := hbd
    go_wp2_with fail
    all_goals
      refine (implThree_any b a c _).mono ?_
      rintro e w5 ⟨rfl, b5⟩
      rw [HW.out]
      have b6 := below_then b4 b5
      go_wp2_with fail
      refine (implThree_any c b a _).mono ?_
      rintro e w6 ⟨rfl, b7⟩
      rw [HR.out]
      have b8 := below_then b6 b7
      go_wp2_with fail
      refine (implThree_any _ _ _ _).mono ?_
      rintro e w7 ⟨rfl, b9⟩
      rw [sides_same (by omega) (by omega)]
      have b10 := below_then b8 b9
      go_wp2_with fail
      go_ret
      exact ⟨rfl, b10⟩
  · rw [Bool.not_eq_true] at hs
    rw [hs]
    clear hs
    go_wp2_with fail
    go_ret
    exact ⟨rfl, b4⟩
end Go.Proofs.Ytgnlefdecjpmeaa
