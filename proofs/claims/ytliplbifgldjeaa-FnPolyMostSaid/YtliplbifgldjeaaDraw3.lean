/- The model's draws of chapter 3: bundles, a number of sticks and a sum. -/
import Derived.Test.YtliplbifgldjeaaDraw
namespace Go.Proofs.Ytliplbifgldjeaa
open Go.RowKit

theorem drawPolyCloses_any (A : Option Addr) (n c : Nat) (bs : List Int) (w : World) (h : RdB w A n bs) (hb : Bytes bs) (hn : n ≤ 1048576) (hc : n ≤ c) :
    Calls Try.prog 21 #[.slice A n c] w (Drawn1 w 11) := by
  go_enter Try.func21, Try.ntmps21
  go_wp2_with fail
  refine (one_any A n c bs _ h hb hn hc).mono ?_
  rintro e w1 ⟨A2, n2, c2, xs, rfl, o2, hn2, hx, b2⟩
  go_wp2_with fail
  go_ret
  exact ⟨A2, n2, c2, xs, rfl, o2, hn2, hx, b2⟩
theorem drawPolyGap_any (A : Option Addr) (n c : Nat) (bs : List Int) (w : World) (h : RdB w A n bs) (hb : Bytes bs) (hn : n ≤ 1048576) (hc : n ≤ c) :
    Calls Try.prog 26 #[.slice A n c] w (Drawn1 w 11) := by
  go_enter Try.func26, Try.ntmps26
  go_wp2_with fail
  refine (one_any A n c bs _ h hb hn hc).mono ?_
  rintro e w1 ⟨A2, n2, c2, xs, rfl, o2, hn2, hx, b2⟩
  go_wp2_with fail
  go_ret
  exact ⟨A2, n2, c2, xs, rfl, o2, hn2, hx, b2⟩
theorem drawPolyMost_any (A : Option Addr) (n c : Nat) (bs : List Int) (w : World) (h : RdB w A n bs) (hb : Bytes bs) (hn : n ≤ 1048576) (hc : n ≤ c) :
    Calls Try.prog 44 #[.slice A n c] w (Drawn1 w 11) := by
  go_enter Try.func44, Try.ntmps44
  go_wp2_with fail
  refine (one_any A n c bs _ h hb hn hc).mono ?_
  rintro e w1 ⟨A2, n2, c2, xs, rfl, o2, hn2, hx, b2⟩
  go_wp2_with fail
  go_ret
  exact ⟨A2, n2, c2, xs, rfl, o2, hn2, hx, b2⟩
theorem drawPolyParts_any (A : Option Addr) (n c : Nat) (bs : List Int) (w : World) (h : RdB w A n bs) (hb : Bytes bs) (hn : n ≤ 1048576) (hc : n ≤ c) :
    Calls Try.prog 48 #[.slice A n c] w (Drawn1 w 11) := by
  go_enter Try.func48, Try.ntmps48
  go_wp2_with fail
  refine (one_any A n c bs _ h hb hn hc).mono ?_
  rintro e w1 ⟨A2, n2, c2, xs, rfl, o2, hn2, hx, b2⟩
  go_wp2_with fail
  go_ret
  exact ⟨A2, n2, c2, xs, rfl, o2, hn2, hx, b2⟩
theorem drawPolyFix_any (A : Option Addr) (n c : Nat) (bs : List Int) (w : World) (h : RdB w A n bs) (hb : Bytes bs) (hn : n ≤ 1048576) (hc : n ≤ c) :
    Calls Try.prog 51 #[.slice A n c] w (Drawn1 w 11) := by
  go_enter Try.func51, Try.ntmps51
  go_wp2_with fail
  refine (one_any A n c bs _ h hb hn hc).mono ?_
  rintro e w1 ⟨A2, n2, c2, xs, rfl, o2, hn2, hx, b2⟩
  go_wp2_with fail
  go_ret
  exact ⟨A2, n2, c2, xs, rfl, o2, hn2, hx, b2⟩

/-- What a draw of two numbers leaves. -/
def DrawnII (w : World) (e : Ending) (w' : World) : Prop := ∃ u v : Int, e = .returned (.tuple #[.int .i64 u, .int .i64 v]) ∧ -1000 ≤ u ∧ u ≤ 1000 ∧ -1000 ≤ v ∧ v ≤ 1000 ∧ Below w.heap.size w w'

set_option maxHeartbeats 2000000 in
theorem l91Sum_any (A : Option Addr) (n c : Nat) (bs : List Int) (w : World) (h : RdB w A n bs) (hb : Bytes bs) (hn : n ≤ 1048576) (hc : n ≤ c) :
    Calls Try.prog 68 #[.slice A n c] w (DrawnII w) := by
  go_enter Try.func68, Try.ntmps68
  go_wp2_with fail
  refine (l6Open_any A n c bs _ h hb hn hc).mono ?_
  rintro e w1 ⟨g, rfl, _, _, r1, _⟩
  go_wp2_with fail
  refine (pick_any w g _ 4 _ r1 (by omega) (by omega) (by omega)).mono ?_
  rintro e w2 ⟨v2, rfl, _, hv2, r2, _⟩
  have hv2 := hv2 (by omega)
  go_wp2_with fail
  refine (pick_any w g _ 24 _ r2 (by omega) (by omega) (by omega)).mono ?_
  rintro e w3 ⟨v3, rfl, _, hv3, r3, _⟩
  have hv3 := hv3 (by omega)
  go_wp2_with fail
  refine (pick_any w g _ 24 _ r3 (by omega) (by omega) (by omega)).mono ?_
  rintro e w4 ⟨v4, rfl, _, hv4, r4, _⟩
  have hv4 := hv4 (by omega)
  go_wp2_with fail
  refine (pick_any w g _ 24 _ r4 (by omega) (by omega) (by omega)).mono ?_
  rintro e w5 ⟨v5, rfl, _, hv5, r5, _⟩
  have hv5 := hv5 (by omega)
  go_wp2_with fail
  refine (pick_any w g _ 6 _ r5 (by omega) (by omega) (by omega)).mono ?_
  rintro e w6 ⟨v6, rfl, _, hv6, r6, _⟩
  have hv6 := hv6 (by omega)
  go_wp2_with fail
  refine (pick_any w g _ 7 _ r6 (by omega) (by omega) (by omega)).mono ?_
  rintro e w7 ⟨v7, rfl, _, hv7, r7, _⟩
  have hv7 := hv7 (by omega)
  have hm : 0 ≤ v6 / 5 * v7 ∧ v6 / 5 * v7 ≤ 6 := by
    rcases (show v6 / 5 = 0 ∨ v6 / 5 = 1 by omega) with h5 | h5
    · rw [h5]; omega
    · rw [h5]; omega
  go_wp2_with fail
  refine (pick_any w g _ 24 _ r7 (by omega) (by omega) (by omega)).mono ?_
  rintro e w8 ⟨v8, rfl, _, hv8, r8, _⟩
  have hv8 := hv8 (by omega)
  go_wp2_with fail
  go_ret2
  exact ⟨_, _, rfl, by omega, by omega, by omega, by omega, r8.bel_⟩
theorem drawPolyCount_any (A : Option Addr) (n c : Nat) (bs : List Int) (w : World) (h : RdB w A n bs) (hb : Bytes bs) (hn : n ≤ 1048576) (hc : n ≤ c) :
    Calls Try.prog 29 #[.slice A n c] w (DrawnII w) := by
  go_enter Try.func29, Try.ntmps29
  go_wp2_with fail
  refine (l91Sum_any A n c bs _ h hb hn hc).mono ?_
  rintro e w1 ⟨u, v, rfl, h1, h2, h3, h4, b2⟩
  go_wp2_with fail
  go_ret2
  exact ⟨u, v, rfl, h1, h2, h3, h4, b2⟩
theorem drawPolyRest_any (A : Option Addr) (n c : Nat) (bs : List Int) (w : World) (h : RdB w A n bs) (hb : Bytes bs) (hn : n ≤ 1048576) (hc : n ≤ c) :
    Calls Try.prog 34 #[.slice A n c] w (DrawnII w) := by
  go_enter Try.func34, Try.ntmps34
  go_wp2_with fail
  refine (l91Sum_any A n c bs _ h hb hn hc).mono ?_
  rintro e w1 ⟨u, v, rfl, h1, h2, h3, h4, b2⟩
  go_wp2_with fail
  go_ret2
  exact ⟨u, v, rfl, h1, h2, h3, h4, b2⟩
theorem drawPolyFirst_any (A : Option Addr) (n c : Nat) (bs : List Int) (w : World) (h : RdB w A n bs) (hb : Bytes bs) (hn : n ≤ 1048576) (hc : n ≤ c) :
    Calls Try.prog 37 #[.slice A n c] w (DrawnII w) := by
  go_enter Try.func37, Try.ntmps37
  go_wp2_with fail
  refine (l91Sum_any A n c bs _ h hb hn hc).mono ?_
  rintro e w1 ⟨u, v, rfl, h1, h2, h3, h4, b2⟩
  go_wp2_with fail
  go_ret2
  exact ⟨u, v, rfl, h1, h2, h3, h4, b2⟩

set_option maxHeartbeats 2000000 in
theorem drawPolyShares_any (A : Option Addr) (n c : Nat) (bs : List Int) (w : World) (h : RdB w A n bs) (hb : Bytes bs) (hn : n ≤ 1048576) (hc : n ≤ c) :
    Calls Try.prog 42 #[.slice A n c] w (DrawnII w) := by
  go_enter Try.func42, Try.ntmps42
  go_wp2_with fail
  refine (l6Open_any A n c bs _ h hb hn hc).mono ?_
  rintro e w1 ⟨g, rfl, _, _, r1, _⟩
  go_wp2_with fail
  refine (pick_any w g _ 6 _ r1 (by omega) (by omega) (by omega)).mono ?_
  rintro e w2 ⟨v2, rfl, _, hv2, r2, _⟩
  have hv2 := hv2 (by omega)
  go_wp2_with fail
  refine (pick_any w g _ 24 _ r2 (by omega) (by omega) (by omega)).mono ?_
  rintro e w3 ⟨v3, rfl, _, hv3, r3, _⟩
  have hv3 := hv3 (by omega)
  go_wp2_with fail
  refine (pick_any w g _ 24 _ r3 (by omega) (by omega) (by omega)).mono ?_
  rintro e w4 ⟨v4, rfl, _, hv4, r4, _⟩
  have hv4 := hv4 (by omega)
  go_wp2_with fail
  refine (pick_any w g _ 31 _ r4 (by omega) (by omega) (by omega)).mono ?_
  rintro e w5 ⟨v5, rfl, _, hv5, r5, _⟩
  have hv5 := hv5 (by omega)
  go_wp2_with fail
  refine (pick_any w g _ 24 _ r5 (by omega) (by omega) (by omega)).mono ?_
  rintro e w6 ⟨v6, rfl, _, hv6, r6, _⟩
  have hv6 := hv6 (by omega)
  go_wp2_with fail
  refine (pick_any w g _ 24 _ r6 (by omega) (by omega) (by omega)).mono ?_
  rintro e w7 ⟨v7, rfl, _, hv7, r7, _⟩
  have hv7 := hv7 (by omega)
  go_wp2_with fail
  go_ret2
  exact ⟨_, _, rfl, by omega, by omega, by omega, by omega, r7.bel_⟩
end Go.Proofs.Ytliplbifgldjeaa
