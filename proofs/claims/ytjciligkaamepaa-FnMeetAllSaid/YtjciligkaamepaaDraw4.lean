/- The model's draws of chapter 4: bundles, distances. -/
import Derived.Test.YtjciligkaamepaaDraw
namespace Go.Proofs.Ytjciligkaamepaa
open Go.RowKit

theorem drawChainReach_any (A : Option Addr) (n c : Nat) (bs : List Int) (w : World) (h : RdB w A n bs) (hb : Bytes bs) (hn : n ≤ 1048576) (hc : n ≤ c) :
    Calls Try.prog 18 #[.slice A n c] w (Drawn1 w 11) := by
  go_enter Try.func18, Try.ntmps18
  go_wp2_with fail
  refine (one_any A n c bs _ h hb hn hc).mono ?_
  rintro e w1 ⟨A2, n2, c2, xs, rfl, o2, hn2, hx, b2⟩
  go_wp2_with fail
  go_ret
  exact ⟨A2, n2, c2, xs, rfl, o2, hn2, hx, b2⟩

theorem drawChainStep_any (A : Option Addr) (n c : Nat) (bs : List Int) (w : World) (h : RdB w A n bs) (hb : Bytes bs) (hn : n ≤ 1048576) (hc : n ≤ c) :
    Calls Try.prog 23 #[.slice A n c] w (Drawn1 w 11) := by
  go_enter Try.func23, Try.ntmps23
  go_wp2_with fail
  refine (one_any A n c bs _ h hb hn hc).mono ?_
  rintro e w1 ⟨A2, n2, c2, xs, rfl, o2, hn2, hx, b2⟩
  go_wp2_with fail
  go_ret
  exact ⟨A2, n2, c2, xs, rfl, o2, hn2, hx, b2⟩

theorem drawChainClose_any (A : Option Addr) (n c : Nat) (bs : List Int) (w : World) (h : RdB w A n bs) (hb : Bytes bs) (hn : n ≤ 1048576) (hc : n ≤ c) :
    Calls Try.prog 34 #[.slice A n c] w (Drawn1 w 11) := by
  go_enter Try.func34, Try.ntmps34
  go_wp2_with fail
  refine (one_any A n c bs _ h hb hn hc).mono ?_
  rintro e w1 ⟨A2, n2, c2, xs, rfl, o2, hn2, hx, b2⟩
  go_wp2_with fail
  go_ret
  exact ⟨A2, n2, c2, xs, rfl, o2, hn2, hx, b2⟩

theorem drawChainHold_any (A : Option Addr) (n c : Nat) (bs : List Int) (w : World) (h : RdB w A n bs) (hb : Bytes bs) (hn : n ≤ 1048576) (hc : n ≤ c) :
    Calls Try.prog 38 #[.slice A n c] w (Drawn1 w 11) := by
  go_enter Try.func38, Try.ntmps38
  go_wp2_with fail
  refine (one_any A n c bs _ h hb hn hc).mono ?_
  rintro e w1 ⟨A2, n2, c2, xs, rfl, o2, hn2, hx, b2⟩
  go_wp2_with fail
  go_ret
  exact ⟨A2, n2, c2, xs, rfl, o2, hn2, hx, b2⟩

/-- What a draw of a bundle and a distance leaves. -/
def DrawnF (w : World) (e : Ending) (w' : World) : Prop :=
  ∃ (A : Option Addr) (n c : Nat) (xs : List Int) (v : Int), e = .returned (.tuple #[.slice A n c, .int .i64 v]) ∧ Own w' w.heap.size A n c xs ∧ n ≤ 11 ∧ Lens xs ∧ -2000 ≤ v ∧ v ≤ 2000 ∧ Below w.heap.size w w'

set_option maxHeartbeats 2000000 in
theorem l91Far_any (A : Option Addr) (n c : Nat) (bs : List Int) (w : World) (h : RdB w A n bs) (hb : Bytes bs) (hn : n ≤ 1048576) (hc : n ≤ c) :
    Calls Try.prog 54 #[.slice A n c] w (DrawnF w) := by
  go_enter Try.func54, Try.ntmps54
  go_wp2_with fail
  refine (l6Open_any A n c bs _ h hb hn hc).mono ?_
  rintro e w1 ⟨g, rfl, _, _, r1, _⟩
  have hs := r1.bel_.size
  have hl := r1.lt
  go_wp2_with fail
  refine (bundle_any w g 0 _ r1 (by omega)).mono ?_
  rintro e w2 ⟨A2, n2, c2, p', xs, rfl, o2, hn2, hx, r2, hp', g2⟩
  go_wp2_with fail
  refine (pick_any w g _ 100 _ r2 (by omega) (by omega) (by omega)).mono ?_
  rintro e w3 ⟨v3, rfl, _, hv3, r3, g3⟩
  have hv3 := hv3 (by omega)
  have o3 := o2.far g3 (fun j e => by cases e; exact .inl hl)
  go_wp2_with fail
  refine (pick_any w g _ 24 _ r3 (by omega) (by omega) (by omega)).mono ?_
  rintro e w4 ⟨v4, rfl, _, hv4, r4, g4⟩
  have hv4 := hv4 (by omega)
  have o4 := o3.far g4 (fun j e => by cases e; exact .inl hl)
  go_wp2_with fail
  refine (pick_any w g _ 24 _ r4 (by omega) (by omega) (by omega)).mono ?_
  rintro e w5 ⟨v5, rfl, _, hv5, r5, g5⟩
  have hv5 := hv5 (by omega)
  have o5 := o4.far g5 (fun j e => by cases e; exact .inl hl)
  go_wp2_with fail
  go_ret2
  exact ⟨A2, n2, c2, xs, _, rfl, o5.lower hs, hn2, hx, by omega, by omega, r5.bel_⟩

theorem drawChainTo_any (A : Option Addr) (n c : Nat) (bs : List Int) (w : World) (h : RdB w A n bs) (hb : Bytes bs) (hn : n ≤ 1048576) (hc : n ≤ c) :
    Calls Try.prog 27 #[.slice A n c] w (DrawnF w) := by
  go_enter Try.func27, Try.ntmps27
  go_wp2_with fail
  refine (l91Far_any A n c bs _ h hb hn hc).mono ?_
  rintro e w1 ⟨A2, n2, c2, xs, v, rfl, o2, hn2, hx, h1, h2, b2⟩
  go_wp2_with fail
  go_ret2
  exact ⟨A2, n2, c2, xs, v, rfl, o2, hn2, hx, h1, h2, b2⟩

theorem drawChainBest_any (A : Option Addr) (n c : Nat) (bs : List Int) (w : World) (h : RdB w A n bs) (hb : Bytes bs) (hn : n ≤ 1048576) (hc : n ≤ c) :
    Calls Try.prog 40 #[.slice A n c] w (DrawnF w) := by
  go_enter Try.func40, Try.ntmps40
  go_wp2_with fail
  refine (l91Far_any A n c bs _ h hb hn hc).mono ?_
  rintro e w1 ⟨A2, n2, c2, xs, v, rfl, o2, hn2, hx, h1, h2, b2⟩
  go_wp2_with fail
  go_ret2
  exact ⟨A2, n2, c2, xs, v, rfl, o2, hn2, hx, h1, h2, b2⟩

/-- What a draw of two bundles and a distance leaves. -/
def DrawnM (w : World) (e : Ending) (w' : World) : Prop :=
  ∃ (A : Option Addr) (n c : Nat) (xs : List Int) (B : Option Addr) (m k : Nat) (ys : List Int) (v : Int), e = .returned (.tuple #[.slice A n c, .slice B m k, .int .i64 v]) ∧ Own w' w.heap.size A n c xs ∧ n ≤ 11 ∧ Lens xs ∧ Own w' w.heap.size B m k ys ∧ m ≤ 11 ∧ Lens ys ∧ -2000 ≤ v ∧ v ≤ 2000 ∧ Below w.heap.size w w'

set_option maxHeartbeats 2000000 in
theorem drawChainMeet_any (A : Option Addr) (n c : Nat) (bs : List Int) (w : World) (h : RdB w A n bs) (hb : Bytes bs) (hn : n ≤ 1048576) (hc : n ≤ c) :
    Calls Try.prog 30 #[.slice A n c] w (DrawnM w) := by
  go_enter Try.func30, Try.ntmps30
  go_wp2_with fail
  refine (l6Open_any A n c bs _ h hb hn hc).mono ?_
  rintro e w1 ⟨g, rfl, _, _, r1, _⟩
  have hs := r1.bel_.size
  have hl := r1.lt
  have hgb := r1.base
  go_wp2_with fail
  refine (pick_any w g _ 4 _ r1 (by omega) (by omega) (by omega)).mono ?_
  rintro e w2 ⟨v2, rfl, hv20, hv2, r2, g2⟩
  have hv2 := hv2 (by omega)
  have s2 := g2.size
  obtain ⟨q, rfl⟩ : ∃ q : Nat, v2 = q := ⟨v2.toNat, by omega⟩
  go_wp2_with fail
  rw [show (1 + (q : Int)) = ((1 + q : Nat) : Int) by omega]
  refine (sticksQ_any w g _ (1 + q) _ r2 (by omega) (by omega)).mono ?_
  rintro e w3 ⟨A3, n3, c3, p3, xs, rfl, o3, hn3, hx, r3, hp3, g3⟩
  have s3 := g3.size
  go_wp2_with fail
  refine (pick_any w g _ 4 _ r3 (by omega) (by omega) (by omega)).mono ?_
  rintro e w4 ⟨v4, rfl, hv40, hv4, r4, g4⟩
  have hv4 := hv4 (by omega)
  have s4 := g4.size
  have o4 := o3.far g4 (fun j e => by cases e; exact .inl (by omega))
  obtain ⟨q4, rfl⟩ : ∃ q : Nat, v4 = q := ⟨v4.toNat, by omega⟩
  go_wp2_with fail
  rw [show (1 + (q4 : Int)) = ((1 + q4 : Nat) : Int) by omega]
  refine (sticksQ_any w g _ (1 + q4) _ r4 (by omega) (by omega)).mono ?_
  rintro e w5 ⟨A5, n5, c5, p5, ys, rfl, o5, hn5, hy, r5, hp5, g5⟩
  have s5 := g5.size
  have o6 := o4.far g5 (fun j e => by cases e; exact .inl (by omega))
  go_wp2_with fail
  refine (pick_any w g _ 120 _ r5 (by omega) (by omega) (by omega)).mono ?_
  rintro e w6 ⟨v6, rfl, _, hv6, r6, g6⟩
  have hv6 := hv6 (by omega)
  have o7 := o6.far g6 (fun j e => by cases e; exact .inl (by omega))
  have o8 := o5.far g6 (fun j e => by cases e; exact .inl (by omega))
  go_wp2_with fail
  refine (pick_any w g _ 24 _ r6 (by omega) (by omega) (by omega)).mono ?_
  rintro e w7 ⟨v7, rfl, _, hv7, r7, g7⟩
  have hv7 := hv7 (by omega)
  have o9 := o7.far g7 (fun j e => by cases e; exact .inl (by omega))
  have o10 := o8.far g7 (fun j e => by cases e; exact .inl (by omega))
  go_wp2_with fail
  go_ret3
  exact ⟨A3, n3, c3, xs, A5, n5, c5, ys, _, rfl, o9.lower (by omega), by omega, hx, o10.lower (by omega), by omega, hy, by omega, by omega, r7.bel_⟩
end Go.Proofs.Ytjciligkaamepaa
