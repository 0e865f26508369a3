/- The model's draws of chapter 2. -/
import Derived.Test.YtcfmnjkgebopcaaDraw1
import Derived.Test.YtcfmnjkgebopcaaTri
namespace Go.Proofs.Ytcfmnjkgebopcaa
open Go.RowKit

set_option maxHeartbeats 1000000 in
theorem round_any (A : Option Addr) (n c : Nat) (bs : List Int) (w : World) (h : RdB w A n bs) (hb : Bytes bs) (hn : n ≤ 1048576) (hc : n ≤ c) :
    Calls Try.prog 126 #[.slice A n c] w (DrawnI w) := by
  go_enter Try.func126, Try.ntmps126
  go_wp2_with fail
  refine (l6Open_any A n c bs _ h hb hn hc).mono ?_
  rintro e w1 ⟨g, rfl, _, _, r1, _⟩
  go_wp2_with fail
  refine (pick_any w g _ 60 _ r1 (by omega) (by omega) (by omega)).mono ?_
  rintro e w2 ⟨v2, rfl, _, hv2, r2, _⟩
  have hv2 := hv2 (by omega)
  go_wp2_with fail
  refine (pick_any w g _ 24 _ r2 (by omega) (by omega) (by omega)).mono ?_
  rintro e w3 ⟨v3, rfl, _, hv3, r3, _⟩
  have hv3 := hv3 (by omega)
  go_wp2_with fail
  refine (pick_any w g _ 24 _ r3 (by omega) (by omega) (by omega)).mono ?_
  rintro e w4 ⟨v4, rfl, _, hv4, r4, _⟩
  have hv4 := hv4 (by omega)
  go_wp2_with fail
  go_ret
  exact ⟨_, rfl, by omega, by omega, r4.bel_⟩
theorem drawTriRound_any (A : Option Addr) (n c : Nat) (bs : List Int) (w : World) (h : RdB w A n bs) (hb : Bytes bs) (hn : n ≤ 1048576) (hc : n ≤ c) :
    Calls Try.prog 72 #[.slice A n c] w (DrawnI w) := by
  go_enter Try.func72, Try.ntmps72
  go_wp2_with fail
  refine (round_any A n c bs _ h hb hn hc).mono ?_
  rintro e w1 ⟨v, rfl, h1, h2, b⟩
  go_wp2_with fail
  go_ret
  exact ⟨v, rfl, h1, h2, b⟩
theorem drawTriAll_any (A : Option Addr) (n c : Nat) (bs : List Int) (w : World) (h : RdB w A n bs) (hb : Bytes bs) (hn : n ≤ 1048576) (hc : n ≤ c) :
    Calls Try.prog 64 #[.slice A n c] w (DrawnI w) := by
  go_enter Try.func64, Try.ntmps64
  go_wp2_with fail
  refine (round_any A n c bs _ h hb hn hc).mono ?_
  rintro e w1 ⟨v, rfl, h1, h2, b⟩
  go_wp2_with fail
  go_ret
  exact ⟨v, rfl, h1, h2, b⟩
theorem drawTriCount_any (A : Option Addr) (n c : Nat) (bs : List Int) (w : World) (h : RdB w A n bs) (hb : Bytes bs) (hn : n ≤ 1048576) (hc : n ≤ c) :
    Calls Try.prog 68 #[.slice A n c] w (DrawnI w) := by
  go_enter Try.func68, Try.ntmps68
  go_wp2_with fail
  refine (round_any A n c bs _ h hb hn hc).mono ?_
  rintro e w1 ⟨v, rfl, h1, h2, b⟩
  go_wp2_with fail
  go_ret
  exact ⟨v, rfl, h1, h2, b⟩

/-- Three numbers from 1 to 62. -/
def Len3 (xs : List Int) : Prop := xs.length = 3 ∧ ∀ x ∈ xs, 1 ≤ x ∧ x ≤ 62
theorem len3_mk {a b c : Int} (h1 : 1 ≤ a ∧ a ≤ 62) (h2 : 1 ≤ b ∧ b ≤ 62) (h3 : 1 ≤ c ∧ c ≤ 62) : Len3 [a, b, c] := ⟨rfl, fun x hx => by
  simp only [List.mem_cons, List.not_mem_nil, or_false] at hx
  rcases hx with rfl | rfl | rfl <;> assumption⟩
/-- What a draw of three numbers leaves. -/
def DrawnT (w0 w : World) (g : Nat) (e : Ending) (w' : World) : Prop :=
  ∃ (gb p' : Nat) (xs : List Int), e = .returned (.slice (some ⟨gb, 0, none⟩) 3 3) ∧ Own w' w.heap.size (some ⟨gb, 0, none⟩) 3 3 xs ∧ Len3 xs ∧ Rdr w0 w' g p' ∧ p' ≤ 1000 ∧ w.grownBy w' (some g)
set_option maxHeartbeats 4000000 in
theorem triangle_any (w0 : World) (g p : Nat) (w : World) (h : Rdr w0 w g p) (hp : p ≤ 900) :
    Calls Try.prog 137 #[.pointer (some ⟨g, 0, none⟩)] w (DrawnT w0 w g) := by
  go_enter Try.func137, Try.ntmps137
  go_wp2_with fail
  refine (l91Length_any w0 g p _ h (by omega)).mono ?_
  rintro e w1 ⟨a, rfl, ha1, ha2, r1, g1⟩
  go_wp2_with fail
  refine (l91Length_any w0 g _ _ r1 (by omega)).mono ?_
  rintro e w2 ⟨b, rfl, hb1, hb2, r2, g2⟩
  have gg2 := grown_trans_row g1 g2
  obtain ⟨m, hm⟩ : ∃ m, m = max a b := ⟨_, rfl⟩
  have hm1 : 1 ≤ m ∧ m ≤ 60 := by omega
  have fin : ∀ (W : World) (q : Nat) (x y z : Int), Rdr w0 W g q → q ≤ 1000 → w.grownBy W (some g) → (1 ≤ x ∧ x ≤ 62) → (1 ≤ y ∧ y ≤ 62) → (1 ≤ z ∧ z ≤ 62) →
      DrawnT w0 w g (.returned (.slice (some ⟨W.heap.size, 0, none⟩) 3 3)) (W.alloc (.cells #[.int .i64 x, .int .i64 y, .int .i64 z] 3)) := fun W q x y z hr hq hg h1 h2 h3 =>
    ⟨_, q, [x, y, z], rfl, Own.lit W (B := w.heap.size) hg.size [x, y, z] (by simp), len3_mk h1 h2 h3, hr.kept (World.grownBy_alloc W _ none) (fun k e => by cases e), hq, grown_new hg (World.grownBy_alloc W _ none) (fun j e => by cases e)⟩
  have FIN := Lib.hid fin
  clear fin
  rcases (show a ≤ b ∨ b < a by omega) with hab | hab
  all_goals
    go_wp2_with fail
    refine (pick_any w0 g _ a _ r2 (by omega) (by omega) (by omega)).mono ?_
    rintro e w3 ⟨v, rfl, _, hv, r3, g3⟩
    have hv := hv (by omega)
    have gg3 := grown_trans_row gg2 g3
    rcases (show 60 ≤ m + v ∨ m + v < 60 by omega) with hcv | hcv
    all_goals
      go_wp2_with fail
      refine (pick_any w0 g _ 6 _ r3 (by omega) (by omega) (by omega)).mono ?_
      rintro e w4 ⟨u, rfl, _, hu, r4, g4⟩
      have hu := hu (by omega)
      have gg4 := grown_trans_row gg3 g4
      rcases (show u = 0 ∨ u = 1 ∨ u = 2 ∨ (3 ≤ u ∧ ¬ u = 0 ∧ ¬ u = 1 ∧ ¬ u = 2) by omega) with rfl | rfl | rfl | hu3
      · go_wp2_with fail
        go_ret
        exact FIN.out _ _ _ _ _ r4 (by omega) gg4 (by omega) (by omega) (by omega)
      · go_wp2_with fail
        refine (pick_any w0 g _ 5 _ r4 (by omega) (by omega) (by omega)).mono ?_
        rintro e w5 ⟨t, rfl, _, ht, r5, g5⟩
        have ht := ht (by omega)
        go_wp2_with fail
        go_ret
        exact FIN.out _ _ _ _ _ r5 (by omega) (grown_trans_row gg4 g5) (by omega) (by omega) (by omega)
      · go_wp2_with fail
        refine (pick_any w0 g _ 3 _ r4 (by omega) (by omega) (by omega)).mono ?_
        rintro e w5 ⟨t, rfl, _, ht, r5, g5⟩
        have ht := ht (by omega)
        by_cases ht0 : t = 0
        · subst ht0
          go_wp2_with fail
          refine (pick_any w0 g _ 3 _ r5 (by omega) (by omega) (by omega)).mono ?_
          rintro e w6 ⟨s, rfl, _, hs, r6, g6⟩
          have hs := hs (by omega)
          go_wp2_with fail
          go_ret
          exact FIN.out _ _ _ _ _ r6 (by omega) (grown_trans_row (grown_trans_row gg4 g5) g6) (by omega) (by omega) (by omega)
        · go_wp2_with fail
          go_ret
          exact FIN.out _ _ _ _ _ r5 (by omega) (grown_trans_row gg4 g5) (by omega) (by omega) (by omega)
      · obtain ⟨_, k0, k1, k2⟩ := hu3
        go_wp2_with fail
        go_ret
        exact FIN.out _ _ _ _ _ r4 (by omega) gg4 (by omega) (by omega) (by omega)
/-- What a law's draw of a triangle leaves. -/
def DrawnT1 (w : World) (e : Ending) (w' : World) : Prop :=
  ∃ (gb : Nat) (xs : List Int), e = .returned (.slice (some ⟨gb, 0, none⟩) 3 3) ∧ Own w' w.heap.size (some ⟨gb, 0, none⟩) 3 3 xs ∧ Len3 xs ∧ Below w.heap.size w w'
theorem tri_any (A : Option Addr) (n c : Nat) (bs : List Int) (w : World) (h : RdB w A n bs) (hb : Bytes bs) (hn : n ≤ 1048576) (hc : n ≤ c) :
    Calls Try.prog 130 #[.slice A n c] w (DrawnT1 w) := by
  go_enter Try.func130, Try.ntmps130
  go_wp2_with fail
  refine (l6Open_any A n c bs _ h hb hn hc).mono ?_
  rintro e w1 ⟨g, rfl, _, _, r1, _⟩
  have hs := r1.bel_.size
  go_wp2_with fail
  refine (triangle_any w g 0 _ r1 (by omega)).mono ?_
  rintro e w2 ⟨gb, p', xs, rfl, o2, hx, r2, hp', g2⟩
  go_wp2_with fail
  go_ret
  exact ⟨gb, xs, rfl, o2.lower hs, hx, r2.bel_⟩
theorem drawTriKind_any (A : Option Addr) (n c : Nat) (bs : List Int) (w : World) (h : RdB w A n bs) (hb : Bytes bs) (hn : n ≤ 1048576) (hc : n ≤ c) :
    Calls Try.prog 74 #[.slice A n c] w (DrawnT1 w) := by
  go_enter Try.func74, Try.ntmps74
  go_wp2_with fail
  refine (tri_any A n c bs _ h hb hn hc).mono ?_
  rintro e w1 ⟨gb, xs, rfl, o, hx, b⟩
  go_wp2_with fail
  go_ret
  exact ⟨gb, xs, rfl, o, hx, b⟩
theorem drawTriArea_any (A : Option Addr) (n c : Nat) (bs : List Int) (w : World) (h : RdB w A n bs) (hb : Bytes bs) (hn : n ≤ 1048576) (hc : n ≤ c) :
    Calls Try.prog 77 #[.slice A n c] w (DrawnT1 w) := by
  go_enter Try.func77, Try.ntmps77
  go_wp2_with fail
  refine (tri_any A n c bs _ h hb hn hc).mono ?_
  rintro e w1 ⟨gb, xs, rfl, o, hx, b⟩
  go_wp2_with fail
  go_ret
  exact ⟨gb, xs, rfl, o, hx, b⟩
theorem drawTriGrow_any (A : Option Addr) (n c : Nat) (bs : List Int) (w : World) (h : RdB w A n bs) (hb : Bytes bs) (hn : n ≤ 1048576) (hc : n ≤ c) :
    Calls Try.prog 89 #[.slice A n c] w (DrawnT1 w) := by
  go_enter Try.func89, Try.ntmps89
  go_wp2_with fail
  refine (tri_any A n c bs _ h hb hn hc).mono ?_
  rintro e w1 ⟨gb, xs, rfl, o, hx, b⟩
  go_wp2_with fail
  go_ret
  exact ⟨gb, xs, rfl, o, hx, b⟩
theorem drawTriHalf_any (A : Option Addr) (n c : Nat) (bs : List Int) (w : World) (h : RdB w A n bs) (hb : Bytes bs) (hn : n ≤ 1048576) (hc : n ≤ c) :
    Calls Try.prog 92 #[.slice A n c] w (DrawnT1 w) := by
  go_enter Try.func92, Try.ntmps92
  go_wp2_with fail
  refine (tri_any A n c bs _ h hb hn hc).mono ?_
  rintro e w1 ⟨gb, xs, rfl, o, hx, b⟩
  go_wp2_with fail
  go_ret
  exact ⟨gb, xs, rfl, o, hx, b⟩
end Go.Proofs.Ytcfmnjkgebopcaa
