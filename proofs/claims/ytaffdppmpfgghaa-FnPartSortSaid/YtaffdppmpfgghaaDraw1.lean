/- The model's draws of chapter 1: lists and numbers. -/
import Derived.Test.YtaffdppmpfgghaaLaw1d
namespace Go.Proofs.Ytaffdppmpfgghaa
open Go.RowKit

/-- What a draw of a number leaves. -/
def DrawnI (w : World) (e : Ending) (w' : World) : Prop := ∃ v : Int, e = .returned (.int .i64 v) ∧ -1000 ≤ v ∧ v ≤ 1000 ∧ Below w.heap.size w w'

theorem drawMany_any (A : Option Addr) (n c : Nat) (bs : List Int) (w : World) (h : RdB w A n bs) (hb : Bytes bs) (hn : n ≤ 1048576) (hc : n ≤ c) :
    Calls Try.prog 30 #[.slice A n c] w (Drawn1 w 11) := by
  go_enter Try.func30, Try.ntmps30
  go_wp2_with fail
  refine (one_any A n c bs _ h hb hn hc).mono ?_
  rintro e w1 ⟨A2, n2, c2, xs, rfl, o2, hn2, hx, b2⟩
  go_wp2_with fail
  go_ret
  exact ⟨A2, n2, c2, xs, rfl, o2, hn2, hx, b2⟩
theorem drawWidest_any (A : Option Addr) (n c : Nat) (bs : List Int) (w : World) (h : RdB w A n bs) (hb : Bytes bs) (hn : n ≤ 1048576) (hc : n ≤ c) :
    Calls Try.prog 34 #[.slice A n c] w (Drawn1 w 11) := by
  go_enter Try.func34, Try.ntmps34
  go_wp2_with fail
  refine (one_any A n c bs _ h hb hn hc).mono ?_
  rintro e w1 ⟨A2, n2, c2, xs, rfl, o2, hn2, hx, b2⟩
  go_wp2_with fail
  go_ret
  exact ⟨A2, n2, c2, xs, rfl, o2, hn2, hx, b2⟩

set_option maxHeartbeats 1000000 in
theorem drawLongFree_any (A : Option Addr) (n c : Nat) (bs : List Int) (w : World) (h : RdB w A n bs) (hb : Bytes bs) (hn : n ≤ 1048576) (hc : n ≤ c) :
    Calls Try.prog 41 #[.slice A n c] w (DrawnI w) := by
  go_enter Try.func41, Try.ntmps41
  go_wp2_with fail
  refine (l6Open_any A n c bs _ h hb hn hc).mono ?_
  rintro e w1 ⟨g, rfl, _, _, r1, _⟩
  go_wp2_with fail
  refine (pick_any w g _ 54 _ r1 (by omega) (by omega) (by omega)).mono ?_
  rintro e w2 ⟨v2, rfl, _, hv2, r2, _⟩
  have hv2 := hv2 (by omega)
  go_wp2_with fail
  refine (pick_any w g _ 24 _ r2 (by omega) (by omega) (by omega)).mono ?_
  rintro e w3 ⟨v3, rfl, _, hv3, r3, _⟩
  have hv3 := hv3 (by omega)
  go_wp2_with fail
  refine (pick_any w g _ 24 _ r3 (by omega) (by omega) (by omega)).mono ?_
  rintro e w4 ⟨v4, rfl, _, hv4, r4, _⟩
  have hv4 := hv4 (by omega)
  go_wp2_with fail
  go_ret
  exact ⟨_, rfl, by omega, by omega, r4.bel_⟩
set_option maxHeartbeats 1000000 in
theorem drawTryFree_any (A : Option Addr) (n c : Nat) (bs : List Int) (w : World) (h : RdB w A n bs) (hb : Bytes bs) (hn : n ≤ 1048576) (hc : n ≤ c) :
    Calls Try.prog 45 #[.slice A n c] w (DrawnI w) := by
  go_enter Try.func45, Try.ntmps45
  go_wp2_with fail
  refine (l6Open_any A n c bs _ h hb hn hc).mono ?_
  rintro e w1 ⟨g, rfl, _, _, r1, _⟩
  go_wp2_with fail
  refine (pick_any w g _ 8 _ r1 (by omega) (by omega) (by omega)).mono ?_
  rintro e w2 ⟨v2, rfl, _, hv2, r2, _⟩
  have hv2 := hv2 (by omega)
  go_wp2_with fail
  refine (pick_any w g _ 24 _ r2 (by omega) (by omega) (by omega)).mono ?_
  rintro e w3 ⟨v3, rfl, _, hv3, r3, _⟩
  have hv3 := hv3 (by omega)
  go_wp2_with fail
  refine (pick_any w g _ 24 _ r3 (by omega) (by omega) (by omega)).mono ?_
  rintro e w4 ⟨v4, rfl, _, hv4, r4, _⟩
  have hv4 := hv4 (by omega)
  go_wp2_with fail
  go_ret
  exact ⟨_, rfl, by omega, by omega, r4.bel_⟩

/-- Each number is from 0 to 61. -/
def Lens61 (xs : List Int) : Prop := ∀ x ∈ xs, 0 ≤ x ∧ x ≤ 61
theorem lens61_set {xs : List Int} (h : Lens61 xs) (k : Nat) {v : Int} (h1 : 0 ≤ v) (h2 : v ≤ 61) : Lens61 (xs.set k v) := fun x hx => by
  rcases List.mem_or_eq_of_mem_set hx with h3 | h3
  · exact h x h3
  · subst h3; exact ⟨h1, h2⟩
/-- What a draw of a ruler leaves. -/
def DrawnR (w0 w : World) (g top : Nat) (e : Ending) (w' : World) : Prop :=
  ∃ (A : Option Addr) (n c p' : Nat) (xs : List Int), e = .returned (.slice A n c) ∧ Own w' w.heap.size A n c xs ∧ 1 ≤ n ∧ n ≤ top ∧ Lens61 xs ∧ Rdr w0 w' g p' ∧ p' ≤ 1000 ∧ w.grownBy w' (some g)
set_option maxHeartbeats 2000000 in
theorem ruler_any (w0 : World) (g p m : Nat) (w : World) (h : Rdr w0 w g p) (hp : p ≤ 900) (hm0 : 1 ≤ m) (hm : m ≤ 11) :
    Calls Try.prog 134 #[.pointer (some ⟨g, 0, none⟩), .int .i64 m] w (DrawnR w0 w g m) := by
  have hl := Own.lit w (Nat.le_refl _) [] (by simp)
  have hglt := h.lt
  have h0 : Rdr w0 (w.alloc (.cells #[] 3)) g p := h.kept (World.grownBy_alloc w _ none) (fun k e => by cases e)
  go_enter Try.func134, Try.ntmps134
  go_wp2_with fail
  refine (pick_any w0 g p m _ h0 (by omega) (by omega) (by omega)).mono ?_
  rintro e w1 ⟨v1, rfl, _, hv1, r1, g1⟩
  have hv1 := hv1 (by omega)
  have o1 := hl.far g1 (fun j e => by cases e; exact .inl hglt)
  have gg1 := grown_trans_row (World.grownBy_alloc w (.cells #[] 3) (some g)) g1
  obtain ⟨N, hN⟩ : ∃ N : Nat, v1 = (N : Int) - 1 := ⟨(v1 + 1).toNat, by omega⟩
  subst hN
  have eN : (1 : Int) + ((N : Int) - 1) = N := by omega
  go_wp2_with fail
  go_loopw [5, 7] (fun l i wr => ∃ (k p' c : Nat) (A : Option Addr) (xs : List Int), k ≤ N ∧ i = .int .i64 k ∧ l = .slice A k c ∧ Own wr w.heap.size A k c xs ∧ Lens61 xs ∧ Rdr w0 wr g p' ∧ p' ≤ p + 1 + 3 * k ∧ w.grownBy wr (some g)) (fun _ i _ => N - (intOf i).toNat)
  case atStart => exact ⟨0, p + 1, _, _, [], Nat.zero_le _, rfl, rfl, o1, fun x hx => by simp at hx, r1, by omega, gg1⟩
  case round =>
    obtain ⟨k, p', c, A, xs, hk, rfl, rfl, ho, hx, hr, hp', hg⟩ := hrel
    clear hl o1 r1 g1 gg1 h0
    by_cases hlt : k < N
    · go_wp2_with fail
      refine (l91Length_any w0 g p' _ hr (by omega)).mono ?_
      rintro e w2 ⟨v, rfl, hv1, hv2, r2, g2⟩
      have o2 := ho.far g2 (fun j e => by cases e; exact .inl hglt)
      have g3 := grown_trans_row hg g2
      have hs3 := g3.size
      have oa := o2.al (.cells #[.int .i64 v] 3)
      go_wp2_with (at_builtin; refine wpList_app rfl (.tmp 18) (.tmp 21) rfl rfl oa rfl (rd_one _ _) (by omega) (by simp; omega) ?_; intro A' c' W' ho' hg')
      have r3 := (r2.kept (World.grownBy_alloc w2 (.cells #[.int .i64 v] 3) none) (fun k e => by cases e)).kept hg' (fun j e => by have := oa.row j e; omega)
      have g4 := grown_new (grown_new g3 (World.grownBy_alloc w2 (.cells #[.int .i64 v] 3) none) (fun j e => by cases e)) hg' (fun j e => (oa.row j e).1)
      go_roundw
      case rel => exact ⟨k + 1, p' + 3, c', A', xs ++ [v], by omega, by go_num, rfl, ho', fun x hx' => by
          rcases List.mem_append.1 hx' with h1 | h1
          · exact hx x h1
          · simp at h1; subst h1; omega, r3, by omega, g4⟩
      case measure => simp [intOf]; omega
    · obtain rfl : k = N := by omega
      go_wp2_with fail
      refine (pick_any w0 g _ 30 _ hr (by omega) (by omega) (by omega)).mono ?_
      rintro e w3 ⟨v, rfl, _, hv, r3, g3⟩
      have hv := hv (by omega)
      have o4 := ho.far g3 (fun j e => by cases e; exact .inl hglt)
      have g4 := grown_trans_row hg g3
      by_cases hv0 : v = 0
      · subst hv0
        go_wp2_with fail
        refine (pick_any w0 g _ k _ r3 (by omega) (by omega) (by omega)).mono ?_
        rintro e w5 ⟨v5, rfl, _, hv5, r5, g5⟩
        have hv5 := hv5 (by omega)
        have o5 := o4.far g5 (fun j e => by cases e; exact .inl hglt)
        have gg5 := grown_trans_row g4 g5
        obtain ⟨q, rfl⟩ : ∃ q : Nat, v5 = q := ⟨v5.toNat, by omega⟩
        go_wp2_with fail
        refine (pick_any w0 g _ 2 _ r5 (by omega) (by omega) (by omega)).mono ?_
        rintro e w6 ⟨v6, rfl, _, hv6, r6, g6⟩
        have hv6 := hv6 (by omega)
        have o6 := o5.far g6 (fun j e => by cases e; exact .inl hglt)
        have gg6 := grown_trans_row gg5 g6
        obtain ⟨b, rfl, hb0, hb1⟩ := o6.form (by omega)
        have ox := o6.cell q (by omega)
        have fx := o6.free q
        have os := o6.stored q (v6 * 61)
        have HS := Lib.hid os
        clear os
        go_wp2_with fail
        go_ret
        exact ⟨_, k, c, _, _, rfl, HS.out.1, by omega, by omega, lens61_set hx q (by omega) (by omega), r6.kept HS.out.2 (fun j e => by cases e; omega), by omega, grown_new gg6 HS.out.2 (fun j e => by cases e; omega)⟩
      · go_wp2_with fail
        go_ret
        exact ⟨A, k, c, _, xs, rfl, o4, by omega, by omega, hx, r3, by omega, g4⟩

/-- What a law's draw of a ruler leaves. -/
def DrawnR1 (w : World) (top : Nat) (e : Ending) (w' : World) : Prop :=
  ∃ (A : Option Addr) (n c : Nat) (xs : List Int), e = .returned (.slice A n c) ∧ Own w' w.heap.size A n c xs ∧ 1 ≤ n ∧ n ≤ top ∧ Lens61 xs ∧ Below w.heap.size w w'
theorem drawSort_any (A : Option Addr) (n c : Nat) (bs : List Int) (w : World) (h : RdB w A n bs) (hb : Bytes bs) (hn : n ≤ 1048576) (hc : n ≤ c) :
    Calls Try.prog 77 #[.slice A n c] w (DrawnR1 w 10) := by
  go_enter Try.func77, Try.ntmps77
  go_wp2_with fail
  refine (l6Open_any A n c bs _ h hb hn hc).mono ?_
  rintro e w1 ⟨g, rfl, _, _, r1, _⟩
  have hs := r1.bel_.size
  go_wp2_with fail
  refine (ruler_any w g _ 10 _ r1 (by omega) (by omega) (by omega)).mono ?_
  rintro e w2 ⟨A2, n2, c2, p', xs, rfl, o2, hn1, hn2, hx, r2, hp', g2⟩
  go_wp2_with fail
  go_ret
  exact ⟨A2, n2, c2, xs, rfl, o2.lower hs, hn1, hn2, hx, r2.bel_⟩

set_option maxHeartbeats 2000000 in
theorem drawFree_any (A : Option Addr) (n c : Nat) (bs : List Int) (w : World) (h : RdB w A n bs) (hb : Bytes bs) (hn : n ≤ 1048576) (hc : n ≤ c) :
    Calls Try.prog 38 #[.slice A n c] w (Drawn1 w 11) := by
  go_enter Try.func38, Try.ntmps38
  go_wp2_with fail
  refine (l6Open_any A n c bs _ h hb hn hc).mono ?_
  rintro e w1 ⟨g, rfl, _, _, r1, _⟩
  have hs := r1.bel_.size
  have hglt := r1.lt
  go_wp2_with fail
  refine (pick_any w g _ 3 _ r1 (by omega) (by omega) (by omega)).mono ?_
  rintro e w2 ⟨v2, rfl, _, hv2, r2, g2⟩
  have hv2 := hv2 (by omega)
  have hs2 := r2.bel_.size
  have hglt2 := r2.lt
  by_cases hv0 : v2 = 0
  · subst hv0
    go_wp2_with fail
    refine (bundle_any w g _ _ r2 (by omega)).mono ?_
    rintro e w3 ⟨A2, n2, c2, p', xs, rfl, o2, hn2, hx, r3, hp', g3⟩
    go_wp2_with fail
    go_ret
    exact ⟨A2, n2, c2, xs, rfl, o2.lower hs2, by omega, hx, r3.bel_⟩
  · have hl := Own.lit w2 (B := w.heap.size) hs2 [] (by simp)
    have r3 : Rdr w (w2.alloc (.cells #[] 3)) g _ := r2.kept (World.grownBy_alloc w2 _ none) (fun k e => by cases e)
    go_wp2_with fail
    refine (pick_any w g _ 3 _ r3 (by omega) (by omega) (by omega)).mono ?_
    rintro e w4 ⟨v4, rfl, _, hv4, r4, g4⟩
    have hv4 := hv4 (by omega)
    have o4 : Own w4 (g + 1) _ 0 0 [] := (Own.lit w2 (B := g + 1) (by omega) [] (by simp)).far g4 (fun j e => by cases e; exact .inl (by omega))
    go_wp2_with fail
    go_loopw [4, 5, 6, 7] (fun l la ne _ wr => ∃ (k p' c : Nat) (A : Option Addr) (xs : List Int) (a b : Int), k ≤ 7 ∧ l = .slice A k c ∧ la = .int .i64 a ∧ ne = .int .i64 b ∧ 0 ≤ a ∧ a ≤ 60 ∧ 1 ≤ b ∧ b ≤ 200 ∧ Own wr (g + 1) A k c xs ∧ Lens xs ∧ Rdr w wr g p' ∧ p' ≤ 10 + 3 * k) (fun l _ _ _ _ => 8 - sliceLen l)
    case atStart => exact ⟨0, _, _, _, [], _, _, Nat.zero_le _, rfl, rfl, rfl, by omega, by omega, by omega, by omega, o4, fun x hx => by simp at hx, r4, by omega⟩
    case round =>
      obtain ⟨k, p', c, A, xs, a, b, hk, rfl, rfl, rfl, ha1, ha2, hb1, hb2, ho, hx, hr, hp'⟩ := hrel
      clear hl o4 r4 r3 g4
      have hgr := hr.base
      by_cases h60 : b ≤ 60
      · go_wp2_with fail
        refine (pick_any w g _ 6 _ hr (by omega) (by omega) (by omega)).mono ?_
        rintro e w5 ⟨v5, rfl, _, hv5, r5, g5⟩
        have hv5 := hv5 (by omega)
        have o5 := ho.far g5 (fun j e => by cases e; exact .inl (by omega))
        by_cases hlen : (k : Int) < 2 + v5
        · have oa := o5.al (.cells #[.int .i64 b] 3)
          have hl5 := r5.lt
          go_wp2_with (at_builtin; refine wpList_app rfl (.tmp 29) (.tmp 31) rfl rfl oa rfl (rd_one _ _) (by omega) (by simp; omega) ?_; intro A' c' W' ho' hg')
          have r6 := (r5.kept (World.grownBy_alloc w5 (.cells #[.int .i64 b] 3) none) (fun k e => by cases e)).kept hg' (fun j e => by have := oa.row j e; omega)
          refine (pick_any w g _ 3 _ r6 (by omega) (by omega) (by omega)).mono ?_
          rintro e w7 ⟨v7, rfl, _, hv7, r7, g7⟩
          have hv7 := hv7 (by omega)
          have o7 := ho'.far g7 (fun j e => by cases e; exact .inl (by omega))
          go_wp2_with fail
          refine (pick_any w g _ 8 _ r7 (by omega) (by omega) (by omega)).mono ?_
          rintro e w8 ⟨v8, rfl, _, hv8, r8, g8⟩
          have hv8 := hv8 (by omega)
          have o8 := o7.far g8 (fun j e => by cases e; exact .inl (by omega))
          have hx' : Lens (xs ++ [b]) := fun x hx' => by
            rcases List.mem_append.1 hx' with h1 | h1
            · exact hx x h1
            · simp at h1; subst h1; omega
          rcases (show b ≤ a + b + v7 - v8 / 7 ∨ a + b + v7 - v8 / 7 < b by omega) with hmx | hmx
          all_goals
            go_wp2_with fail
            go_roundw
            case rel => first | exact ⟨k + 1, _, c', A', xs ++ [b], b, _, by omega, rfl, rfl, rfl, by omega, by omega, by omega, by omega, o8, hx', r8, by omega⟩ | ((repeat apply Exists.intro); exact ⟨⟨k + 1, _, c', A', xs ++ [b], b, _, by omega, rfl, rfl, rfl, by omega, by omega, by omega, by omega, o8, hx', r8, by omega⟩, rfl⟩)
            case measure => simp [sliceLen]; omega
        · go_wp2_with fail
          go_ret
          exact ⟨A, k, c, xs, rfl, o5.lower (by omega), by omega, hx, r5.bel_⟩
      · go_wp2_with fail
        go_ret
        exact ⟨A, k, c, xs, rfl, ho.lower (by omega), by omega, hx, hr.bel_⟩
end Go.Proofs.Ytaffdppmpfgghaa
