/- The model's draws of rulers. -/
import Derived.Test.YtogmoljaiapolaaDraw
namespace Go.Proofs.Ytogmoljaiapolaa
open Go.RowKit

/-- What a draw of a ruler leaves. -/
def DrawnU (w0 w : World) (g top q : Nat) (e : Ending) (w' : World) : Prop :=
  ∃ (A : Option Addr) (n c p' : Nat) (xs : List Int), e = .returned (.slice A n c) ∧ Own w' w.heap.size A n c xs ∧ n ≤ top ∧ Rdr w0 w' g p' ∧ p' ≤ q ∧ w.grownBy w' (some g)

set_option maxHeartbeats 2000000 in
theorem ruler_any (w0 : World) (g p m : Nat) (w : World) (h : Rdr w0 w g p) (hp : p ≤ 800000) (hm1 : 1 ≤ m) (hm : m ≤ 16) :
    Calls Try.prog 68 #[.pointer (some ⟨g, 0, none⟩), .int .i64 m] w (DrawnU w0 w g m (p + 3 * m + 4)) := by
  have hl := Own.lit w (Nat.le_refl _) [] (by simp)
  have hglt := h.lt
  have h0 := h.kept (World.grownBy_alloc w (.cells #[] 3) none) (fun k e => by cases e)
  have g0 := World.grownBy_alloc w (.cells #[] 3) (some g)
  go_enter Try.func68, Try.ntmps68
  go_wp2_with fail
  refine (pick_any w0 g p m _ h0 (by omega) (by omega) (by omega)).mono ?_
  rintro e w1 ⟨v, rfl, hv0, hv, r1, g1⟩
  have hv := hv (by omega)
  have hs0 := g0.size
  have gg1 := grown_trans_row g0 g1
  have o1 := hl.far g1 (fun j e => by cases e; exact .inl hglt)
  obtain ⟨N, hN⟩ : ∃ N : Nat, 1 + v = (N : Int) := ⟨(1 + v).toNat, by omega⟩
  have v1 : IntKind.i64.wrap (1 + v) = (N : Int) := wrap_is hN (by omega) (by omega)
  have hN1 : 1 ≤ N ∧ N ≤ m := by omega
  clear hl h0 g0 g1 hN hv0 hv h
  go_wp2_with fail
  go_loopw [5, 7] (fun l i wr => ∃ (k p' c : Nat) (A : Option Addr) (xs : List Int), k ≤ N ∧ i = .int .i64 k ∧ l = .slice A k c ∧ Own wr w.heap.size A k c xs ∧ Rdr w0 wr g p' ∧ p' ≤ p + 1 + 3 * k ∧ w.grownBy wr (some g)) (fun _ i _ => N - (intOf i).toNat)
  case atStart => exact ⟨0, _, _, _, [], Nat.zero_le _, rfl, rfl, o1, r1, by omega, gg1⟩
  case round =>
    clear o1 r1 gg1
    obtain ⟨k, p', c, A, xs, hk, rfl, rfl, ho, hr, hp', hg⟩ := hrel
    by_cases hlt : k < N
    · go_wp2_with fail
      refine (l91Length_any w0 g p' _ hr (by omega)).mono ?_
      rintro e w2 ⟨u, rfl, hu1, hu2, r2, g2⟩
      have o2 := ho.far g2 (fun j e => by cases e; exact .inl hglt)
      have g3 := grown_trans_row hg g2
      have hs3 := g3.size
      have oa := o2.al (.cells #[.int .i64 u] 3)
      clear ho hr hg g2
      go_wp2_with (at_builtin; refine wpList_app rfl (.tmp 18) (.tmp 21) rfl rfl oa rfl (rd_one _ _) (by omega) (by simp; omega) ?_; intro A' c' W' ho' hg')
      have r3 := (r2.kept (World.grownBy_alloc w2 (.cells #[.int .i64 u] 3) none) (fun k e => by cases e)).kept hg' (fun j e => by have := oa.row j e; omega)
      have g4 := grown_new (grown_new g3 (World.grownBy_alloc w2 (.cells #[.int .i64 u] 3) none) (fun j e => by cases e)) hg' (fun j e => (oa.row j e).1)
      go_roundw
      case rel => exact ⟨k + 1, p' + 3, c', A', xs ++ [u], by omega, by go_num, rfl, ho', r3, by omega, g4⟩
      case measure => simp [intOf]; omega
    · obtain rfl : k = N := by omega
      go_wp2_with fail
      refine (pick_any w0 g _ 30 _ hr (by omega) (by omega) (by omega)).mono ?_
      rintro e w3 ⟨v3, rfl, _, hv3, r3, g3⟩
      have hv3 := hv3 (by omega)
      have o3 := ho.far g3 (fun j e => by cases e; exact .inl hglt)
      have gg3 := grown_trans_row hg g3
      clear ho hr hg g3
      by_cases h30 : v3 = 0
      · subst h30
        go_wp2_with fail
        refine (pick_any w0 g _ k _ r3 (by omega) (by omega) (by omega)).mono ?_
        rintro e w4 ⟨v4, rfl, hv40, hv4, r4, g4⟩
        have hv4 := hv4 (by omega)
        have o4 := o3.far g4 (fun j e => by cases e; exact .inl hglt)
        have gg4 := grown_trans_row gg3 g4
        obtain ⟨q, rfl⟩ : ∃ q : Nat, v4 = q := ⟨v4.toNat, by omega⟩
        go_wp2_with fail
        refine (pick_any w0 g _ 2 _ r4 (by omega) (by omega) (by omega)).mono ?_
        rintro e w5 ⟨v5, rfl, hv50, hv5, r5, g5⟩
        have hv5 := hv5 (by omega)
        have o5 := o4.far g5 (fun j e => by cases e; exact .inl hglt)
        have gg5 := grown_trans_row gg4 g5
        obtain ⟨d, rfl, hd1, hd2⟩ := o5.form (by omega)
        have hqk : q < k := by omega
        have hcx := o5.cell q hqk
        have hfx := o5.free q
        have o6 := o5.stored q (v5 * 61)
        have v2 : IntKind.i64.wrap (v5 * 61) = v5 * 61 := wrap_is rfl (by omega) (by omega)
        have r6 := r5.kept o6.2 (fun j e => by cases e; omega)
        have gg6 := grown_new gg5 o6.2 (fun j e => by cases e; exact hd1)
        clear o3 o4 o5 g4 g5 gg3 gg4 gg5 r3 r4 r5
        go_wp2_with fail
        go_ret
        exact ⟨_, k, c, _, _, rfl, o6.1, by omega, r6, by omega, gg6⟩
      · have d1 : (v3 == 0) = false := by simpa using h30
        go_wp2_with fail
        go_ret
        exact ⟨A, k, c, _, xs, rfl, o3, by omega, r3, by omega, gg3⟩

/-- What a law's draw of a ruler leaves. -/
def DrawnV (w : World) (e : Ending) (w' : World) : Prop :=
  ∃ (A : Option Addr) (n c : Nat) (xs : List Int), e = .returned (.slice A n c) ∧ Own w' w.heap.size A n c xs ∧ n ≤ 8 ∧ Below w.heap.size w w'

theorem l91Rule_any (A : Option Addr) (n c : Nat) (bs : List Int) (w : World) (h : RdB w A n bs) (hb : Bytes bs) (hn : n ≤ 1048576) (hc : n ≤ c) :
    Calls Try.prog 52 #[.slice A n c] w (DrawnV w) := by
  go_enter Try.func52, Try.ntmps52
  go_wp2_with fail
  refine (l6Open_any A n c bs _ h hb hn hc).mono ?_
  rintro e w1 ⟨g, rfl, _, _, r1, _⟩
  have hs := r1.bel_.size
  go_wp2_with fail
  refine (ruler_any w g 0 8 _ r1 (by omega) (by omega) (by omega)).mono ?_
  rintro e w2 ⟨A2, n2, c2, p', xs, rfl, o2, hn2, r2, hp', g2⟩
  go_wp2_with fail
  go_ret
  exact ⟨A2, n2, c2, xs, rfl, o2.lower hs, hn2, r2.bel_⟩

theorem drawFoldEnds_any (A : Option Addr) (n c : Nat) (bs : List Int) (w : World) (h : RdB w A n bs) (hb : Bytes bs) (hn : n ≤ 1048576) (hc : n ≤ c) :
    Calls Try.prog 20 #[.slice A n c] w (DrawnV w) := by
  go_enter Try.func20, Try.ntmps20
  go_wp2_with fail
  refine (l91Rule_any A n c bs _ h hb hn hc).mono ?_
  rintro e w1 ⟨A2, n2, c2, xs, rfl, o2, hn2, b2⟩
  go_wp2_with fail
  go_ret
  exact ⟨A2, n2, c2, xs, rfl, o2, hn2, b2⟩

theorem drawFoldNear_any (A : Option Addr) (n c : Nat) (bs : List Int) (w : World) (h : RdB w A n bs) (hb : Bytes bs) (hn : n ≤ 1048576) (hc : n ≤ c) :
    Calls Try.prog 26 #[.slice A n c] w (DrawnV w) := by
  go_enter Try.func26, Try.ntmps26
  go_wp2_with fail
  refine (l91Rule_any A n c bs _ h hb hn hc).mono ?_
  rintro e w1 ⟨A2, n2, c2, xs, rfl, o2, hn2, b2⟩
  go_wp2_with fail
  go_ret
  exact ⟨A2, n2, c2, xs, rfl, o2, hn2, b2⟩

theorem drawFoldWays_any (A : Option Addr) (n c : Nat) (bs : List Int) (w : World) (h : RdB w A n bs) (hb : Bytes bs) (hn : n ≤ 1048576) (hc : n ≤ c) :
    Calls Try.prog 30 #[.slice A n c] w (DrawnV w) := by
  go_enter Try.func30, Try.ntmps30
  go_wp2_with fail
  refine (l91Rule_any A n c bs _ h hb hn hc).mono ?_
  rintro e w1 ⟨A2, n2, c2, xs, rfl, o2, hn2, b2⟩
  go_wp2_with fail
  go_ret
  exact ⟨A2, n2, c2, xs, rfl, o2, hn2, b2⟩

theorem drawFoldSpan_any (A : Option Addr) (n c : Nat) (bs : List Int) (w : World) (h : RdB w A n bs) (hb : Bytes bs) (hn : n ≤ 1048576) (hc : n ≤ c) :
    Calls Try.prog 32 #[.slice A n c] w (DrawnV w) := by
  go_enter Try.func32, Try.ntmps32
  go_wp2_with fail
  refine (l91Rule_any A n c bs _ h hb hn hc).mono ?_
  rintro e w1 ⟨A2, n2, c2, xs, rfl, o2, hn2, b2⟩
  go_wp2_with fail
  go_ret
  exact ⟨A2, n2, c2, xs, rfl, o2, hn2, b2⟩

theorem drawFoldCase_any (A : Option Addr) (n c : Nat) (bs : List Int) (w : World) (h : RdB w A n bs) (hb : Bytes bs) (hn : n ≤ 1048576) (hc : n ≤ c) :
    Calls Try.prog 39 #[.slice A n c] w (DrawnV w) := by
  go_enter Try.func39, Try.ntmps39
  go_wp2_with fail
  refine (l91Rule_any A n c bs _ h hb hn hc).mono ?_
  rintro e w1 ⟨A2, n2, c2, xs, rfl, o2, hn2, b2⟩
  go_wp2_with fail
  go_ret
  exact ⟨A2, n2, c2, xs, rfl, o2, hn2, b2⟩

theorem drawFoldGreedy_any (A : Option Addr) (n c : Nat) (bs : List Int) (w : World) (h : RdB w A n bs) (hb : Bytes bs) (hn : n ≤ 1048576) (hc : n ≤ c) :
    Calls Try.prog 41 #[.slice A n c] w (DrawnV w) := by
  go_enter Try.func41, Try.ntmps41
  go_wp2_with fail
  refine (l91Rule_any A n c bs _ h hb hn hc).mono ?_
  rintro e w1 ⟨A2, n2, c2, xs, rfl, o2, hn2, b2⟩
  go_wp2_with fail
  go_ret
  exact ⟨A2, n2, c2, xs, rfl, o2, hn2, b2⟩

theorem drawFoldBack_any (A : Option Addr) (n c : Nat) (bs : List Int) (w : World) (h : RdB w A n bs) (hb : Bytes bs) (hn : n ≤ 1048576) (hc : n ≤ c) :
    Calls Try.prog 44 #[.slice A n c] w (DrawnV w) := by
  go_enter Try.func44, Try.ntmps44
  go_wp2_with fail
  refine (l91Rule_any A n c bs _ h hb hn hc).mono ?_
  rintro e w1 ⟨A2, n2, c2, xs, rfl, o2, hn2, b2⟩
  go_wp2_with fail
  go_ret
  exact ⟨A2, n2, c2, xs, rfl, o2, hn2, b2⟩
end Go.Proofs.Ytogmoljaiapolaa
