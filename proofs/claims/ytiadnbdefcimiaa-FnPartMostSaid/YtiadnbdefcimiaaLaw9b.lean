/- Joined: Draw9, PartU, Law9b. -/
import Derived.Test.YtiadnbdefcimiaaDraw1
import Derived.Test.YtiadnbdefcimiaaSpecSort
import Derived.Test.YtiadnbdefcimiaaParF
import Derived.Test.YtiadnbdefcimiaaParW
import Derived.Test.YtiadnbdefcimiaaPisP
import Derived.Test.YtiadnbdefcimiaaWidP
import Derived.Test.YtiadnbdefcimiaaLaw1c
import Derived.Test.YtiadnbdefcimiaaPut
import Derived.Test.YtiadnbdefcimiaaMany
import Derived.Test.YtiadnbdefcimiaaWid
/- The model's draws of chapter 9. -/
namespace Go.Proofs.Ytiadnbdefcimiaa
open Go.RowKit

theorem lens_sort {xs : List Int} (h : Lens xs) : Lens (isort xs) := fun x hx => h x ((perm_isort xs).mem_iff.1 hx)
set_option maxHeartbeats 2000000 in
theorem few_any (w0 : World) (g p : Nat) (w : World) (h : Rdr w0 w g p) (hp : p ≤ 100) :
    Calls Try.prog 69 #[.pointer (some ⟨g, 0, none⟩)] w (DrawnL w0 w g 11) := by
  have hglt := h.lt
  go_enter Try.func69, Try.ntmps69
  go_wp2_with fail
  refine (pick_any w0 g _ 3 _ h (by omega) (by omega) (by omega)).mono ?_
  rintro e w2 ⟨v2, rfl, _, hv2, r2, g2⟩
  have hv2 := hv2 (by omega)
  have hs2 := g2.size
  by_cases hv0 : v2 = 0
  · subst hv0
    go_wp2_with fail
    refine (bundle_any w0 g _ _ r2 (by omega)).mono ?_
    rintro e w3 ⟨A2, n2, c2, p', xs, rfl, o2, hn2, hx, r3, hp', g3⟩
    go_wp2_with fail
    go_ret
    exact ⟨A2, n2, c2, p', xs, rfl, o2.lower hs2, hn2, hx, r3, hp', grown_trans_row g2 g3⟩
  · have d0 : (v2 == 0) = false := by simpa using hv0
    have d1 : decide (v2 = 0) = false := decide_eq_false hv0
    have hl : Own (w2.alloc (.cells #[] 3)) w.heap.size (some ⟨w2.heap.size, 0, none⟩) 0 0 [] := Own.lit w2 hs2 [] (by simp)
    have r3 : Rdr w0 (w2.alloc (.cells #[] 3)) g _ := r2.kept (World.grownBy_alloc w2 _ none) (fun k e => by cases e)
    have g3 : w.grownBy (w2.alloc (.cells #[] 3)) (some g) := grown_trans_row g2 (World.grownBy_alloc w2 _ (some g))
    have HL := Lib.hid hl
    clear hl
    go_wp2_with fail
    refine (pick_any w0 g _ 3 _ r3 (by omega) (by omega) (by omega)).mono ?_
    rintro e w4 ⟨v4, rfl, _, hv4, r4, g4⟩
    have hv4 := hv4 (by omega)
    have g4' := grown_trans_row g3 g4
    have o4 := HL.out.far g4 (fun j e => by cases e; exact .inl hglt)
    have m1 : IntKind.i64.wrap (3 * (1 + v4)) = 3 * (1 + v4) := wrap_is rfl (by omega) (by omega)
    go_wp2_with fail
    refine (pick_any w0 g _ 4 _ r4 (by omega) (by omega) (by omega)).mono ?_
    rintro e w5 ⟨v5, rfl, _, hv5, r5, g5⟩
    have hv5 := hv5 (by omega)
    have g5' := grown_trans_row g4' g5
    have o5 := o4.far g5 (fun j e => by cases e; exact .inl hglt)
    by_cases h5 : v5 = 0
    · subst h5
      go_wp2_with fail
      refine (pick_any w0 g _ 9 _ r5 (by omega) (by omega) (by omega)).mono ?_
      rintro e w6 ⟨v6, rfl, _, hv6, r6, g6⟩
      have hv6 := hv6 (by omega)
      have g6' := grown_trans_row g5' g6
      have o6 := o5.far g6 (fun j e => by cases e; exact .inl hglt)
      obtain ⟨N, hN⟩ : ∃ N : Nat, v6 = (N : Int) - 1 := ⟨(v6 + 1).toNat, by omega⟩
      subst hN
      have eN : (1 : Int) + ((N : Int) - 1) = N := by omega
      go_wp2_with fail
      go_loopw [3, 5] (fun l i wr => ∃ (k p' c : Nat) (A : Option Addr) (xs : List Int), k ≤ N ∧ i = .int .i64 k ∧ l = .slice A k c ∧ Own wr w.heap.size A k c xs ∧ Lens xs ∧ Rdr w0 wr g p' ∧ p' ≤ 200 + k ∧ w.grownBy wr (some g)) (fun _ i _ => N - (intOf i).toNat)
      case atStart => exact ⟨0, _, _, _, [], Nat.zero_le _, rfl, rfl, o6, fun x hx => by simp at hx, r6, by omega, g6'⟩
      case round =>
        obtain ⟨k, p', c, A, xs, hk, rfl, rfl, ho, hx, hr, hp', hg⟩ := hrel
        clear o6 r6 g6 g6' o5 r5 g5 g5' o4 r4 g4 g4' r3 g3
        by_cases hlt : k < N
        · go_wp2_with fail
          refine (pick_any w0 g _ 6 _ hr (by omega) (by omega) (by omega)).mono ?_
          rintro e w7 ⟨v7, rfl, _, hv7, r7, g7⟩
          have hv7 := hv7 (by omega)
          have o7 := ho.far g7 (fun j e => by cases e; exact .inl hglt)
          have g7' := grown_trans_row hg g7
          have hs7 := g7'.size
          obtain ⟨v, ev⟩ : ∃ v, v = 2 + v7 := ⟨_, rfl⟩
          have v1 : IntKind.i64.wrap (2 + v7) = v := wrap_is ev.symm (by omega) (by omega)
          have hvb : 0 ≤ v ∧ v ≤ 60 := by omega
          have oa := o7.al (.cells #[.int .i64 v] 3)
          have e2 : 2 + v7 = v := ev.symm
          clear ev
          go_wp2_with (at_builtin; refine wpList_app rfl (.tmp 27) (.tmp 31) rfl rfl oa rfl (rd_one _ _) (by omega) (by simp; omega) ?_; intro A' c' W' ho' hg')
          have r8 := (r7.kept (World.grownBy_alloc w7 (.cells #[.int .i64 v] 3) none) (fun k e => by cases e)).kept hg' (fun j e => by have := oa.row j e; omega)
          have g8 := grown_new (grown_new g7' (World.grownBy_alloc w7 (.cells #[.int .i64 v] 3) none) (fun j e => by cases e)) hg' (fun j e => (oa.row j e).1)
          go_roundw
          case rel => exact ⟨k + 1, p' + 1, c', A', xs ++ [v], by omega, by go_num, rfl, ho', fun x hx' => by
              rcases List.mem_append.1 hx' with h1 | h1
              · exact hx x h1
              · simp at h1; subst h1; exact hvb, r8, by omega, g8⟩
          case measure => simp [intOf]; omega
        · obtain rfl : k = N := by omega
          go_wp2_with fail
          refine (l1Sort_any A k c xs _ ho.rd (by omega)).mono ?_
          rintro e w9 ⟨A9, c9, rfl, o9, b9⟩
          have hsg := hg.size
          go_wp2_with fail
          go_ret
          exact ⟨A9, k, c9, p', isort xs, rfl, o9.lower hsg, by omega, lens_sort hx, hr.kept (grown_of_below b9) (fun k e => by cases e), by omega, grown_trans_row hg (grown_weak (grown_of_below b9) _)⟩
    · have d5 : (v5 == 0) = false := by simpa using h5
      have d6 : decide (v5 = 0) = false := decide_eq_false h5
      obtain ⟨N, hN⟩ : ∃ N : Nat, 3 * (1 + v4) = (N : Int) := ⟨(3 * (1 + v4)).toNat, by omega⟩
      have hN9 : N ≤ 9 := by omega
      go_wp2_with fail
      go_loopw [3, 5] (fun l i wr => ∃ (k p' c : Nat) (A : Option Addr) (xs : List Int), k ≤ N ∧ i = .int .i64 k ∧ l = .slice A k c ∧ Own wr w.heap.size A k c xs ∧ Lens xs ∧ Rdr w0 wr g p' ∧ p' ≤ 200 + k ∧ w.grownBy wr (some g)) (fun _ i _ => N - (intOf i).toNat)
      case atStart => exact ⟨0, _, _, _, [], Nat.zero_le _, rfl, rfl, o5, fun x hx => by simp at hx, r5, by omega, g5'⟩
      case round =>
        obtain ⟨k, p', c, A, xs, hk, rfl, rfl, ho, hx, hr, hp', hg⟩ := hrel
        clear o5 r5 g5 g5' o4 r4 g4 g4' r3 g3
        by_cases hlt : k < N
        · go_wp2_with fail
          refine (pick_any w0 g _ 6 _ hr (by omega) (by omega) (by omega)).mono ?_
          rintro e w7 ⟨v7, rfl, _, hv7, r7, g7⟩
          have hv7 := hv7 (by omega)
          have o7 := ho.far g7 (fun j e => by cases e; exact .inl hglt)
          have g7' := grown_trans_row hg g7
          have hs7 := g7'.size
          obtain ⟨v, ev⟩ : ∃ v, v = 2 + v7 := ⟨_, rfl⟩
          have v1 : IntKind.i64.wrap (2 + v7) = v := wrap_is ev.symm (by omega) (by omega)
          have hvb : 0 ≤ v ∧ v ≤ 60 := by omega
          have oa := o7.al (.cells #[.int .i64 v] 3)
          have e2 : 2 + v7 = v := ev.symm
          clear ev
          go_wp2_with (at_builtin; refine wpList_app rfl (.tmp 27) (.tmp 31) rfl rfl oa rfl (rd_one _ _) (by omega) (by simp; omega) ?_; intro A' c' W' ho' hg')
          have r8 := (r7.kept (World.grownBy_alloc w7 (.cells #[.int .i64 v] 3) none) (fun k e => by cases e)).kept hg' (fun j e => by have := oa.row j e; omega)
          have g8 := grown_new (grown_new g7' (World.grownBy_alloc w7 (.cells #[.int .i64 v] 3) none) (fun j e => by cases e)) hg' (fun j e => (oa.row j e).1)
          go_roundw
          case rel => exact ⟨k + 1, p' + 1, c', A', xs ++ [v], by omega, by go_num, rfl, ho', fun x hx' => by
              rcases List.mem_append.1 hx' with h1 | h1
              · exact hx x h1
              · simp at h1; subst h1; exact hvb, r8, by omega, g8⟩
          case measure => simp [intOf]; omega
        · obtain rfl : k = N := by omega
          go_wp2_with fail
          refine (l1Sort_any A k c xs _ ho.rd (by omega)).mono ?_
          rintro e w9 ⟨A9, c9, rfl, o9, b9⟩
          have hsg := hg.size
          go_wp2_with fail
          go_ret
          exact ⟨A9, k, c9, p', isort xs, rfl, o9.lower hsg, by omega, lens_sort hx, hr.kept (grown_of_below b9) (fun k e => by cases e), by omega, grown_trans_row hg (grown_weak (grown_of_below b9) _)⟩
theorem parted_any (A : Option Addr) (n c : Nat) (bs : List Int) (w : World) (h : RdB w A n bs) (hb : Bytes bs) (hn : n ≤ 1048576) (hc : n ≤ c) :
    Calls Try.prog 46 #[.slice A n c] w (Drawn1 w 11) := by
  go_enter Try.func46, Try.ntmps46
  go_wp2_with fail
  refine (l6Open_any A n c bs _ h hb hn hc).mono ?_
  rintro e w1 ⟨g, rfl, _, _, r1, _⟩
  have hs := r1.bel_.size
  go_wp2_with fail
  refine (few_any w g 0 _ r1 (by omega)).mono ?_
  rintro e w2 ⟨A2, n2, c2, p', xs, rfl, o2, hn2, hx, r2, hp', g2⟩
  go_wp2_with fail
  go_ret
  exact ⟨A2, n2, c2, xs, rfl, o2.lower hs, by omega, hx, r2.bel_⟩
theorem drawPartMay_any (A : Option Addr) (n c : Nat) (bs : List Int) (w : World) (h : RdB w A n bs) (hb : Bytes bs) (hn : n ≤ 1048576) (hc : n ≤ c) :
    Calls Try.prog 16 #[.slice A n c] w (Drawn1 w 11) := by
  go_enter Try.func16, Try.ntmps16
  go_wp2_with fail
  refine (parted_any A n c bs _ h hb hn hc).mono ?_
  rintro e w1 ⟨A2, n2, c2, xs, rfl, o2, hn2, hx, b2⟩
  go_wp2_with fail
  go_ret
  exact ⟨A2, n2, c2, xs, rfl, o2, hn2, hx, b2⟩
theorem drawPartWays_any (A : Option Addr) (n c : Nat) (bs : List Int) (w : World) (h : RdB w A n bs) (hb : Bytes bs) (hn : n ≤ 1048576) (hc : n ≤ c) :
    Calls Try.prog 22 #[.slice A n c] w (Drawn1 w 11) := by
  go_enter Try.func22, Try.ntmps22
  go_wp2_with fail
  refine (parted_any A n c bs _ h hb hn hc).mono ?_
  rintro e w1 ⟨A2, n2, c2, xs, rfl, o2, hn2, hx, b2⟩
  go_wp2_with fail
  go_ret
  exact ⟨A2, n2, c2, xs, rfl, o2, hn2, hx, b2⟩
theorem drawPartMost_any (A : Option Addr) (n c : Nat) (bs : List Int) (w : World) (h : RdB w A n bs) (hb : Bytes bs) (hn : n ≤ 1048576) (hc : n ≤ c) :
    Calls Try.prog 25 #[.slice A n c] w (Drawn1 w 11) := by
  go_enter Try.func25, Try.ntmps25
  go_wp2_with fail
  refine (parted_any A n c bs _ h hb hn hc).mono ?_
  rintro e w1 ⟨A2, n2, c2, xs, rfl, o2, hn2, hx, b2⟩
  go_wp2_with fail
  go_ret
  exact ⟨A2, n2, c2, xs, rfl, o2, hn2, hx, b2⟩
theorem drawPartFirst_any (A : Option Addr) (n c : Nat) (bs : List Int) (w : World) (h : RdB w A n bs) (hb : Bytes bs) (hn : n ≤ 1048576) (hc : n ≤ c) :
    Calls Try.prog 29 #[.slice A n c] w (Drawn1 w 11) := by
  go_enter Try.func29, Try.ntmps29
  go_wp2_with fail
  refine (parted_any A n c bs _ h hb hn hc).mono ?_
  rintro e w1 ⟨A2, n2, c2, xs, rfl, o2, hn2, hx, b2⟩
  go_wp2_with fail
  go_ret
  exact ⟨A2, n2, c2, xs, rfl, o2, hn2, hx, b2⟩
theorem drawPartRound_any (A : Option Addr) (n c : Nat) (bs : List Int) (w : World) (h : RdB w A n bs) (hb : Bytes bs) (hn : n ≤ 1048576) (hc : n ≤ c) :
    Calls Try.prog 36 #[.slice A n c] w (Drawn1 w 11) := by
  go_enter Try.func36, Try.ntmps36
  go_wp2_with fail
  refine (parted_any A n c bs _ h hb hn hc).mono ?_
  rintro e w1 ⟨A2, n2, c2, xs, rfl, o2, hn2, hx, b2⟩
  go_wp2_with fail
  go_ret
  exact ⟨A2, n2, c2, xs, rfl, o2, hn2, hx, b2⟩
theorem drawPartEqual_any (A : Option Addr) (n c : Nat) (bs : List Int) (w : World) (h : RdB w A n bs) (hb : Bytes bs) (hn : n ≤ 1048576) (hc : n ≤ c) :
    Calls Try.prog 39 #[.slice A n c] w (Drawn1 w 11) := by
  go_enter Try.func39, Try.ntmps39
  go_wp2_with fail
  refine (parted_any A n c bs _ h hb hn hc).mono ?_
  rintro e w1 ⟨A2, n2, c2, xs, rfl, o2, hn2, hx, b2⟩
  go_wp2_with fail
  go_ret
  exact ⟨A2, n2, c2, xs, rfl, o2, hn2, hx, b2⟩
/-- What the draw of a bundle and a list leaves. -/
def DrawnPL (w : World) (e : Ending) (w' : World) : Prop :=
  ∃ (A : Option Addr) (n c : Nat) (xs : List Int) (A2 : Option Addr) (n2 c2 : Nat) (ys : List Int), e = .returned (.tuple #[.slice A n c, .slice A2 n2 c2]) ∧ Own w' w.heap.size A n c xs ∧ n ≤ 11 ∧ Own w' w.heap.size A2 n2 c2 ys ∧ n2 ≤ 1000 ∧ Below w.heap.size w w'
set_option maxHeartbeats 4000000 in
theorem drawPartIs_any (A : Option Addr) (n c : Nat) (bs : List Int) (w : World) (h : RdB w A n bs) (hb : Bytes bs) (hn : n ≤ 1048576) (hc : n ≤ c) :
    Calls Try.prog 34 #[.slice A n c] w (DrawnPL w) := by
  go_enter Try.func34, Try.ntmps34
  go_wp2_with fail
  refine (l6Open_any A n c bs _ h hb hn hc).mono ?_
  rintro e w1 ⟨g, rfl, _, _, r1, _⟩
  have hs := r1.bel_.size
  have hglt := r1.lt
  go_wp2_with fail
  refine (few_any w g 0 _ r1 (by omega)).mono ?_
  rintro e w2 ⟨A2, n2, c2, p', xs, rfl, o2, hn2, hx, r2, hp', g2⟩
  have hs2 := g2.size
  have HA2 := Lib.hid (fun k e => (o2.row k e).2)
  go_wp2_with fail
  refine (specPartFirst_any A2 n2 c2 xs w2 o2.rd (by omega)).mono ?_
  rintro e w3 ⟨A3, n3, c3, rfl, o3, hn3, b3⟩
  have o2b := o2.same b3
  have r3 := r2.kept (grown_of_below b3) (fun k e => by cases e)
  have hs3 := b3.size
  have O2 := Lib.hid o2b
  have hlen : bundleB xs = true → 1 ≤ n3 ∧ n3 ≤ 9 := fun hb => by
    have h1 := o3.len
    have hbd := bundleB_true hb
    rw [fstM9_yes hb] at h1
    obtain ⟨M, hpl, _⟩ := fst_pl (Q := cloQ xs) hbd.1
    have := hpl.len
    have := hbd.1
    have := hbd.2.1
    omega
  clear o2 o2b b3
  cases hb : bundleB xs with
  | false =>
    have hlit : Own (w3.alloc (.cells #[.int .i64 (-1)] 3)) w.heap.size (some ⟨w3.heap.size, 0, none⟩) 1 1 [-1] := Own.lit w3 (by omega) [-1] (by simp)
    have HLT := Lib.hid hlit
    have R4 := Lib.hid (below_alloc r3.bel_ (.cells #[.int .i64 (-1)] 3))
    have O2' := Lib.hid ((O2.out.lower hs).al (.cells #[.int .i64 (-1)] 3))
    clear hlit hlen
    go_wp2_with fail
    go_ret2
    exact ⟨_, _, _, _, _, _, _, _, rfl, O2'.out, hn2, HLT.out, by omega, R4.out⟩
  | true =>
    have hlen := hlen hb
    clear hb
    generalize fstM9 xs = ys at *
    have hg2 : g < w2.heap.size := by omega
    have o3' : Own w3 w2.heap.size A3 n3 c3 ys := o3
    clear o3
    go_wp2_with fail
    refine (pick_any w g _ 4 _ r3 (by omega) (by omega) (by omega)).mono ?_
    rintro e w4 ⟨v4, rfl, _, hv4, r4, g4⟩
    have hv4 := hv4 (by omega)
    have o4 := o3'.far g4 (fun j e => by cases e; exact .inl hg2)
    have O4 := Lib.hid (O2.out.far g4 (fun j e => by cases e; exact .inl hglt))
    by_cases h0 : v4 = 0
    · subst h0
      go_wp2_with fail
      refine (pick_any w g _ n3 _ r4 (by omega) (by omega) (by omega)).mono ?_
      rintro e w5 ⟨v5, rfl, _, hv5, r5, g5⟩
      have hv5 := hv5 (by omega)
      have o5 := o4.far g5 (fun j e => by cases e; exact .inl hg2)
      have O5 := Lib.hid (O4.out.far g5 (fun j e => by cases e; exact .inl hglt))
      obtain ⟨q, rfl⟩ : ∃ q : Nat, v5 = q := ⟨v5.toNat, by omega⟩
      go_wp2_with fail
      refine (pick_any w g _ 4 _ r5 (by omega) (by omega) (by omega)).mono ?_
      rintro e w6 ⟨v6, rfl, _, hv6, r6, g6⟩
      have hv6 := hv6 (by omega)
      have o6 := o5.far g6 (fun j e => by cases e; exact .inl hg2)
      have O6 := O5.out.far g6 (fun j e => by cases e; exact .inl hglt)
      obtain ⟨b, rfl, hb0, hb1⟩ := o6.form (by omega)
      have ox := o6.cell q (by omega)
      have fx := o6.free q
      have os := o6.stored q (v6 - 1)
      have HS := Lib.hid os
      have HAP := Lib.hid O6
      have v1 : IntKind.i64.wrap (v6 - 1) = v6 - 1 := wrap_is rfl (by omega) (by omega)
      have HR6 := Lib.hid (r6.kept os.2 (fun j e => by cases e; omega))
      clear os O6
      go_wp2_with fail
      go_ret2
      exact ⟨_, _, _, _, _, _, _, _, rfl, Own.lower (World.ownsRow.kept HAP.out HS.out.2 (.inr fun e => by have := HA2.out _ e; omega)) hs, hn2, HS.out.1.lower (by omega), by omega, HR6.out.bel_⟩
    · have d0 : (v4 == 0) = false := by simpa using h0
      have d1 : decide (v4 = 0) = false := decide_eq_false h0
      by_cases h1 : v4 = 1
      · subst h1
        have OA := Lib.hid O4.out
        have HR4 := Lib.hid r4
        obtain ⟨b, rfl, hb0, hb1⟩ := o4.form (by omega)
        have OB := Lib.hid o4
        have HRB := Lib.hid r4.bel_
        have hs4 := g4.size
        clear o3' o4 r4 r3 g4 HR4
        go_wp2_with fail
        go_loopw [8] (fun i wr => ∃ (k : Nat) (zs : List Int), k ≤ n3 ∧ i = .int .i64 k ∧ Own wr w2.heap.size (some ⟨b, 0, none⟩) n3 c3 zs ∧ w4.grownBy wr (some b)) (fun i _ => n3 - (intOf i).toNat)
        case atStart => exact ⟨0, ys, Nat.zero_le _, rfl, OB.out, World.grownBy.refl _ _⟩
        case round =>
          obtain ⟨k, zs, hk, rfl, ho, hg⟩ := hrel
          by_cases hlt : k < n3
          · have ox := ho.cell k hlt
            have fx := ho.free k
            have os := ho.stored k (-1)
            have HS := Lib.hid os
            have HO := Lib.hid (And.intro ho hg)
            obtain ⟨x, ex⟩ : ∃ x, x = zs.getD k 0 := ⟨_, rfl⟩
            rw [← ex] at ox
            clear os ho hg ex
            by_cases hx0 : x = 0
            · subst hx0
              go_wp2_with fail
              go_roundw
              case rel => exact ⟨k + 1, _, by omega, by go_num, HS.out.1, HO.out.2.trans HS.out.2⟩
              case measure => simp [intOf]; omega
            · have d2 : (x == 0) = false := by simpa using hx0
              have d3 : decide (x = 0) = false := decide_eq_false hx0
              go_wp2_with fail
              go_roundw
              case rel => exact ⟨k + 1, zs, by omega, by go_num, HO.out.1, HO.out.2⟩
              case measure => simp [intOf]; omega
          · obtain rfl : k = n3 := by omega
            have HO := Lib.hid (And.intro ho hg)
            clear ho hg
            go_wp2_with fail
            go_ret2
            exact ⟨_, _, _, _, _, _, _, _, rfl, Own.lower (World.ownsRow.kept OA.out HO.out.2 (.inr fun e => by have := HA2.out _ e; omega)) hs, hn2, HO.out.1.lower (by omega), by omega, HRB.out.grown HO.out.2 (by omega) (fun j e => by cases e; omega)⟩
      · have d2 : (v4 == 1) = false := by simpa using h1
        have d3 : decide (v4 = 1) = false := decide_eq_false h1
        go_wp2_with fail
        go_ret2
        exact ⟨_, _, _, _, _, _, _, _, rfl, O4.out.lower hs, hn2, o4.lower (by omega), by omega, r4.bel_⟩
end Go.Proofs.Ytiadnbdefcimiaa

/- Pure facts of parting for the promises. Nothing of the program. -/
namespace Go.Proofs.Ytiadnbdefcimiaa

abbrev fZ (xs : List Int) : Nat → Int := fun p => xs.getD p 0
theorem sI_fZ (xs : List Int) : sI xs.length (fZ xs) = sumL xs := by rw [sumL_eq, ← sI_sum]
theorem fZ_nn {xs : List Int} (h : Bundle xs) : ∀ p, p < xs.length → 0 ≤ fZ xs p := fun p hp => by have := h.2.2.1 p hp; show 0 ≤ xs.getD p 0; omega
theorem sumL_pos {xs : List Int} (h : Bundle xs) : (xs.length : Int) ≤ sumL xs ∧ sumL xs ≤ 540 := by
  have h1 := sum_pos_of rfl h.2.2.1 xs.length (Nat.le_refl _)
  have h2 := h.2.1
  rw [← sI_fZ]
  change _ ≤ sI xs.length (fun p => xs.getD p 0) ∧ sI xs.length (fun p => xs.getD p 0) ≤ _
  omega
theorem may_yes {xs : List Int} (h : mayM xs = true) : bundleB xs = true ∧ 3 * mstP (cloQ xs) xs.length = xs.length ∧ rndP (cloQ xs) (fZ xs) xs.length = sumL xs := by
  unfold mayM at h
  rw [Bool.and_eq_true, decide_eq_true_eq] at h
  obtain ⟨hb, hw⟩ := h
  have hbd := bundleB_true hb
  rw [waysM_yes hb] at hw
  obtain ⟨l, M, hp, hwl⟩ := wayP_pos.1 (by omega : 0 < wayP (cloQ xs) xs.length)
  have h1 := hp.cnt
  rw [whole_none hwl] at h1
  have h2 := mstP_ge hp
  have h3 := mstP_le (cloQ xs) xs.length
  have h4 := rndP_ge (f := fZ xs) hp
  unfold rndL at h4
  rw [whole_none hwl, sI_fZ] at h4
  have h5 := (rndP_le (Q := cloQ xs) (fZ_nn hbd) (by rw [sI_fZ]; have := sumL_pos hbd; omega)).2
  rw [sI_fZ] at h5
  exact ⟨hb, by omega, by omega⟩
theorem put_one {xs : List Int} (h : Bundle xs) : isort (xs ++ [1]) = 1 :: xs := by
  refine isort_perm (fun j hj => ?_) (List.perm_append_comm (l₁ := xs) (l₂ := [1]))
  match j with
  | 0 =>
    have := h.2.2.1 0 (by simp at hj; omega)
    simp only [List.getD_cons_zero, List.getD_cons_succ]
    omega
  | j + 1 =>
    simp only [List.getD_cons_succ]
    exact h.2.2.2 j (by simp at hj; omega)
theorem mst_free {xs : List Int} : (mstP (cloQ xs) xs.length = 0) ↔ cntT xs = 0 := by rw [mstP_zero, triP_nil]
theorem wid_at {xs : List Int} : ∀ K, (wid xs K).2 = true → ∃ k, k + 2 < K ∧ triB (xs.getD k 0) (xs.getD (k + 1) 0) (xs.getD (k + 2) 0) = true ∧ (wid xs K).1 = xs.getD k 0 + xs.getD (k + 1) 0 + xs.getD (k + 2) 0
  | 0, h => by simp [wid] at h
  | 1, h => by simp [wid] at h
  | 2, h => by simp [wid] at h
  | k + 3, h => by
    cases ht : triB (xs.getD k 0) (xs.getD (k + 1) 0) (xs.getD (k + 2) 0) with
    | true => exact ⟨k, by omega, ht, by rw [wid_yes ht]⟩
    | false =>
      rw [wid_no ht] at h ⊢
      obtain ⟨j, h1, h2, h3⟩ := wid_at (k + 2) h
      exact ⟨j, by omega, h2, h3⟩
theorem rnd_wid {xs : List Int} (h : bundleB xs = true) : rndP (cloQ xs) (fZ xs) xs.length ≤ sumL xs ∧ 0 ≤ rndP (cloQ xs) (fZ xs) xs.length ∧ (rndP (cloQ xs) (fZ xs) xs.length = 0 ↔ (widM xs).2 = false) ∧ ((widM xs).2 = true → (widM xs).1 ≤ rndP (cloQ xs) (fZ xs) xs.length) := by
  have hbd := bundleB_true h
  have h5 := rndP_le (Q := cloQ xs) (fZ_nn hbd) (by rw [sI_fZ]; have := sumL_pos hbd; omega)
  rw [sI_fZ] at h5
  rw [widM_yes h]
  have hpos := wid_pos hbd.2.2.2
  have key : (wid xs xs.length).2 = true → 0 < rndP (cloQ xs) (fZ xs) xs.length ∧ (wid xs xs.length).1 ≤ rndP (cloQ xs) (fZ xs) xs.length := fun hw => by
    obtain ⟨k, hk, ht, e⟩ := wid_at _ hw
    have hm : (k, k + 1, k + 2) ∈ triP (cloQ xs) xs.length := List.mem_filter.2 ⟨allQ_mem.2 ⟨by simp, by simp, hk⟩, ht⟩
    have h1 := rndP_one (f := fZ xs) hm
    have e2 : sumT (fZ xs) (k, k + 1, k + 2) = xs.getD k 0 + xs.getD (k + 1) 0 + xs.getD (k + 2) 0 := rfl
    rw [e2] at h1
    have g1 := hbd.2.2.1 k (by omega)
    have g2 := hbd.2.2.1 (k + 1) (by omega)
    have g3 := hbd.2.2.1 (k + 2) (by omega)
    rw [e]
    omega
  refine ⟨h5.2, h5.1, ⟨fun h0 => ?_, fun hf => ?_⟩, fun hw => (key hw).2⟩
  · cases hw : (wid xs xs.length).2 with
    | false => rfl
    | true => have := (key hw).1; omega
  · rw [hpos, decide_eq_false_iff_not] at hf
    exact rndP_zero (triP_nil xs |>.2 (by omega)) (sumW_noP _ _)
theorem fst_facts {xs : List Int} (h : bundleB xs = true) : isP xs (fstP (cloQ xs) xs.length) = true ∧ (fstP (cloQ xs) xs.length).length = xs.length ∧ thrL (fstP (cloQ xs) xs.length) = mstP (cloQ xs) xs.length ∧ ∀ j, j < (fstP (cloQ xs) xs.length).length → -1 ≤ (fstP (cloQ xs) xs.length).getD j 0 ∧ (fstP (cloQ xs) xs.length).getD j 0 ≤ 1000 := by
  have hbd := bundleB_true h
  obtain ⟨M, hp, hm⟩ := fst_pl (Q := cloQ xs) hbd.1
  exact ⟨pl_is h hp, hp.len, by rw [hp.threes, hm], pl_small hbd.2.1 ⟨M, hp⟩⟩
theorem is_facts {xs l : List Int} (h : isP xs l = true) : bundleB xs = true ∧ l.length = xs.length ∧ (∀ j, j < l.length → -1 ≤ l.getD j 0 ∧ l.getD j 0 ≤ 1000) ∧ thrL l ≤ mstP (cloQ xs) xs.length ∧ inL (fZ xs) l ≤ rndP (cloQ xs) (fZ xs) xs.length := by
  obtain ⟨hb, M, hp, _⟩ := is_pl h
  refine ⟨hb, hp.len, pl_small (bundleB_true hb).2.1 ⟨M, hp⟩, by rw [hp.threes]; exact mstP_ge hp, ?_⟩
  rw [← hp.inL]
  exact rndP_ge hp
theorem eql_facts {xs : List Int} (h : bundleB xs = true) : evnP (cloQ xs) (fZ xs) xs.length ≤ wayP (cloQ xs) xs.length ∧ (xs.length = 3 → evnP (cloQ xs) (fZ xs) xs.length = wayP (cloQ xs) xs.length) := by
  have hbd := bundleB_true h
  refine ⟨evnP_le hbd.1 _, fun e => ?_⟩
  have := evnP_three (Q := cloQ xs) (fZ xs)
  rw [e]; exact this
end Go.Proofs.Ytiadnbdefcimiaa

/- The walks of the laws FnMay, FnPartWays, FnPartMost, FnPartFirst, FnPartIs, FnPartRound, FnPartEqual. -/
namespace Go.Proofs.Ytiadnbdefcimiaa
open Go.RowKit Go.Sort

set_option maxRecDepth 100000 in
set_option maxHeartbeats 4000000 in
theorem fnMay_walk (A0 : Option Addr) (n0 c0 : Nat) (z0 : List Int) (w : World) (h0 : RdB w A0 n0 z0) (k0 : WfL .u8 z0) (q0 : n0 ≤ c0) :
    Calls Try.prog 3 #[.slice A0 n0 c0] w fun e w' => e = .returned (.bool true) ∧ Below w.heap.size w w' := by
  by_cases big : n0 ≤ 1048576
  rotate_left
  · go_enter Try.func3, Try.ntmps3
    go_wp2_with fail
    go_ret
    exact ⟨rfl, Below.refl _ _⟩
  go_enter Try.func3, Try.ntmps3
  go_wp2_with fail
  refine (drawPartMay_any A0 n0 c0 z0 _ h0 (bytes_of k0) big q0).mono ?_
  rintro e w1 ⟨A, n, c, xs, rfl, o1, hn, hx, b1⟩
  have hl1 := o1.len
  have r := o1.rd
  have HN := Lib.hid o1.nilA
  clear o1 hx
  have hI := Lib.hid (fun W (h : Rd W A n xs) => implPartMay_any A n c xs W h (by omega))
  have hS := Lib.hid (fun W (h : Rd W A n xs) => specPartMay_any A n c xs W h (by omega))
  have HM := Lib.hid (fun W (h : Rd W A n xs) => implPartMost_any A n c xs W h (by omega))
  have HR := Lib.hid (fun W (h : Rd W A n xs) => implPartRound_any A n c xs W h (by omega))
  cases hm : mayM xs with
  | false =>
    rw [hm] at hI hS
    clear hm
    go_wp2_with fail
    refine (hI.out _ r).mono ?_
    rintro e w2 ⟨rfl, b⟩
    have B2 := below_then b1 b
    replace r := r.same b
    clear b
    go_wp2_with fail
    refine (hS.out _ r).mono ?_
    rintro e w3 ⟨rfl, b⟩
    have B3 := below_then B2 b
    replace r := r.same b
    clear b
    go_wp2_with fail
    go_ret
    exact ⟨rfl, B3⟩
  | true =>
    rw [hm] at hI hS
    obtain ⟨hb, h1, h2⟩ := may_yes hm
    have HT := Lib.hid (fun W (h : Rd W A n xs) => total_any A n c xs W h (by omega) (bundle_small (bundleB_true hb)))
    have hsp := sumL_pos (bundleB_true hb)
    rw [mostB_yes hb, hb] at HM
    rw [rndB_yes hb, hb, show (fun p => xs.getD p 0) = fZ xs from rfl, h2] at HR
    rw [hl1] at h1
    rw [hl1] at HM
    generalize mstP (cloQ xs) n = m at *
    generalize sumL xs = z at *
    have v1 : IntKind.i64.wrap (3 * m) = (n : Int) := wrap_is h1 (by omega) (by omega)
    clear hm hb h2 hl1 hsp
    go_wp2_with fail
    refine (hI.out _ r).mono ?_
    rintro e w2 ⟨rfl, b⟩
    have B2 := below_then b1 b
    replace r := r.same b
    clear b
    go_wp2_with fail
    refine (hS.out _ r).mono ?_
    rintro e w3 ⟨rfl, b⟩
    have B3 := below_then B2 b
    replace r := r.same b
    clear b
    go_wp2_with fail
    refine (HM.out _ r).mono ?_
    rintro e w4 ⟨rfl, b⟩
    have B4 := below_then B3 b
    replace r := r.same b
    clear b
    go_wp2_with fail
    refine (HR.out _ r).mono ?_
    rintro e w5 ⟨rfl, b⟩
    have B5 := below_then B4 b
    replace r := r.same b
    clear b
    go_wp2_with fail
    refine (HT.out _ r).mono ?_
    rintro e w6 ⟨rfl, b⟩
    have B6 := below_then B5 b
    replace r := r.same b
    clear b
    go_wp2_with fail
    go_ret
    exact ⟨rfl, B6⟩

set_option maxRecDepth 100000 in
set_option maxHeartbeats 4000000 in
theorem fnPartWays_walk (A0 : Option Addr) (n0 c0 : Nat) (z0 : List Int) (w : World) (h0 : RdB w A0 n0 z0) (k0 : WfL .u8 z0) (q0 : n0 ≤ c0) :
    Calls Try.prog 4 #[.slice A0 n0 c0] w fun e w' => e = .returned (.bool true) ∧ Below w.heap.size w w' := by
  by_cases big : n0 ≤ 1048576
  rotate_left
  · go_enter Try.func4, Try.ntmps4
    go_wp2_with fail
    go_ret
    exact ⟨rfl, Below.refl _ _⟩
  go_enter Try.func4, Try.ntmps4
  go_wp2_with fail
  refine (drawPartWays_any A0 n0 c0 z0 _ h0 (bytes_of k0) big q0).mono ?_
  rintro e w1 ⟨A, n, c, xs, rfl, o1, hn, hx, b1⟩
  have hl1 := o1.len
  have r := o1.rd
  have HN := Lib.hid o1.nilA
  clear o1 hx
  by_cases hb : bundleB xs = true
  rotate_left
  · rw [Bool.not_eq_true] at hb
    have hI := fun W (h : Rd W A n xs) => implPartWays_any A n c xs W h (by omega)
    have hS := fun W (h : Rd W A n xs) => specPartWays_any A n c xs W h (by omega)
    rw [hb] at hI hS
    generalize waysM xs = v at *
    clear hb hl1
    go_wp2_with fail
    refine (hI _ r).mono ?_
    rintro e w2 ⟨rfl, b⟩
    have B2 := below_then b1 b
    replace r := r.same b
    clear b
    go_wp2_with fail
    refine (hS _ r).mono ?_
    rintro e w3 ⟨rfl, b⟩
    have B3 := below_then B2 b
    replace r := r.same b
    clear b
    go_wp2_with fail
    go_ret
    exact ⟨rfl, B3⟩
  have hI := Lib.hid (fun W (h : Rd W A n xs) => implPartWays_any A n c xs W h (by omega))
  have hS := Lib.hid (fun W (h : Rd W A n xs) => specPartWays_any A n c xs W h (by omega))
  have hY := Lib.hid (fun W (h : Rd W A n xs) => implPartMay_any A n c xs W h (by omega))
  have hw : 0 ≤ waysM xs ∧ waysM xs ≤ 280 := by
    rw [waysM_yes hb]
    have := wayP_le (Q := cloQ xs) (n := xs.length) (bundleB_true hb).2.1
    omega
  have hm : mayM xs = decide (0 < waysM xs) := by unfold mayM; rw [hb]; rfl
  rw [hb] at hI hS
  rw [hm] at hY
  generalize waysM xs = v at *
  clear hm hb hl1
  have d1 : decide (0 ≤ v) = true := decide_eq_true hw.1
  have d2 : decide (v ≤ 280) = true := decide_eq_true hw.2
  by_cases hv : v = 0
  · subst hv
    have HY := Lib.hid (fun W h => (hY.out W h).mono (fun e w' hh => (show e = .returned (.bool false) ∧ Below W.heap.size W w' from hh)))
    go_wp2_with fail
    refine (hI.out _ r).mono ?_
    rintro e w2 ⟨rfl, b⟩
    have B2 := below_then b1 b
    replace r := r.same b
    clear b
    go_wp2_with fail
    refine (hS.out _ r).mono ?_
    rintro e w3 ⟨rfl, b⟩
    have B3 := below_then B2 b
    replace r := r.same b
    clear b
    go_wp2_with fail
    refine (HY.out _ r).mono ?_
    rintro e w4 ⟨rfl, b⟩
    have B4 := below_then B3 b
    replace r := r.same b
    clear b
    go_wp2_with fail
    go_ret
    exact ⟨rfl, B4⟩
  · have HY := Lib.hid (fun W h => (hY.out W h).mono (fun e w' hh => (show e = .returned (.bool true) ∧ Below W.heap.size W w' from by rw [decide_eq_true (show 0 < v by omega)] at hh; exact hh)))
    have d3 : (v == 0) = false := by simpa using hv
    have d4 : decide (v = 0) = false := decide_eq_false hv
    go_wp2_with fail
    refine (hI.out _ r).mono ?_
    rintro e w2 ⟨rfl, b⟩
    have B2 := below_then b1 b
    replace r := r.same b
    clear b
    go_wp2_with fail
    refine (hS.out _ r).mono ?_
    rintro e w3 ⟨rfl, b⟩
    have B3 := below_then B2 b
    replace r := r.same b
    clear b
    go_wp2_with fail
    refine (HY.out _ r).mono ?_
    rintro e w4 ⟨rfl, b⟩
    have B4 := below_then B3 b
    replace r := r.same b
    clear b
    go_wp2_with fail
    go_ret
    exact ⟨rfl, B4⟩

set_option maxRecDepth 100000 in
set_option maxHeartbeats 4000000 in
theorem fnPartMost_walk (A0 : Option Addr) (n0 c0 : Nat) (z0 : List Int) (w : World) (h0 : RdB w A0 n0 z0) (k0 : WfL .u8 z0) (q0 : n0 ≤ c0) :
    Calls Try.prog 5 #[.slice A0 n0 c0] w fun e w' => e = .returned (.bool true) ∧ Below w.heap.size w w' := by
  by_cases big : n0 ≤ 1048576
  rotate_left
  · go_enter Try.func5, Try.ntmps5
    go_wp2_with fail
    go_ret
    exact ⟨rfl, Below.refl _ _⟩
  go_enter Try.func5, Try.ntmps5
  go_wp2_with fail
  refine (drawPartMost_any A0 n0 c0 z0 _ h0 (bytes_of k0) big q0).mono ?_
  rintro e w1 ⟨A, n, c, xs, rfl, o1, hn, hx, b1⟩
  have hl1 := o1.len
  have r := o1.rd
  have HN := Lib.hid o1.nilA
  clear o1 hx
  by_cases hb : bundleB xs = true
  rotate_left
  · rw [Bool.not_eq_true] at hb
    have hI := fun W (h : Rd W A n xs) => implPartMost_any A n c xs W h (by omega)
    have hS := fun W (h : Rd W A n xs) => specPartMost_any A n c xs W h (by omega)
    rw [hb] at hI hS
    generalize mostB xs = v at *
    clear hb hl1
    go_wp2_with fail
    refine (hI _ r).mono ?_
    rintro e w2 ⟨rfl, b⟩
    have B2 := below_then b1 b
    replace r := r.same b
    clear b
    go_wp2_with fail
    refine (hS _ r).mono ?_
    rintro e w3 ⟨rfl, b⟩
    have B3 := below_then B2 b
    replace r := r.same b
    clear b
    go_wp2_with fail
    go_ret
    exact ⟨rfl, B3⟩
  have hI := Lib.hid (fun W (h : Rd W A n xs) => implPartMost_any A n c xs W h (by omega))
  have hS := Lib.hid (fun W (h : Rd W A n xs) => specPartMost_any A n c xs W h (by omega))
  have hF := Lib.hid (fun W (h : Rd W A n xs) => implStickFree_any A n c xs W h (by omega))
  have hP := Lib.hid (fun W (h : Rd W A n xs) => implStickPut_any A n c xs 1 W h (by omega) HN.out)
  have hle := mstP_le (cloQ xs) xs.length
  have hfr := mst_free (xs := xs)
  have hbd := bundleB_true hb
  rw [hb, Bool.true_and] at hF
  rw [mostB_yes hb, hb] at hI hS
  have hmx := mst_cons 1 xs xs.length
  have hpo := put_one hbd
  rw [hl1] at hle hfr hI hS hmx
  have HLN := Lib.hid hl1
  have HPO := Lib.hid hpo
  have HMX := Lib.hid hmx
  obtain ⟨m, em⟩ : ∃ m, m = mstP (cloQ xs) n := ⟨_, rfl⟩
  rw [← em] at hle hfr hI hS HMX
  have v1 : IntKind.i64.wrap (3 * m) = 3 * m := wrap_is rfl (by omega) (by omega)
  have d1 : decide (3 * m ≤ (n : Int)) = true := decide_eq_true hle.1
  have HFR := Lib.hid hfr
  clear hb hbd hl1 hfr hpo hmx em
  go_wp2_with fail
  refine (hI.out _ r).mono ?_
  rintro e w2 ⟨rfl, b⟩
  have B2 := below_then b1 b
  replace r := r.same b
  clear b
  go_wp2_with fail
  refine (hS.out _ r).mono ?_
  rintro e w3 ⟨rfl, b⟩
  have B3 := below_then B2 b
  replace r := r.same b
  clear b
  go_wp2_with fail
  refine (hP.out _ r).mono ?_
  rintro e w4 ⟨A4, n4, c4, rfl, o4, hn4, b⟩
  have B4 := below_then B3 b
  replace r := r.same b
  have HM4 := Lib.hid (implPartMost_any A4 n4 c4 (putM xs 1) w4 o4.rd hn4)
  have HPB := Lib.hid (fun (hp : putB xs 1 = true) => (show m ≤ mostB (putM xs 1) ∧ bundleB (putM xs 1) = true from by
    have h1 : putM xs 1 = 1 :: xs := by rw [putM_yes hp]; exact HPO.out
    have h2 : bundleB (1 :: xs) = true := by
      unfold putB at hp
      rw [Bool.and_eq_true] at hp
      rw [← HPO.out, bundle_put (bundleB_true hp.1) 1]
      exact hp.2
    rw [h1]
    refine ⟨?_, h2⟩
    rw [mostB_yes h2, List.length_cons, HLN.out]
    exact HMX.out))
  clear b o4
  generalize mostB (putM xs 1) = q at *
  generalize bundleB (putM xs 1) = qb at *
  generalize putB xs 1 = pb at *
  have hcases : (m = 0 ∧ cntT xs = 0) ∨ (m ≠ 0 ∧ cntT xs ≠ 0) := by
    by_cases h0 : m = 0
    · exact .inl ⟨h0, HFR.out.1 h0⟩
    · exact .inr ⟨h0, fun h => h0 (HFR.out.2 h)⟩
  generalize cntT xs = ct at *
  cases pb with
  | false =>
    clear HPB
    rcases hcases with ⟨rfl, rfl⟩ | ⟨hm0, hc0⟩
    · go_wp2_with fail
      refine HM4.out.mono ?_
      rintro e w5 ⟨rfl, b⟩
      have B5 := below_then B4 b
      replace r := r.same b
      clear b
      go_wp2_with fail
      refine (hF.out _ r).mono ?_
      rintro e w6 ⟨rfl, b⟩
      have B6 := below_then B5 b
      go_wp2_with fail
      go_ret
      exact ⟨rfl, B6⟩
    · have e1 : (m == 0) = false := by simpa using hm0
      have e2 : decide (m = 0) = false := decide_eq_false hm0
      have e3 : decide (ct = 0) = false := decide_eq_false hc0
      rw [e3] at hF
      go_wp2_with fail
      refine HM4.out.mono ?_
      rintro e w5 ⟨rfl, b⟩
      have B5 := below_then B4 b
      replace r := r.same b
      clear b
      go_wp2_with fail
      refine (hF.out _ r).mono ?_
      rintro e w6 ⟨rfl, b⟩
      have B6 := below_then B5 b
      go_wp2_with fail
      go_ret
      exact ⟨rfl, B6⟩
  | true =>
    obtain ⟨g1, rfl⟩ := HPB.out rfl
    have d2 : decide (m ≤ q) = true := decide_eq_true g1
    clear HPB
    rcases hcases with ⟨rfl, rfl⟩ | ⟨hm0, hc0⟩
    · go_wp2_with fail
      refine HM4.out.mono ?_
      rintro e w5 ⟨rfl, b⟩
      have B5 := below_then B4 b
      replace r := r.same b
      clear b
      go_wp2_with fail
      refine (hF.out _ r).mono ?_
      rintro e w6 ⟨rfl, b⟩
      have B6 := below_then B5 b
      go_wp2_with fail
      go_ret
      exact ⟨rfl, B6⟩
    · have e1 : (m == 0) = false := by simpa using hm0
      have e2 : decide (m = 0) = false := decide_eq_false hm0
      have e3 : decide (ct = 0) = false := decide_eq_false hc0
      rw [e3] at hF
      go_wp2_with fail
      refine HM4.out.mono ?_
      rintro e w5 ⟨rfl, b⟩
      have B5 := below_then B4 b
      replace r := r.same b
      clear b
      go_wp2_with fail
      refine (hF.out _ r).mono ?_
      rintro e w6 ⟨rfl, b⟩
      have B6 := below_then B5 b
      go_wp2_with fail
      go_ret
      exact ⟨rfl, B6⟩

set_option maxRecDepth 100000 in
set_option maxHeartbeats 4000000 in
theorem fnPartRound_walk (A0 : Option Addr) (n0 c0 : Nat) (z0 : List Int) (w : World) (h0 : RdB w A0 n0 z0) (k0 : WfL .u8 z0) (q0 : n0 ≤ c0) :
    Calls Try.prog 8 #[.slice A0 n0 c0] w fun e w' => e = .returned (.bool true) ∧ Below w.heap.size w w' := by
  by_cases big : n0 ≤ 1048576
  rotate_left
  · go_enter Try.func8, Try.ntmps8
    go_wp2_with fail
    go_ret
    exact ⟨rfl, Below.refl _ _⟩
  go_enter Try.func8, Try.ntmps8
  go_wp2_with fail
  refine (drawPartRound_any A0 n0 c0 z0 _ h0 (bytes_of k0) big q0).mono ?_
  rintro e w1 ⟨A, n, c, xs, rfl, o1, hn, hx, b1⟩
  have hl1 := o1.len
  have r := o1.rd
  have HN := Lib.hid o1.nilA
  clear o1 hx
  by_cases hb : bundleB xs = true
  rotate_left
  · rw [Bool.not_eq_true] at hb
    have hI := fun W (h : Rd W A n xs) => implPartRound_any A n c xs W h (by omega)
    have hS := fun W (h : Rd W A n xs) => specPartRound_any A n c xs W h (by omega)
    rw [hb] at hI hS
    generalize rndB xs = v at *
    clear hb hl1
    go_wp2_with fail
    refine (hI _ r).mono ?_
    rintro e w2 ⟨rfl, b⟩
    have B2 := below_then b1 b
    replace r := r.same b
    clear b
    go_wp2_with fail
    refine (hS _ r).mono ?_
    rintro e w3 ⟨rfl, b⟩
    have B3 := below_then B2 b
    replace r := r.same b
    clear b
    go_wp2_with fail
    go_ret
    exact ⟨rfl, B3⟩
  have hI := Lib.hid (fun W (h : Rd W A n xs) => implPartRound_any A n c xs W h (by omega))
  have hS := Lib.hid (fun W (h : Rd W A n xs) => specPartRound_any A n c xs W h (by omega))
  have hW := Lib.hid (fun W (h : Rd W A n xs) => implStickWidest_any A n c xs W h (by omega))
  have hT := Lib.hid (fun W (h : Rd W A n xs) => total_any A n c xs W h (by omega) (bundle_small (bundleB_true hb)))
  obtain ⟨f1, f2, f3, f4⟩ := rnd_wid hb
  rw [rndB_yes hb, hb, show (fun p => xs.getD p 0) = fZ xs from rfl] at hI hS
  generalize rndP (cloQ xs) (fZ xs) xs.length = v at *
  generalize sumL xs = z at *
  generalize (widM xs).1 = wd at *
  generalize (widM xs).2 = wb at *
  have d1 : decide (v ≤ z) = true := decide_eq_true f1
  clear hb hl1 f1
  cases wb with
  | false =>
    obtain rfl := f3.2 rfl
    clear f2 f3 f4
    go_wp2_with fail
    refine (hI.out _ r).mono ?_
    rintro e w2 ⟨rfl, b⟩
    have B2 := below_then b1 b
    replace r := r.same b
    clear b
    go_wp2_with fail
    refine (hS.out _ r).mono ?_
    rintro e w3 ⟨rfl, b⟩
    have B3 := below_then B2 b
    replace r := r.same b
    clear b
    go_wp2_with fail
    refine (hW.out _ r).mono ?_
    rintro e w4 ⟨rfl, b⟩
    have B4 := below_then B3 b
    replace r := r.same b
    clear b
    go_wp2_with fail
    refine (hT.out _ r).mono ?_
    rintro e w5 ⟨rfl, b⟩
    have B5 := below_then B4 b
    replace r := r.same b
    clear b
    go_wp2_with fail
    go_ret
    exact ⟨rfl, B5⟩
  | true =>
    have hv : v ≠ 0 := fun h => by have := f3.1 h; cases this
    have d2 : (v == 0) = false := by simpa using hv
    have d3 : decide (v = 0) = false := decide_eq_false hv
    have d4 : decide (wd ≤ v) = true := decide_eq_true (f4 rfl)
    clear f2 f3 f4
    go_wp2_with fail
    refine (hI.out _ r).mono ?_
    rintro e w2 ⟨rfl, b⟩
    have B2 := below_then b1 b
    replace r := r.same b
    clear b
    go_wp2_with fail
    refine (hS.out _ r).mono ?_
    rintro e w3 ⟨rfl, b⟩
    have B3 := below_then B2 b
    replace r := r.same b
    clear b
    go_wp2_with fail
    refine (hW.out _ r).mono ?_
    rintro e w4 ⟨rfl, b⟩
    have B4 := below_then B3 b
    replace r := r.same b
    clear b
    go_wp2_with fail
    refine (hT.out _ r).mono ?_
    rintro e w5 ⟨rfl, b⟩
    have B5 := below_then B4 b
    replace r := r.same b
    clear b
    go_wp2_with fail
    go_ret
    exact ⟨rfl, B5⟩

set_option maxRecDepth 100000 in
set_option maxHeartbeats 4000000 in
theorem fnPartEqual_walk (A0 : Option Addr) (n0 c0 : Nat) (z0 : List Int) (w : World) (h0 : RdB w A0 n0 z0) (k0 : WfL .u8 z0) (q0 : n0 ≤ c0) :
    Calls Try.prog 9 #[.slice A0 n0 c0] w fun e w' => e = .returned (.bool true) ∧ Below w.heap.size w w' := by
  by_cases big : n0 ≤ 1048576
  rotate_left
  · go_enter Try.func9, Try.ntmps9
    go_wp2_with fail
    go_ret
    exact ⟨rfl, Below.refl _ _⟩
  go_enter Try.func9, Try.ntmps9
  go_wp2_with fail
  refine (drawPartEqual_any A0 n0 c0 z0 _ h0 (bytes_of k0) big q0).mono ?_
  rintro e w1 ⟨A, n, c, xs, rfl, o1, hn, hx, b1⟩
  have hl1 := o1.len
  have r := o1.rd
  have HN := Lib.hid o1.nilA
  clear o1 hx
  by_cases hb : bundleB xs = true
  rotate_left
  · rw [Bool.not_eq_true] at hb
    have hI := fun W (h : Rd W A n xs) => implPartEqual_any A n c xs W h (by omega)
    have hS := fun W (h : Rd W A n xs) => specPartEqual_any A n c xs W h (by omega)
    rw [hb] at hI hS
    generalize eqlB xs = v at *
    clear hb hl1
    go_wp2_with fail
    refine (hI _ r).mono ?_
    rintro e w2 ⟨rfl, b⟩
    have B2 := below_then b1 b
    replace r := r.same b
    clear b
    go_wp2_with fail
    refine (hS _ r).mono ?_
    rintro e w3 ⟨rfl, b⟩
    have B3 := below_then B2 b
    replace r := r.same b
    clear b
    go_wp2_with fail
    go_ret
    exact ⟨rfl, B3⟩
  have hI := Lib.hid (fun W (h : Rd W A n xs) => implPartEqual_any A n c xs W h (by omega))
  have hS := Lib.hid (fun W (h : Rd W A n xs) => specPartEqual_any A n c xs W h (by omega))
  have hW := Lib.hid (fun W (h : Rd W A n xs) => implPartWays_any A n c xs W h (by omega))
  obtain ⟨f1, f2⟩ := eql_facts hb
  rw [eqlB_yes hb, hb, show (fun p => xs.getD p 0) = fZ xs from rfl] at hI hS
  rw [waysM_yes hb, hb] at hW
  have HLE := Lib.hid hl1
  generalize evnP (cloQ xs) (fZ xs) xs.length = v at *
  generalize wayP (cloQ xs) xs.length = z at *
  have d1 : decide ((v : Int) ≤ (z : Int)) = true := decide_eq_true (by omega)
  have d2 : decide ((0 : Int) ≤ (v : Int)) = true := decide_eq_true (by omega)
  have d3 : decide (v ≤ z) = true := decide_eq_true f1
  clear hb hl1 f1
  by_cases h3 : n = 3
  · subst h3
    obtain rfl := f2 HLE.out
    clear f2
    go_wp2_with fail
    refine (hI.out _ r).mono ?_
    rintro e w2 ⟨rfl, b⟩
    have B2 := below_then b1 b
    replace r := r.same b
    clear b
    go_wp2_with fail
    refine (hS.out _ r).mono ?_
    rintro e w3 ⟨rfl, b⟩
    have B3 := below_then B2 b
    replace r := r.same b
    clear b
    go_wp2_with fail
    refine (hW.out _ r).mono ?_
    rintro e w4 ⟨rfl, b⟩
    have B4 := below_then B3 b
    replace r := r.same b
    clear b
    go_wp2_with fail
    go_ret
    exact ⟨rfl, B4⟩
  · have e1 : ((n : Int) != 3) = true := by simp; omega
    have e2 : decide ((n : Int) = 3) = false := by rw [decide_eq_false_iff_not]; omega
    have e3 : decide (n = 3) = false := decide_eq_false h3
    clear f2
    go_wp2_with fail
    refine (hI.out _ r).mono ?_
    rintro e w2 ⟨rfl, b⟩
    have B2 := below_then b1 b
    replace r := r.same b
    clear b
    go_wp2_with fail
    refine (hS.out _ r).mono ?_
    rintro e w3 ⟨rfl, b⟩
    have B3 := below_then B2 b
    replace r := r.same b
    clear b
    go_wp2_with fail
    refine (hW.out _ r).mono ?_
    rintro e w4 ⟨rfl, b⟩
    have B4 := below_then B3 b
    replace r := r.same b
    clear b
    go_wp2_with fail
    go_ret
    exact ⟨rfl, B4⟩

set_option maxRecDepth 100000 in
set_option maxHeartbeats 4000000 in
theorem fnPartFirst_walk (A0 : Option Addr) (n0 c0 : Nat) (z0 : List Int) (w : World) (h0 : RdB w A0 n0 z0) (k0 : WfL .u8 z0) (q0 : n0 ≤ c0) :
    Calls Try.prog 6 #[.slice A0 n0 c0] w fun e w' => e = .returned (.bool true) ∧ Below w.heap.size w w' := by
  by_cases big : n0 ≤ 1048576
  rotate_left
  · go_enter Try.func6, Try.ntmps6
    go_wp2_with fail
    go_ret
    exact ⟨rfl, Below.refl _ _⟩
  go_enter Try.func6, Try.ntmps6
  go_wp2_with fail
  refine (drawPartFirst_any A0 n0 c0 z0 _ h0 (bytes_of k0) big q0).mono ?_
  rintro e w1 ⟨A, n, c, xs, rfl, o1, hn, hx, b1⟩
  have hl1 := o1.len
  have r := o1.rd
  clear o1 hx
  have hI := Lib.hid (fun W (h : Rd W A n xs) => implPartFirst_any A n c xs W h (by omega))
  have hS := Lib.hid (fun W (h : Rd W A n xs) => specPartFirst_any A n c xs W h (by omega))
  by_cases hb : bundleB xs = true
  · obtain ⟨f1, f2, f3, f4⟩ := fst_facts hb
    have hM := Lib.hid (fun W (h : Rd W A n xs) => implPartMost_any A n c xs W h (by omega))
    rw [mostB_yes hb, hb] at hM
    rw [fstM9_yes hb, hb] at hI hS
    have hmb := mstP_le (cloQ xs) xs.length
    have hbd := bundleB_true hb
    have hl9 := hbd.2.1
    generalize mstP (cloQ xs) xs.length = m at *
    obtain ⟨L, eL⟩ : ∃ L, L = fstP (cloQ xs) xs.length := ⟨_, rfl⟩
    rw [← eL] at hI hS f1 f2 f3 f4
    have HF1 := Lib.hid f1
    have HF4 := Lib.hid f4
    have HF2 := Lib.hid (f2.trans hl1)
    have HF3 := Lib.hid f3
    have hm9 : 0 ≤ m ∧ m ≤ 9 := by omega
    clear hb eL f1 f2 f3 f4 hbd hl9 hl1 hmb
    go_wp2_with fail
    refine (hI.out _ r).mono ?_
    rintro e w2 ⟨A2, n2, c2, rfl, o2, hn2, b⟩
    have B2 := below_then b1 b
    replace r := r.same b
    clear b
    go_wp2_with fail
    refine (hS.out _ r).mono ?_
    rintro e w3 ⟨A3, n3, c3, rfl, o3, hn3, b⟩
    have B3 := below_then B2 b
    replace r := r.same b
    have r2 := o2.rd.same b
    have hln2 := r2.1
    have r3 := o3.rd
    have hl2 := HF2.out
    obtain rfl : n2 = n := by omega
    clear b o2 o3 hln2 hl2
    go_wp2_with fail
    refine (sameInts_any A2 A3 n2 n3 c2 c3 _ _ r2 r3 (by omega)).mono ?_
    rintro e w4 ⟨rfl, b⟩
    have B4 := below_then B3 b
    replace r := r.same b
    replace r2 := r2.same b
    clear b r3
    go_wp2_with fail
    refine (hM.out _ r).mono ?_
    rintro e w5 ⟨rfl, b⟩
    have B5 := below_then B4 b
    have HR := Lib.hid (r.same b)
    have HR2 := Lib.hid (r2.same b)
    have HB5 := Lib.hid B5
    clear b r r2 B2 B3 B4 B5
    go_wp2_with fail
    go_loopw [10, 11] (fun v i wr => ∃ k : Nat, k ≤ n2 ∧ i = .int .i64 k ∧ v = .int .i64 (thrTo L k - 1) ∧ w5 = wr) (fun _ i _ => n2 - (intOf i).toNat)
    case atStart => exact ⟨0, Nat.zero_le _, rfl, by simp [thrTo, thrL], rfl⟩
    case round =>
      obtain ⟨k, hk, rfl, rfl, rfl⟩ := hrel
      have hbd := thrTo_bd (l := L) HF4.out k (by have := HF2.out; omega)
      by_cases hlt : k < n2
      · obtain ⟨b, off, rfl, _, hc⟩ := HR2.out.2 (by omega)
        have x1 := hc k hlt
        have hs := thrTo_succ (l := L) (k := k) (by have := HF2.out; omega)
        have hxb := HF4.out k (by have := HF2.out; omega)
        obtain ⟨x, ex⟩ : ∃ x, x = L.getD k 0 := ⟨_, rfl⟩
        rw [← ex] at x1 hs hxb
        obtain ⟨y, ey⟩ : ∃ y, y = thrTo L k - 1 := ⟨_, rfl⟩
        rw [← ey]
        have HST := Lib.hid (show thrTo L (k + 1) - 1 = max y x by rw [hs]; omega)
        clear hc ex hs ey hbd hxb
        go_wp2_with fail
        go_roundw
        case rel => first | exact ⟨k + 1, by omega, by go_num, by rw [HST.out], by first | rfl | trivial⟩ | ((repeat apply Exists.intro); exact ⟨⟨k + 1, by omega, by go_num, by rw [HST.out], by first | rfl | trivial⟩, rfl⟩)
        case measure => simp [intOf]; omega
      · obtain rfl : k = n2 := by omega
        have hfin : thrTo L k = m := by
          rw [← HF3.out]; unfold thrTo; rw [← HF2.out, List.take_length]
        rw [hfin]
        have v1 : IntKind.i64.wrap (m - 1) = m - 1 := wrap_is rfl (by omega) (by omega)
        have HIS := Lib.hid (implPartIs_any A A2 k c k c2 xs L w5 HR.out HR2.out (by omega) (by omega))
        rw [HF1.out] at HIS
        clear hbd hfin
        go_wp2_with fail
        refine HIS.out.mono ?_
        rintro e w6 ⟨rfl, b⟩
        have HB6 := Lib.hid (below_then HB5.out b)
        clear b
        go_wp2_with fail
        go_ret
        exact ⟨rfl, HB6.out⟩
  · rw [Bool.not_eq_true] at hb
    rw [fstM9_no hb, hb] at hI hS
    clear hb hl1
    go_wp2_with fail
    refine (hI.out _ r).mono ?_
    rintro e w2 ⟨A2, n2, c2, rfl, o2, hn2, b⟩
    have B2 := below_then b1 b
    replace r := r.same b
    clear b
    go_wp2_with fail
    refine (hS.out _ r).mono ?_
    rintro e w3 ⟨A3, n3, c3, rfl, o3, hn3, b⟩
    have B3 := below_then B2 b
    have r2 := o2.rd.same b
    have r3 := o3.rd
    clear b o2 o3
    go_wp2_with fail
    refine (sameInts_any A2 A3 n2 n3 c2 c3 _ _ r2 r3 (by omega)).mono ?_
    rintro e w4 ⟨rfl, b⟩
    have B4 := below_then B3 b
    replace r2 := r2.same b
    replace r3 := r3.same b
    clear b
    go_wp2_with fail
    refine (sameInts_any A2 A3 n2 n3 c2 c3 _ _ r2 r3 (by omega)).mono ?_
    rintro e w5 ⟨rfl, b⟩
    have B5 := below_then B4 b
    clear b
    go_wp2_with fail
    go_ret
    exact ⟨rfl, B5⟩

set_option maxRecDepth 100000 in
set_option maxHeartbeats 4000000 in
theorem fnPartIs_walk (A0 : Option Addr) (n0 c0 : Nat) (z0 : List Int) (w : World) (h0 : RdB w A0 n0 z0) (k0 : WfL .u8 z0) (q0 : n0 ≤ c0) :
    Calls Try.prog 7 #[.slice A0 n0 c0] w fun e w' => e = .returned (.bool true) ∧ Below w.heap.size w w' := by
  by_cases big : n0 ≤ 1048576
  rotate_left
  · go_enter Try.func7, Try.ntmps7
    go_wp2_with fail
    go_ret
    exact ⟨rfl, Below.refl _ _⟩
  go_enter Try.func7, Try.ntmps7
  go_wp2_with fail
  refine (drawPartIs_any A0 n0 c0 z0 _ h0 (bytes_of k0) big q0).mono ?_
  rintro e w1 ⟨A, n, c, xs, A2, n2, c2, l, rfl, o1, hn, o2, hn2, b1⟩
  have r := o1.rd
  have r2 := o2.rd
  clear o1 o2
  have hI := Lib.hid (fun W (h : Rd W A n xs) (h2 : Rd W A2 n2 l) => implPartIs_any A A2 n c n2 c2 xs l W h h2 (by omega) (by omega))
  have hS := Lib.hid (fun W (h : Rd W A n xs) (h2 : Rd W A2 n2 l) => specPartIs_any A A2 n c n2 c2 xs l W h h2 (by omega) (by omega))
  cases hi : isP xs l with
  | false =>
    rw [hi] at hI hS
    clear hi
    go_wp2_with fail
    refine (hI.out _ r r2).mono ?_
    rintro e w2 ⟨rfl, b⟩
    have B2 := below_then b1 b
    replace r := r.same b
    replace r2 := r2.same b
    clear b
    go_wp2_with fail
    refine (hS.out _ r r2).mono ?_
    rintro e w3 ⟨rfl, b⟩
    have B3 := below_then B2 b
    clear b
    go_wp2_with fail
    go_ret
    exact ⟨rfl, B3⟩
  | true =>
    rw [hi] at hI hS
    obtain ⟨hb, f1, f2, f3, f4⟩ := is_facts hi
    have hM := Lib.hid (fun W (h : Rd W A n xs) => implPartMost_any A n c xs W h (by omega))
    have hR := Lib.hid (fun W (h : Rd W A n xs) => implPartRound_any A n c xs W h (by omega))
    rw [mostB_yes hb, hb] at hM
    rw [rndB_yes hb, hb, show (fun p => xs.getD p 0) = fZ xs from rfl] at hR
    have hbd := bundleB_true hb
    have hn9 : n ≤ 9 := by rw [← r.1]; exact hbd.2.1
    have hz := hbd.2.2.1
    rw [r.1] at hz
    obtain rfl : n2 = n := by rw [← r.1, ← r2.1]; exact f1
    have HZ := Lib.hid hz
    have HF2 := Lib.hid f2
    have HLN := Lib.hid r2.1
    have hmb := mstP_le (cloQ xs) xs.length
    have hmb9 := hbd.2.1
    generalize mstP (cloQ xs) xs.length = m at *
    have hin : inL (fZ xs) l = sI n2 (fun p => if 0 ≤ l.getD p 0 then xs.getD p 0 else 0) := by unfold inL; rw [r2.1]
    have HBD := Lib.hid (inL_bd (zs := xs) r2.1 hz)
    rw [hin] at f4
    generalize rndP (cloQ xs) (fZ xs) xs.length = R at *
    have HF3 := Lib.hid f3
    have HF4 := Lib.hid f4
    have HLT := Lib.hid (show thrTo l n2 = thrL l by unfold thrTo; rw [← r2.1, List.take_length])
    clear hi hb f1 f2 f3 f4 hbd hz hin
    go_wp2_with fail
    refine (hI.out _ r r2).mono ?_
    rintro e w2 ⟨rfl, b⟩
    have B2 := below_then b1 b
    replace r := r.same b
    replace r2 := r2.same b
    clear b
    go_wp2_with fail
    refine (hS.out _ r r2).mono ?_
    rintro e w3 ⟨rfl, b⟩
    have B3 := below_then B2 b
    replace r := r.same b
    replace r2 := r2.same b
    clear b
    go_wp2_with fail
    refine (hM.out _ r).mono ?_
    rintro e w4 ⟨rfl, b⟩
    have B4 := below_then B3 b
    replace r := r.same b
    replace r2 := r2.same b
    clear b
    go_wp2_with fail
    refine (hR.out _ r).mono ?_
    rintro e w5 ⟨rfl, b⟩
    have HB5 := Lib.hid (below_then B4 b)
    have HR := Lib.hid (r.same b)
    have HR2 := Lib.hid (r2.same b)
    clear b r r2 B2 B3 B4 hI hS hM hR
    go_wp2_with fail
    go_loopw [11, 12, 13] (fun v s i wr => ∃ k : Nat, k ≤ n2 ∧ i = .int .i64 k ∧ v = .int .i64 (thrTo l k - 1) ∧ s = .int .i64 (sI k (fun p => if 0 ≤ l.getD p 0 then xs.getD p 0 else 0)) ∧ w5 = wr) (fun _ _ i _ => n2 - (intOf i).toNat)
    case atStart => exact ⟨0, Nat.zero_le _, rfl, by simp [thrTo, thrL], rfl, rfl⟩
    case round =>
      obtain ⟨k, hk, rfl, rfl, rfl, rfl⟩ := hrel
      have hbd := thrTo_bd (l := l) HF2.out k (by have := HLN.out; omega)
      have hsb := HBD.out k hk
      by_cases hlt : k < n2
      · obtain ⟨b, off, rfl, _, hc⟩ := HR2.out.2 (by omega)
        obtain ⟨b3, off3, rfl, _, hc3⟩ := HR.out.2 (by omega)
        have x1 := hc k hlt
        have x3 := hc3 k hlt
        have hs := thrTo_succ (l := l) (k := k) (by have := HLN.out; omega)
        have hxb := HF2.out k (by have := HLN.out; omega)
        have hzb := HZ.out k hlt
        have HSS := Lib.hid (show sI (k + 1) (fun p => if 0 ≤ l.getD p 0 then xs.getD p 0 else 0) = sI k (fun p => if 0 ≤ l.getD p 0 then xs.getD p 0 else 0) + if 0 ≤ l.getD k 0 then xs.getD k 0 else 0 from rfl)
        obtain ⟨S, eS⟩ : ∃ S, S = sI k (fun p => if 0 ≤ l.getD p 0 then xs.getD p 0 else 0) := ⟨_, rfl⟩
        rw [← eS] at hsb HSS ⊢
        obtain ⟨x, ex⟩ : ∃ x, x = l.getD k 0 := ⟨_, rfl⟩
        rw [← ex] at x1 hs hxb HSS
        obtain ⟨u, eu⟩ : ∃ u, u = xs.getD k 0 := ⟨_, rfl⟩
        rw [← eu] at x3 hzb HSS
        obtain ⟨y, ey⟩ : ∃ y, y = thrTo l k - 1 := ⟨_, rfl⟩
        rw [← ey]
        have HST := Lib.hid (show thrTo l (k + 1) - 1 = max y x by rw [hs]; omega)
        have v1 : IntKind.i64.wrap (S + u) = S + u := wrap_is rfl (by omega) (by omega)
        clear hc hc3 ex hs ey hbd hxb eS eu hsb hzb
        by_cases hx0 : 0 ≤ x
        · have d1 : decide (0 ≤ x) = true := decide_eq_true hx0
          have HSF := Lib.hid (HSS.out.trans (by rw [if_pos hx0]))
          go_wp2_with fail
          go_roundw
          case rel => first | exact ⟨k + 1, by omega, by go_num, by rw [HST.out], by rw [HSF.out], by first | rfl | trivial⟩ | ((repeat apply Exists.intro); exact ⟨⟨k + 1, by omega, by go_num, by rw [HST.out], by rw [HSF.out], by first | rfl | trivial⟩, rfl⟩)
          case measure => simp [intOf]; omega
        · have d1 : decide (0 ≤ x) = false := decide_eq_false hx0
          have HSF := Lib.hid (HSS.out.trans (by rw [if_neg hx0, Int.add_zero]))
          go_wp2_with fail
          go_roundw
          case rel => first | exact ⟨k + 1, by omega, by go_num, by rw [HST.out], by rw [HSF.out], by first | rfl | trivial⟩ | ((repeat apply Exists.intro); exact ⟨⟨k + 1, by omega, by go_num, by rw [HST.out], by rw [HSF.out], by first | rfl | trivial⟩, rfl⟩)
          case measure => simp [intOf]; omega
      · obtain rfl : k = n2 := by omega
        have g3 := HF3.out
        have g4 := HF4.out
        rw [← HLT.out] at g3
        obtain ⟨S, eS⟩ : ∃ S, S = sI k (fun p => if 0 ≤ l.getD p 0 then xs.getD p 0 else 0) := ⟨_, rfl⟩
        rw [← eS] at g4 ⊢
        obtain ⟨y, ey⟩ : ∃ y, y = thrTo l k - 1 := ⟨_, rfl⟩
        rw [← ey]
        have d1 : decide (y < m) = true := decide_eq_true (by omega)
        have d2 : decide (S ≤ R) = true := decide_eq_true g4
        clear eS ey g3 g4 hbd hsb
        go_wp2_with fail
        go_ret
        exact ⟨rfl, HB5.out⟩

end Go.Proofs.Ytiadnbdefcimiaa
