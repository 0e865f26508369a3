/- The model's draws of bundles: some list of small numbers in new memory. -/
import Derived.Test.YtiadnbdefcimiaaRead
import Derived.Test.YtiadnbdefcimiaaSpecSort
namespace Go.Proofs.Ytiadnbdefcimiaa
open Go.RowKit

/-- Each number is from 0 to 60. -/
def Lens (xs : List Int) : Prop := ∀ x ∈ xs, 0 ≤ x ∧ x ≤ 60
/-- What a draw of a list leaves. -/
def DrawnQ (w0 w : World) (g top q : Nat) (e : Ending) (w' : World) : Prop :=
  ∃ (A : Option Addr) (n c p' : Nat) (xs : List Int), e = .returned (.slice A n c) ∧ Own w' w.heap.size A n c xs ∧ n ≤ top ∧ Lens xs ∧ Rdr w0 w' g p' ∧ p' ≤ q ∧ w.grownBy w' (some g)
/-- The same, with one bound for all. -/
def DrawnL (w0 w : World) (g top : Nat) (e : Ending) (w' : World) : Prop :=
  ∃ (A : Option Addr) (n c p' : Nat) (xs : List Int), e = .returned (.slice A n c) ∧ Own w' w.heap.size A n c xs ∧ n ≤ top ∧ Lens xs ∧ Rdr w0 w' g p' ∧ p' ≤ 1000 ∧ w.grownBy w' (some g)

set_option maxHeartbeats 2000000 in
theorem sticksQ_any (w0 : World) (g p m : Nat) (w : World) (h : Rdr w0 w g p) (hp : p ≤ 90000) (hm : m ≤ 11) :
    Calls Try.prog 101 #[.pointer (some ⟨g, 0, none⟩), .int .i64 m] w (DrawnQ w0 w g (m + 1) (p + 3 * m + 1)) := by
  have hl := Own.lit w (Nat.le_refl _) [] (by simp)
  have hglt := h.lt
  go_enter Try.func101, Try.ntmps101
  go_wp2
  go_loopw [5, 6] (fun l i wr => ∃ (k p' c : Nat) (A : Option Addr) (xs : List Int), k ≤ m ∧ i = .int .i64 k ∧ l = .slice A k c ∧ Own wr w.heap.size A k c xs ∧ Lens xs ∧ Rdr w0 wr g p' ∧ p' ≤ p + 3 * k ∧ w.grownBy wr (some g)) (fun _ i _ => m - (intOf i).toNat)
  case atStart => exact ⟨0, p, _, _, [], Nat.zero_le _, rfl, rfl, hl, fun x hx => by simp at hx, h.kept (World.grownBy_alloc w _ none) (fun k e => by cases e), by omega, World.grownBy_alloc w _ _⟩
  case round =>
    obtain ⟨k, p', c, A, xs, hk, rfl, rfl, ho, hx, hr, hp', hg⟩ := hrel
    clear hl
    by_cases hlt : k < m
    · go_wp2_with fail
      refine (l91Length_any w0 g p' _ hr (by omega)).mono ?_
      rintro e w2 ⟨v, rfl, hv1, hv2, r2, g2⟩
      have o2 := ho.far g2 (fun j e => by cases e; exact .inl hglt)
      have g3 := grown_trans_row hg g2
      have hs3 := g3.size
      have oa := o2.al (.cells #[.int .i64 v] 3)
      go_wp2_with (at_builtin; refine wpList_app rfl (.tmp 13) (.tmp 16) rfl rfl oa rfl (rd_one _ _) (by omega) (by simp; omega) ?_; intro A' c' W' ho' hg')
      have r3 := (r2.kept (World.grownBy_alloc w2 (.cells #[.int .i64 v] 3) none) (fun k e => by cases e)).kept hg' (fun j e => by have := oa.row j e; omega)
      have g4 := grown_new (grown_new g3 (World.grownBy_alloc w2 (.cells #[.int .i64 v] 3) none) (fun j e => by cases e)) hg' (fun j e => (oa.row j e).1)
      go_roundw
      case rel => exact ⟨k + 1, p' + 3, c', A', xs ++ [v], by omega, by go_num, rfl, ho', fun x hx' => by
          rcases List.mem_append.1 hx' with h1 | h1
          · exact hx x h1
          · simp at h1; subst h1; omega, r3, by omega, g4⟩
      case measure => simp [intOf]; omega
    · obtain rfl : k = m := by omega
      go_wp2_with fail
      refine (l1Sort_any A k c xs _ ho.rd (by omega)).mono ?_
      rintro e w2 ⟨A2, c2, rfl, o2, b2⟩
      have r2 := hr.kept (grown_of_below b2) (fun j e => by cases e)
      have g2 := grown_new hg (grown_of_below b2) (fun j e => by cases e)
      have o3 := o2.lower hg.size
      have hx2 : Lens (isort xs) := fun x h1 => hx x ((perm_isort xs).mem_iff.1 h1)
      go_wp2_with fail
      refine (pick_any w0 g _ 40 _ r2 (by omega) (by omega) (by omega)).mono ?_
      rintro e w3 ⟨v, rfl, _, hv, r3, g3⟩
      have hv := hv (by omega)
      have o4 := o3.far g3 (fun j e => by cases e; exact .inl hglt)
      have g4 := grown_trans_row g2 g3
      have hs4 := g4.size
      by_cases hv0 : v = 0
      · subst hv0
        have oa := o4.al (.cells #[.int .i64 1] 3)
        go_wp2_with (at_builtin; refine wpList_app rfl (.tmp 24) (.tmp 25) rfl rfl oa rfl (rd_one _ _) (by omega) (by simp; omega) ?_; intro A' c' W' ho' hg')
        have r4 := (r3.kept (World.grownBy_alloc w3 (.cells #[.int .i64 1] 3) none) (fun k e => by cases e)).kept hg' (fun j e => by have := oa.row j e; omega)
        have g5 := grown_new (grown_new g4 (World.grownBy_alloc w3 (.cells #[.int .i64 1] 3) none) (fun j e => by cases e)) hg' (fun j e => (oa.row j e).1)
        go_ret
        exact ⟨A', k + 1, c', _, _, rfl, ho', by omega, fun x hx' => by
          rcases List.mem_append.1 hx' with h1 | h1
          · exact hx2 x h1
          · simp at h1; subst h1; omega, r4, by omega, g5⟩
      · by_cases hv1 : v = 1
        · subst hv1
          have ol : Own (w3.alloc (.cells #[.int .i64 0] 3)) w.heap.size (some ⟨w3.heap.size, 0, none⟩) 1 1 [0] := Own.lit w3 (by omega) [0] (by simp)
          have oa := o4.al (.cells #[.int .i64 0] 3)
          go_wp2_with (at_builtin; refine wpList_app rfl (.tmp 29) (.tmp 30) rfl rfl ol rfl oa.rd (by omega) (by simp; omega) ?_; intro A' c' W' ho' hg')
          have r4 := (r3.kept (World.grownBy_alloc w3 (.cells #[.int .i64 0] 3) none) (fun k e => by cases e)).kept hg' (fun j e => by have := ol.row j e; omega)
          have g5 := grown_new (grown_new g4 (World.grownBy_alloc w3 (.cells #[.int .i64 0] 3) none) (fun j e => by cases e)) hg' (fun j e => (ol.row j e).1)
          go_ret
          exact ⟨A', 1 + k, c', _, _, rfl, ho', by omega, fun x hx' => by
            rcases List.mem_append.1 hx' with h1 | h1
            · simp at h1; subst h1; omega
            · exact hx2 x h1, r4, by omega, g5⟩
        · go_wp2
          go_ret
          exact ⟨A2, k, c2, _, _, rfl, o4, by omega, hx2, r3, by omega, g4⟩

theorem sticks_any (w0 : World) (g p m : Nat) (w : World) (h : Rdr w0 w g p) (hp : p ≤ 900) (hm : m ≤ 11) :
    Calls Try.prog 101 #[.pointer (some ⟨g, 0, none⟩), .int .i64 m] w (DrawnL w0 w g (m + 1)) :=
  (sticksQ_any w0 g p m w h (by omega) hm).mono fun _ _ ⟨A, n, c, p', xs, h1, h2, h3, h4, h5, h6, h7⟩ => ⟨A, n, c, p', xs, h1, h2, h3, h4, h5, by omega, h7⟩

theorem bundle_any (w0 : World) (g p : Nat) (w : World) (h : Rdr w0 w g p) (hp : p ≤ 899) :
    Calls Try.prog 91 #[.pointer (some ⟨g, 0, none⟩)] w (DrawnL w0 w g 11) := by
  go_enter Try.func91, Try.ntmps91
  go_wp2_with fail
  refine (pick_any w0 g p 9 _ h (by omega) (by omega) (by omega)).mono ?_
  rintro e w2 ⟨v, rfl, hv0, hv, r2, g2⟩
  have hv := hv (by omega)
  obtain ⟨m, rfl⟩ : ∃ m : Nat, v = m := ⟨v.toNat, by omega⟩
  go_wp2_with fail
  rw [show (1 + (m : Int)) = ((1 + m : Nat) : Int) by omega]
  refine (sticks_any w0 g _ (1 + m) _ r2 (by omega) (by omega)).mono ?_
  rintro e w3 ⟨A, n, c, p', xs, rfl, o3, hn, hx, r3, hp', g3⟩
  have hs := g2.size
  go_wp2_with fail
  go_ret
  exact ⟨A, n, c, p', xs, rfl, o3.lower hs, by omega, hx, r3, hp', grown_trans_row g2 g3⟩

/-- What a law's draw of a list leaves. -/
def Drawn1 (w : World) (top : Nat) (e : Ending) (w' : World) : Prop :=
  ∃ (A : Option Addr) (n c : Nat) (xs : List Int), e = .returned (.slice A n c) ∧ Own w' w.heap.size A n c xs ∧ n ≤ top ∧ Lens xs ∧ Below w.heap.size w w'

end Go.Proofs.Ytiadnbdefcimiaa
