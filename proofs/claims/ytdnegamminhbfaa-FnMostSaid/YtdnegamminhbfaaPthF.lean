/- The contracts of chapter 7 for paths and stars told by their steps. -/
import Derived.Test.YtdnegamminhbfaaPthG
import Derived.Test.YtdnegamminhbfaaOrdI4
import Derived.Test.YtdnegamminhbfaaOrdI7
import Derived.Test.YtdnegamminhbfaaOrdI9
import Derived.Test.YtdnegamminhbfaaOrdS1
import Derived.Test.YtdnegamminhbfaaOrdS5
import Derived.Test.YtdnegamminhbfaaOrdS6
namespace Go.Proofs.Ytdnegamminhbfaa
open Go.RowKit Go.Sort Go.Lib

/-- The steps of a star. -/
structure IsStar (l : List Pt) : Prop where
  lo : 2 ≤ l.length
  hi : l.length ≤ 4
  steps : ∀ s ∈ l, stepP s
theorem star_form {L : List (List Int)} (h : starB L = true) : ∃ l, L = rowsOf l ∧ IsStar l := by
  obtain ⟨h1, h2, h3, h4⟩ := starB_true h
  exact ⟨ptsL L, steps_form h1, by simpa using h2, by simpa using h3, h4⟩
theorem starB_rows {l : List Pt} (h : IsStar l) : starB (rowsOf l) = true := by
  unfold starB
  rw [stepsB_rows h.steps, rowsOf_len, decide_eq_true h.lo, decide_eq_true h.hi]; rfl
theorem small_star {l : List Pt} (h : IsStar l) : SmallM (rowsOf l) := small_rows (by have := h.hi; omega)

theorem plB_of {l : List Pt} (P : IsPath l) {f t : Nat} (hf : f ≤ t) (ht : t < l.length) : plB (rowsOf l) f t = true := by
  unfold plB
  rw [pathB_rows P, rowsOf_len, decide_eq_true (show (0 : Int) ≤ f by omega), decide_eq_true (show (f : Int) < (l.length : Int) by omega), decide_eq_true (show (f : Int) ≤ t by omega), decide_eq_true (show (t : Int) < (l.length : Int) by omega)]; rfl
theorem pLattice (A : Option Addr) (n c : Nat) (l : List Pt) (w : World) (h : RdM w A n (rowsOf l)) (P : IsPath l) (h6 : n ≤ 6) : Calls Try.prog 32 #[.slice A n c] w (GotI ((nD l.length l : Nat) : Int) true w) := by
  have h1 := orderLattice_any A n c (rowsOf l) w h (small_rows P.hi)
  have hg : pmB (rowsOf l) 6 = true := by unfold pmB; rw [pathB_rows P, decide_eq_true (by rw [h.1]; exact h6)]; rfl
  rw [ifM_yes _ hg, hg, ptsL_rows] at h1
  exact h1
theorem pLattice0 (A : Option Addr) (n c : Nat) (L : List (List Int)) (w : World) (h : RdM w A n L) (hs : SmallM L) (hp : pmB L 6 = false) : Calls Try.prog 32 #[.slice A n c] w (GotI 0 false w) := by
  have h1 := orderLattice_any A n c L w h hs
  rw [ifM_no _ hp, hp] at h1
  exact h1
theorem pSorted (A : Option Addr) (n c : Nat) (l : List Pt) (w : World) (h : RdM w A n (rowsOf l)) (P : IsPath l) : Calls Try.prog 29 #[.slice A n c] w (GotR n (srt l) w) := by
  have h1 := orderSorted_any A n c (rowsOf l) w h (small_rows P.hi)
  unfold RowsGot at h1
  rw [ifR_yes _ (pathB_rows P), pathB_rows P, ptsL_rows] at h1
  exact h1.mono fun e w' ⟨⟨A', n', c', he, ⟨gs, o⟩, _⟩, b⟩ => fit_r h (srt_len l) he o.rd b
theorem pSorted0 (A : Option Addr) (n c : Nat) (L : List (List Int)) (w : World) (h : RdM w A n L) (hs : SmallM L) (hp : pathB L = false) : Calls Try.prog 29 #[.slice A n c] w (GotN w) := by
  have h1 := orderSorted_any A n c L w h hs
  unfold RowsGot at h1
  rw [ifR_no _ hp, hp] at h1
  exact h1.mono fun e w' ⟨⟨A', n', c', he, ⟨gs, o⟩, _⟩, b⟩ => fit_n he o.rd b
theorem qLattice (A : Option Addr) (n c : Nat) (l : List Pt) (w : World) (h : RdM w A n (rowsOf l)) (P : IsPath l) (h6 : n ≤ 6) : Calls Try.prog 33 #[.slice A n c] w (GotI ((nD l.length l : Nat) : Int) true w) := by
  have h1 := specOrderLattice_any A n c (rowsOf l) w h (small_rows P.hi)
  have hg : pmB (rowsOf l) 6 = true := by unfold pmB; rw [pathB_rows P, decide_eq_true (by rw [h.1]; exact h6)]; rfl
  rw [ifM_yes _ hg, hg, ptsL_rows] at h1
  exact h1
theorem qLattice0 (A : Option Addr) (n c : Nat) (L : List (List Int)) (w : World) (h : RdM w A n L) (hs : SmallM L) (hp : pmB L 6 = false) : Calls Try.prog 33 #[.slice A n c] w (GotI 0 false w) := by
  have h1 := specOrderLattice_any A n c L w h hs
  rw [ifM_no _ hp, hp] at h1
  exact h1
end Go.Proofs.Ytdnegamminhbfaa
