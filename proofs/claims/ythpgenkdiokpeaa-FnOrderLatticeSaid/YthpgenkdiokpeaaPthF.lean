/- The contracts of chapters 6 and 7 for paths and stars told by their steps. -/
import Derived.Test.YthpgenkdiokpeaaOrdP
import Derived.Test.YthpgenkdiokpeaaE6a
import Derived.Test.YthpgenkdiokpeaaPathI3
import Derived.Test.YthpgenkdiokpeaaPathI4
import Derived.Test.YthpgenkdiokpeaaPathI6
import Derived.Test.YthpgenkdiokpeaaPathS6
import Derived.Test.YthpgenkdiokpeaaPathS7
import Derived.Test.YthpgenkdiokpeaaPathS9
import Derived.Test.YthpgenkdiokpeaaOrdI4
import Derived.Test.YthpgenkdiokpeaaOrdI7
import Derived.Test.YthpgenkdiokpeaaOrdI9
import Derived.Test.YthpgenkdiokpeaaOrdS1
import Derived.Test.YthpgenkdiokpeaaOrdS5
import Derived.Test.YthpgenkdiokpeaaOrdS6
namespace Go.Proofs.Ythpgenkdiokpeaa
open Go.RowKit Go.Sort Go.Lib

theorem step_back {r : List Int} (h : stepRow r = true) : ptRow (rowPt r) = r := by
  have h2 := (stepRow_pt h).2
  match r, h2 with
  | [a, b], _ => rfl
theorem steps_form {L : List (List Int)} (h : stepsB L = true) : L = rowsOf (ptsL L) := by
  unfold rowsOf ptsL
  rw [List.map_map]
  conv => lhs; rw [← List.map_id L]
  exact List.map_congr_left fun r hr => (step_back (List.all_eq_true.1 h r hr)).symm
theorem path_form {L : List (List Int)} (h : pathB L = true) : ∃ l, L = rowsOf l ∧ IsPath l := ⟨ptsL L, steps_form (stepsB_all (pathB_true h).2), (pathB_true h).1⟩
/-- The steps of a star. -/
structure IsStar (l : List Pt) : Prop where
  lo : 2 ≤ l.length
  hi : l.length ≤ 4
  steps : ∀ s ∈ l, stepP s
theorem star_form {L : List (List Int)} (h : starB L = true) : ∃ l, L = rowsOf l ∧ IsStar l := by
  obtain ⟨h1, h2, h3, h4⟩ := starB_true h
  exact ⟨ptsL L, steps_form h1, by simpa using h2, by simpa using h3, h4⟩
theorem starB_rows {l : List Pt} (h : IsStar l) : starB (rowsOf l) = true := by
  unfold starB
  rw [stepsB_rows h.steps, rowsOf_len, decide_eq_true h.lo, decide_eq_true h.hi]; rfl
theorem small_star {l : List Pt} (h : IsStar l) : SmallM (rowsOf l) := small_rows (by have := h.hi; omega)

theorem wf_small {v : Int} (h1 : -1000000 ≤ v) (h2 : v ≤ 1000000) : (Lit.int .i64 v).wf = true := by
  simp [Lit.wf, IntKind.min, IntKind.max, IntKind.signed, IntKind.bits]; omega
theorem plB_of {l : List Pt} (P : IsPath l) {f t : Nat} (hf : f ≤ t) (ht : t < l.length) : plB (rowsOf l) f t = true := by
  unfold plB
  rw [pathB_rows P, rowsOf_len, decide_eq_true (show (0 : Int) ≤ f by omega), decide_eq_true (show (f : Int) < (l.length : Int) by omega), decide_eq_true (show (f : Int) ≤ t by omega), decide_eq_true (show (t : Int) < (l.length : Int) by omega)]; rfl
abbrev GotB (v : Bool) (w : World) (e : Ending) (w' : World) : Prop := e = .returned (.bool v) ∧ Below w.heap.size w w'
abbrev GotI (v : Int) (b : Bool) (w : World) (e : Ending) (w' : World) : Prop := e = .returned (.tuple #[.int .i64 v, .bool b]) ∧ Below w.heap.size w w'
def GotR (n : Nat) (l : List Pt) (w : World) (e : Ending) (w' : World) : Prop := ∃ A' c', e = .returned (.tuple #[.slice A' n c', .bool true]) ∧ RdM w' A' n (rowsOf l) ∧ Below w.heap.size w w'
def GotN (w : World) (e : Ending) (w' : World) : Prop := ∃ A' c', e = .returned (.tuple #[.slice A' 0 c', .bool false]) ∧ RdM w' A' 0 [] ∧ Below w.heap.size w w'
theorem got_n {n n' : Nat} {l m : List Pt} {w w' : World} {A A' : Option Addr} (h : RdM w A n (rowsOf l)) (h' : RdM w' A' n' (rowsOf m)) (hl : m.length = l.length) : n' = n := by
  have h1 := h.1
  have h2 := h'.1
  rw [rowsOf_len] at h1 h2
  omega
theorem fit_r {n n' c' : Nat} {l m : List Pt} {w w0 w' : World} {A A' : Option Addr} {e : Ending} (h : RdM w A n (rowsOf l)) (hl : m.length = l.length) (he : e = .returned (.tuple #[.slice A' n' c', .bool true])) (r : RdM w' A' n' (rowsOf m)) (b : Below w0.heap.size w0 w') : GotR n m w0 e w' := by
  obtain rfl := got_n h r hl
  exact ⟨A', c', he, r, b⟩
theorem fit_n {n' c' : Nat} {w0 w' : World} {A' : Option Addr} {e : Ending} (he : e = .returned (.tuple #[.slice A' n' c', .bool false])) (r : RdM w' A' n' []) (b : Below w0.heap.size w0 w') : GotN w0 e w' := by
  obtain rfl : n' = 0 := r.1.symm
  exact ⟨A', c', he, r, b⟩

theorem pIn (A : Option Addr) (n c : Nat) (l : List Pt) (w : World) (h : RdM w A n (rowsOf l)) (P : IsPath l) : Calls Try.prog 29 #[.slice A n c] w (GotB true w) := by
  have h1 := pathIn_any A n c (rowsOf l) w h (small_rows P.hi)
  rw [pathB_rows P] at h1
  exact h1
theorem pConvex (A : Option Addr) (n c : Nat) (l : List Pt) (w : World) (h : RdM w A n (rowsOf l)) (P : IsPath l) : Calls Try.prog 48 #[.slice A n c] w (GotB (convB l) w) := by
  have h1 := pathConvex_any A n c (rowsOf l) w h (small_rows P.hi)
  rw [pathB_rows P, ptsL_rows, Bool.true_and] at h1
  exact h1
theorem pIn0 (A : Option Addr) (n c : Nat) (L : List (List Int)) (w : World) (h : RdM w A n L) (hs : SmallM L) (hp : pathB L = false) : Calls Try.prog 29 #[.slice A n c] w (GotB false w) := by
  have h1 := pathIn_any A n c L w h hs
  rw [hp] at h1
  exact h1
theorem pConvex0 (A : Option Addr) (n c : Nat) (L : List (List Int)) (w : World) (h : RdM w A n L) (hs : SmallM L) (hp : pathB L = false) : Calls Try.prog 48 #[.slice A n c] w (GotB false w) := by
  have h1 := pathConvex_any A n c L w h hs
  rw [hp, Bool.false_and] at h1
  exact h1
theorem pArea (A : Option Addr) (n c : Nat) (l : List Pt) (w : World) (h : RdM w A n (rowsOf l)) (P : IsPath l) : Calls Try.prog 38 #[.slice A n c] w (GotI (areaP l) true w) := by
  have h1 := pathArea_any A n c (rowsOf l) w h (small_rows P.hi)
  rw [ifP_yes _ (pathB_rows P), pathB_rows P, ptsL_rows] at h1
  exact h1
theorem pArea0 (A : Option Addr) (n c : Nat) (L : List (List Int)) (w : World) (h : RdM w A n L) (hs : SmallM L) (hp : pathB L = false) : Calls Try.prog 38 #[.slice A n c] w (GotI 0 false w) := by
  have h1 := pathArea_any A n c L w h hs
  rw [ifP_no _ hp, hp] at h1
  exact h1
theorem pRim (A : Option Addr) (n c : Nat) (l : List Pt) (w : World) (h : RdM w A n (rowsOf l)) (P : IsPath l) : Calls Try.prog 54 #[.slice A n c] w (GotI (rimP l) true w) := by
  have h1 := pathRim_any A n c (rowsOf l) w h (small_rows P.hi)
  rw [ifP_yes _ (pathB_rows P), pathB_rows P, ptsL_rows] at h1
  exact h1
theorem pRim0 (A : Option Addr) (n c : Nat) (L : List (List Int)) (w : World) (h : RdM w A n L) (hs : SmallM L) (hp : pathB L = false) : Calls Try.prog 54 #[.slice A n c] w (GotI 0 false w) := by
  have h1 := pathRim_any A n c L w h hs
  rw [ifP_no _ hp, hp] at h1
  exact h1
theorem pInside (A : Option Addr) (n c : Nat) (l : List Pt) (w : World) (h : RdM w A n (rowsOf l)) (P : IsPath l) (hc : convB l = true) : Calls Try.prog 57 #[.slice A n c] w (GotI (inPt l) true w) := by
  have h1 := pathInside_any A n c (rowsOf l) w h (small_rows P.hi)
  have hg : goodB (rowsOf l) = true := by unfold goodB; rw [pathB_rows P, ptsL_rows, hc]; rfl
  rw [ifG_yes _ hg, hg, ptsL_rows] at h1
  exact h1
theorem pLattice (A : Option Addr) (n c : Nat) (l : List Pt) (w : World) (h : RdM w A n (rowsOf l)) (P : IsPath l) (h6 : n ≤ 6) : Calls Try.prog 78 #[.slice A n c] w (GotI ((nD l.length l : Nat) : Int) true w) := by
  have h1 := orderLattice_any A n c (rowsOf l) w h (small_rows P.hi)
  have hg : pmB (rowsOf l) 6 = true := by unfold pmB; rw [pathB_rows P, decide_eq_true (by rw [h.1]; exact h6)]; rfl
  rw [ifM_yes _ hg, hg, ptsL_rows] at h1
  exact h1
theorem pLattice0 (A : Option Addr) (n c : Nat) (L : List (List Int)) (w : World) (h : RdM w A n L) (hs : SmallM L) (hp : pmB L 6 = false) : Calls Try.prog 78 #[.slice A n c] w (GotI 0 false w) := by
  have h1 := orderLattice_any A n c L w h hs
  rw [ifM_no _ hp, hp] at h1
  exact h1
theorem pCorners (A : Option Addr) (n c : Nat) (l : List Pt) (w : World) (h : RdM w A n (rowsOf l)) (P : IsPath l) : Calls Try.prog 34 #[.slice A n c] w (GotR n (corL l) w) := by
  have h1 := pathCorners_any A n c (rowsOf l) w h (small_rows P.hi)
  unfold RowsGot at h1
  rw [ifR_yes _ (pathB_rows P), pathB_rows P, ptsL_rows] at h1
  exact h1.mono fun e w' ⟨⟨A', n', c', he, ⟨gs, o⟩, _⟩, b⟩ => fit_r h (corL_len l) he o.rd b
theorem pCorners0 (A : Option Addr) (n c : Nat) (L : List (List Int)) (w : World) (h : RdM w A n L) (hs : SmallM L) (hp : pathB L = false) : Calls Try.prog 34 #[.slice A n c] w (GotN w) := by
  have h1 := pathCorners_any A n c L w h hs
  unfold RowsGot at h1
  rw [ifR_no _ hp, hp] at h1
  exact h1.mono fun e w' ⟨⟨A', n', c', he, ⟨gs, o⟩, _⟩, b⟩ => fit_n he o.rd b
theorem pBack (A : Option Addr) (n c : Nat) (l : List Pt) (w : World) (h : RdM w A n (rowsOf l)) (P : IsPath l) : Calls Try.prog 32 #[.slice A n c] w (GotR n (bakP l) w) := by
  have h1 := pathBack_any A n c (rowsOf l) w h (small_rows P.hi)
  unfold RowsGot at h1
  rw [ifR_yes _ (pathB_rows P), pathB_rows P, ptsL_rows] at h1
  exact h1.mono fun e w' ⟨⟨A', n', c', he, ⟨gs, o⟩, _⟩, b⟩ => fit_r h (by simp [bakP]) he o.rd b
theorem pBack0 (A : Option Addr) (n c : Nat) (L : List (List Int)) (w : World) (h : RdM w A n L) (hs : SmallM L) (hp : pathB L = false) : Calls Try.prog 32 #[.slice A n c] w (GotN w) := by
  have h1 := pathBack_any A n c L w h hs
  unfold RowsGot at h1
  rw [ifR_no _ hp, hp] at h1
  exact h1.mono fun e w' ⟨⟨A', n', c', he, ⟨gs, o⟩, _⟩, b⟩ => fit_n he o.rd b
theorem pTurn (A : Option Addr) (n c : Nat) (l : List Pt) (w : World) (h : RdM w A n (rowsOf l)) (P : IsPath l) : Calls Try.prog 40 #[.slice A n c] w (GotR n (l.map quaP) w) := by
  have h1 := pathTurn_any A n c (rowsOf l) w h (small_rows P.hi)
  unfold RowsGot at h1
  rw [ifR_yes _ (pathB_rows P), pathB_rows P, ptsL_rows] at h1
  exact h1.mono fun e w' ⟨⟨A', n', c', he, ⟨gs, o⟩, _⟩, b⟩ => fit_r h (by simp) he o.rd b
theorem pTurn0 (A : Option Addr) (n c : Nat) (L : List (List Int)) (w : World) (h : RdM w A n L) (hs : SmallM L) (hp : pathB L = false) : Calls Try.prog 40 #[.slice A n c] w (GotN w) := by
  have h1 := pathTurn_any A n c L w h hs
  unfold RowsGot at h1
  rw [ifR_no _ hp, hp] at h1
  exact h1.mono fun e w' ⟨⟨A', n', c', he, ⟨gs, o⟩, _⟩, b⟩ => fit_n he o.rd b
theorem pSorted (A : Option Addr) (n c : Nat) (l : List Pt) (w : World) (h : RdM w A n (rowsOf l)) (P : IsPath l) : Calls Try.prog 63 #[.slice A n c] w (GotR n (srt l) w) := by
  have h1 := orderSorted_any A n c (rowsOf l) w h (small_rows P.hi)
  unfold RowsGot at h1
  rw [ifR_yes _ (pathB_rows P), pathB_rows P, ptsL_rows] at h1
  exact h1.mono fun e w' ⟨⟨A', n', c', he, ⟨gs, o⟩, _⟩, b⟩ => fit_r h (srt_len l) he o.rd b
theorem pSorted0 (A : Option Addr) (n c : Nat) (L : List (List Int)) (w : World) (h : RdM w A n L) (hs : SmallM L) (hp : pathB L = false) : Calls Try.prog 63 #[.slice A n c] w (GotN w) := by
  have h1 := orderSorted_any A n c L w h hs
  unfold RowsGot at h1
  rw [ifR_no _ hp, hp] at h1
  exact h1.mono fun e w' ⟨⟨A', n', c', he, ⟨gs, o⟩, _⟩, b⟩ => fit_n he o.rd b
theorem pBegin (A : Option Addr) (n c : Nat) (l : List Pt) (w : World) (h : RdM w A n (rowsOf l)) (P : IsPath l) (a : Int) (k : Nat) (ha : a = k) (hk : k < n) : Calls Try.prog 31 #[.slice A n c, .int .i64 a] w (GotR n (rotL l k) w) := by
  subst ha
  have h1 := pathBegin_any A n c (rowsOf l) k w h (small_rows P.hi) (by have := P.hi; have := h.1; rw [rowsOf_len] at this; exact wf_small (by omega) (by omega))
  have hb : begB (rowsOf l) k = true := by unfold begB; rw [pathB_rows P, decide_eq_true (show (0 : Int) ≤ k by omega), decide_eq_true (by rw [h.1]; omega)]; rfl
  rw [begR_yes hb, hb, ptsL_rows, Int.toNat_natCast] at h1
  exact h1.mono fun e w' ⟨⟨A', n', c', he, ⟨gs, o⟩, _⟩, b⟩ => fit_r h (rot_len l) he o.rd b
theorem pBegin0 (A : Option Addr) (n c : Nat) (L : List (List Int)) (a : Int) (w : World) (h : RdM w A n L) (hs : SmallM L) (hwf : (Lit.int .i64 a).wf = true) (hp : begB L a = false) : Calls Try.prog 31 #[.slice A n c, .int .i64 a] w (GotN w) := by
  have h1 := pathBegin_any A n c L a w h hs hwf
  rw [begR_no hp, hp] at h1
  exact h1.mono fun e w' ⟨⟨A', n', c', he, ⟨gs, o⟩, _⟩, b⟩ => fit_n he o.rd b
theorem pRun (A : Option Addr) (n c : Nat) (l : List Pt) (w : World) (h : RdM w A n (rowsOf l)) (P : IsPath l) (a b : Int) (f t : Nat) (ha : a = f) (hb : b = t) (hf : f ≤ t) (ht : t < n) : Calls Try.prog 69 #[.slice A n c, .int .i64 a, .int .i64 b] w (GotR n (runP l f t) w) := by
  subst ha hb
  have h1 := orderRun_any A n c (rowsOf l) f t w h (small_rows P.hi)
  have hb := plB_of P (f := f) (t := t) hf (by have := h.1; rw [rowsOf_len] at this; omega)
  rw [plR_yes hb, hb, ptsL_rows, Int.toNat_natCast, Int.toNat_natCast] at h1
  exact h1.mono fun e w' ⟨⟨A', n', c', he, ⟨gs, o⟩, _⟩, b⟩ => fit_r h (runP_len l hf) he o.rd b
theorem pRun0 (A : Option Addr) (n c : Nat) (L : List (List Int)) (f t : Int) (w : World) (h : RdM w A n L) (hs : SmallM L) (hp : plB L f t = false) : Calls Try.prog 69 #[.slice A n c, .int .i64 f, .int .i64 t] w (GotN w) := by
  have h1 := orderRun_any A n c L f t w h hs
  rw [plR_no hp, hp] at h1
  exact h1.mono fun e w' ⟨⟨A', n', c', he, ⟨gs, o⟩, _⟩, b⟩ => fit_n he o.rd b
theorem pGain (A : Option Addr) (n c : Nat) (l : List Pt) (w : World) (h : RdM w A n (rowsOf l)) (P : IsPath l) (a b : Int) (f t : Nat) (ha : a = f) (hb : b = t) (hf : f ≤ t) (ht : t < n) : Calls Try.prog 72 #[.slice A n c, .int .i64 a, .int .i64 b] w (GotI (areaP (runP l f t) - areaP l) true w) := by
  subst ha hb
  have h1 := orderGain_any A n c (rowsOf l) f t w h (small_rows P.hi)
  have hb := plB_of P (f := f) (t := t) hf (by have := h.1; rw [rowsOf_len] at this; omega)
  rw [plG_yes hb, hb, ptsL_rows, Int.toNat_natCast, Int.toNat_natCast] at h1
  exact h1
theorem pGain0 (A : Option Addr) (n c : Nat) (L : List (List Int)) (f t : Int) (w : World) (h : RdM w A n L) (hs : SmallM L) (hp : plB L f t = false) : Calls Try.prog 72 #[.slice A n c, .int .i64 f, .int .i64 t] w (GotI 0 false w) := by
  have h1 := orderGain_any A n c L f t w h hs
  rw [plG_no hp, hp] at h1
  exact h1
theorem pZonoArea (A : Option Addr) (n c : Nat) (l : List Pt) (w : World) (h : RdM w A n (rowsOf l)) (P : IsStar l) : Calls Try.prog 83 #[.slice A n c] w (GotI (2 * abS l) true w) := by
  have h1 := zonoArea_any A n c (rowsOf l) w h (small_star P)
  rw [ifS_yes _ (starB_rows P), starB_rows P, ptsL_rows, show zarP l = 2 * abS l from abS_prS P.lo P.hi] at h1
  exact h1
theorem pZonoArea0 (A : Option Addr) (n c : Nat) (L : List (List Int)) (w : World) (h : RdM w A n L) (hs : SmallM L) (hp : starB L = false) : Calls Try.prog 83 #[.slice A n c] w (GotI 0 false w) := by
  have h1 := zonoArea_any A n c L w h hs
  rw [ifS_no _ hp, hp] at h1
  exact h1
theorem pZonoPieces (A : Option Addr) (n c : Nat) (l : List Pt) (w : World) (h : RdM w A n (rowsOf l)) (P : IsStar l) : Calls Try.prog 86 #[.slice A n c] w (GotI (zpcP l) true w) := by
  have h1 := zonoPieces_any A n c (rowsOf l) w h (small_star P)
  rw [ifS_yes _ (starB_rows P), starB_rows P, ptsL_rows] at h1
  exact h1
theorem pZonoPieces0 (A : Option Addr) (n c : Nat) (L : List (List Int)) (w : World) (h : RdM w A n L) (hs : SmallM L) (hp : starB L = false) : Calls Try.prog 86 #[.slice A n c] w (GotI 0 false w) := by
  have h1 := zonoPieces_any A n c L w h hs
  rw [ifS_no _ hp, hp] at h1
  exact h1
theorem pZonoPath (A : Option Addr) (n c : Nat) (l : List Pt) (w : World) (h : RdM w A n (rowsOf l)) (P : IsStar l) : Calls Try.prog 81 #[.slice A n c] w (GotR (2 * n) (zonP l) w) := by
  have h1 := zonoPath_any A n c (rowsOf l) w h (small_star P)
  rw [ifZ_yes (starB_rows P), starB_rows P, ptsL_rows] at h1
  exact h1.mono fun e w' ⟨⟨A', n', c', he, ⟨gs, o⟩, _⟩, b⟩ => by
    have q1 := (o.rd).1
    have q2 := h.1
    rw [rowsOf_len] at q1 q2
    rw [zonP_len] at q1
    obtain rfl : n' = 2 * n := by omega
    exact ⟨A', c', he, o.rd, b⟩
theorem pZonoPath0 (A : Option Addr) (n c : Nat) (L : List (List Int)) (w : World) (h : RdM w A n L) (hs : SmallM L) (hp : starB L = false) : Calls Try.prog 81 #[.slice A n c] w (GotN w) := by
  have h1 := zonoPath_any A n c L w h hs
  rw [ifZ_no hp, hp] at h1
  exact h1.mono fun e w' ⟨⟨A', n', c', he, ⟨gs, o⟩, _⟩, b⟩ => fit_n he o.rd b
theorem pZonoInside (A : Option Addr) (n c : Nat) (l : List Pt) (w : World) (h : RdM w A n (rowsOf l)) (P : IsStar l) (hc : convB (zonP l) = true) : Calls Try.prog 90 #[.slice A n c] w (GotI (inPt (zonP l)) true w) := by
  have h1 := zonoInside_any A n c (rowsOf l) w h (small_star P)
  have hg : zinB (rowsOf l) = true := by rw [zinB_yes (starB_rows P), ptsL_rows]; unfold goodB; rw [pathB_rows (zonP_path P.lo P.hi P.steps), ptsL_rows, hc]; rfl
  have hv : zinN (rowsOf l) = inPt (zonP l) := by unfold zinN; rw [hg, ptsL_rows]; rfl
  rw [hv, hg] at h1
  exact h1
theorem pZonoInside0 (A : Option Addr) (n c : Nat) (L : List (List Int)) (w : World) (h : RdM w A n L) (hs : SmallM L) (hp : zinB L = false) : Calls Try.prog 90 #[.slice A n c] w (GotI 0 false w) := by
  have h1 := zonoInside_any A n c L w h hs
  rw [zin_no hp, hp] at h1
  exact h1
theorem qIn (A : Option Addr) (n c : Nat) (l : List Pt) (w : World) (h : RdM w A n (rowsOf l)) (P : IsPath l) : Calls Try.prog 30 #[.slice A n c] w (GotB true w) := by
  have h1 := specPathIn_any A n c (rowsOf l) w h (small_rows P.hi)
  rw [pathB_rows P] at h1
  exact h1
theorem qConvex (A : Option Addr) (n c : Nat) (l : List Pt) (w : World) (h : RdM w A n (rowsOf l)) (P : IsPath l) : Calls Try.prog 50 #[.slice A n c] w (GotB (convB l) w) := by
  have h1 := specPathConvex_any A n c (rowsOf l) w h (small_rows P.hi)
  rw [pathB_rows P, ptsL_rows, Bool.true_and] at h1
  exact h1
theorem qIn0 (A : Option Addr) (n c : Nat) (L : List (List Int)) (w : World) (h : RdM w A n L) (hs : SmallM L) (hp : pathB L = false) : Calls Try.prog 30 #[.slice A n c] w (GotB false w) := by
  have h1 := specPathIn_any A n c L w h hs
  rw [hp] at h1
  exact h1
theorem qConvex0 (A : Option Addr) (n c : Nat) (L : List (List Int)) (w : World) (h : RdM w A n L) (hs : SmallM L) (hp : pathB L = false) : Calls Try.prog 50 #[.slice A n c] w (GotB false w) := by
  have h1 := specPathConvex_any A n c L w h hs
  rw [hp, Bool.false_and] at h1
  exact h1
theorem qArea (A : Option Addr) (n c : Nat) (l : List Pt) (w : World) (h : RdM w A n (rowsOf l)) (P : IsPath l) : Calls Try.prog 39 #[.slice A n c] w (GotI (areaP l) true w) := by
  have h1 := specPathArea_any A n c (rowsOf l) w h (small_rows P.hi)
  rw [ifP_yes _ (pathB_rows P), pathB_rows P, ptsL_rows] at h1
  exact h1
theorem qArea0 (A : Option Addr) (n c : Nat) (L : List (List Int)) (w : World) (h : RdM w A n L) (hs : SmallM L) (hp : pathB L = false) : Calls Try.prog 39 #[.slice A n c] w (GotI 0 false w) := by
  have h1 := specPathArea_any A n c L w h hs
  rw [ifP_no _ hp, hp] at h1
  exact h1
theorem qRim (A : Option Addr) (n c : Nat) (l : List Pt) (w : World) (h : RdM w A n (rowsOf l)) (P : IsPath l) : Calls Try.prog 55 #[.slice A n c] w (GotI (rimP l) true w) := by
  have h1 := specPathRim_any A n c (rowsOf l) w h (small_rows P.hi)
  rw [ifP_yes _ (pathB_rows P), pathB_rows P, ptsL_rows] at h1
  exact h1
theorem qRim0 (A : Option Addr) (n c : Nat) (L : List (List Int)) (w : World) (h : RdM w A n L) (hs : SmallM L) (hp : pathB L = false) : Calls Try.prog 55 #[.slice A n c] w (GotI 0 false w) := by
  have h1 := specPathRim_any A n c L w h hs
  rw [ifP_no _ hp, hp] at h1
  exact h1
theorem qInside (A : Option Addr) (n c : Nat) (l : List Pt) (w : World) (h : RdM w A n (rowsOf l)) (P : IsPath l) (hc : convB l = true) : Calls Try.prog 58 #[.slice A n c] w (GotI (inPt l) true w) := by
  have h1 := specPathInside_any A n c (rowsOf l) w h (small_rows P.hi)
  have hg : goodB (rowsOf l) = true := by unfold goodB; rw [pathB_rows P, ptsL_rows, hc]; rfl
  rw [ifG_yes _ hg, hg, ptsL_rows] at h1
  exact h1
theorem qLattice (A : Option Addr) (n c : Nat) (l : List Pt) (w : World) (h : RdM w A n (rowsOf l)) (P : IsPath l) (h6 : n ≤ 6) : Calls Try.prog 79 #[.slice A n c] w (GotI ((nD l.length l : Nat) : Int) true w) := by
  have h1 := specOrderLattice_any A n c (rowsOf l) w h (small_rows P.hi)
  have hg : pmB (rowsOf l) 6 = true := by unfold pmB; rw [pathB_rows P, decide_eq_true (by rw [h.1]; exact h6)]; rfl
  rw [ifM_yes _ hg, hg, ptsL_rows] at h1
  exact h1
theorem qLattice0 (A : Option Addr) (n c : Nat) (L : List (List Int)) (w : World) (h : RdM w A n L) (hs : SmallM L) (hp : pmB L 6 = false) : Calls Try.prog 79 #[.slice A n c] w (GotI 0 false w) := by
  have h1 := specOrderLattice_any A n c L w h hs
  rw [ifM_no _ hp, hp] at h1
  exact h1
theorem qCorners (A : Option Addr) (n c : Nat) (l : List Pt) (w : World) (h : RdM w A n (rowsOf l)) (P : IsPath l) : Calls Try.prog 35 #[.slice A n c] w (GotR n (corL l) w) := by
  have h1 := specPathCorners_any A n c (rowsOf l) w h (small_rows P.hi)
  rw [ifR_yes _ (pathB_rows P), pathB_rows P, ptsL_rows] at h1
  exact h1.mono fun e w' ⟨⟨A', n', c', he, r⟩, b⟩ => fit_r h (corL_len l) he r b
theorem qCorners0 (A : Option Addr) (n c : Nat) (L : List (List Int)) (w : World) (h : RdM w A n L) (hs : SmallM L) (hp : pathB L = false) : Calls Try.prog 35 #[.slice A n c] w (GotN w) := by
  have h1 := specPathCorners_any A n c L w h hs
  rw [ifR_no _ hp, hp] at h1
  exact h1.mono fun e w' ⟨⟨A', n', c', he, r⟩, b⟩ => fit_n he r b
theorem qBack (A : Option Addr) (n c : Nat) (l : List Pt) (w : World) (h : RdM w A n (rowsOf l)) (P : IsPath l) : Calls Try.prog 42 #[.slice A n c] w (GotR n (bakP l) w) := by
  have h1 := specPathBack_any A n c (rowsOf l) w h (small_rows P.hi)
  rw [ifR_yes _ (pathB_rows P), pathB_rows P, ptsL_rows] at h1
  exact h1.mono fun e w' ⟨⟨A', n', c', he, r⟩, b⟩ => fit_r h (by simp [bakP]) he r b
theorem qBack0 (A : Option Addr) (n c : Nat) (L : List (List Int)) (w : World) (h : RdM w A n L) (hs : SmallM L) (hp : pathB L = false) : Calls Try.prog 42 #[.slice A n c] w (GotN w) := by
  have h1 := specPathBack_any A n c L w h hs
  rw [ifR_no _ hp, hp] at h1
  exact h1.mono fun e w' ⟨⟨A', n', c', he, r⟩, b⟩ => fit_n he r b
theorem qTurn (A : Option Addr) (n c : Nat) (l : List Pt) (w : World) (h : RdM w A n (rowsOf l)) (P : IsPath l) : Calls Try.prog 45 #[.slice A n c] w (GotR n (l.map quaP) w) := by
  have h1 := specPathTurn_any A n c (rowsOf l) w h (small_rows P.hi)
  rw [ifR_yes _ (pathB_rows P), pathB_rows P, ptsL_rows] at h1
  exact h1.mono fun e w' ⟨⟨A', n', c', he, r⟩, b⟩ => fit_r h (by simp) he r b
theorem qTurn0 (A : Option Addr) (n c : Nat) (L : List (List Int)) (w : World) (h : RdM w A n L) (hs : SmallM L) (hp : pathB L = false) : Calls Try.prog 45 #[.slice A n c] w (GotN w) := by
  have h1 := specPathTurn_any A n c L w h hs
  rw [ifR_no _ hp, hp] at h1
  exact h1.mono fun e w' ⟨⟨A', n', c', he, r⟩, b⟩ => fit_n he r b
theorem qSorted (A : Option Addr) (n c : Nat) (l : List Pt) (w : World) (h : RdM w A n (rowsOf l)) (P : IsPath l) : Calls Try.prog 64 #[.slice A n c] w (GotR n (srt l) w) := by
  have h1 := specOrderSorted_any A n c (rowsOf l) w h (small_rows P.hi)
  rw [ifR_yes _ (pathB_rows P), pathB_rows P, ptsL_rows] at h1
  exact h1.mono fun e w' ⟨⟨A', n', c', he, r⟩, b⟩ => fit_r h (srt_len l) he r b
theorem qSorted0 (A : Option Addr) (n c : Nat) (L : List (List Int)) (w : World) (h : RdM w A n L) (hs : SmallM L) (hp : pathB L = false) : Calls Try.prog 64 #[.slice A n c] w (GotN w) := by
  have h1 := specOrderSorted_any A n c L w h hs
  rw [ifR_no _ hp, hp] at h1
  exact h1.mono fun e w' ⟨⟨A', n', c', he, r⟩, b⟩ => fit_n he r b
theorem qBegin (A : Option Addr) (n c : Nat) (l : List Pt) (w : World) (h : RdM w A n (rowsOf l)) (P : IsPath l) (a : Int) (k : Nat) (ha : a = k) (hk : k < n) : Calls Try.prog 47 #[.slice A n c, .int .i64 a] w (GotR n (rotL l k) w) := by
  subst ha
  have h1 := specPathBegin_any A n c (rowsOf l) k w h (small_rows P.hi) (by have := P.hi; have := h.1; rw [rowsOf_len] at this; exact wf_small (by omega) (by omega))
  have hb : begB (rowsOf l) k = true := by unfold begB; rw [pathB_rows P, decide_eq_true (show (0 : Int) ≤ k by omega), decide_eq_true (by rw [h.1]; omega)]; rfl
  rw [begR_yes hb, hb, ptsL_rows, Int.toNat_natCast] at h1
  exact h1.mono fun e w' ⟨⟨A', n', c', he, r⟩, b⟩ => fit_r h (rot_len l) he r b
theorem qBegin0 (A : Option Addr) (n c : Nat) (L : List (List Int)) (a : Int) (w : World) (h : RdM w A n L) (hs : SmallM L) (hwf : (Lit.int .i64 a).wf = true) (hp : begB L a = false) : Calls Try.prog 47 #[.slice A n c, .int .i64 a] w (GotN w) := by
  have h1 := specPathBegin_any A n c L a w h hs hwf
  rw [begR_no hp, hp] at h1
  exact h1.mono fun e w' ⟨⟨A', n', c', he, r⟩, b⟩ => fit_n he r b
theorem qRun (A : Option Addr) (n c : Nat) (l : List Pt) (w : World) (h : RdM w A n (rowsOf l)) (P : IsPath l) (a b : Int) (f t : Nat) (ha : a = f) (hb : b = t) (hf : f ≤ t) (ht : t < n) : Calls Try.prog 70 #[.slice A n c, .int .i64 a, .int .i64 b] w (GotR n (runP l f t) w) := by
  subst ha hb
  have h1 := specOrderRun_any A n c (rowsOf l) f t w h (small_rows P.hi)
  have hb := plB_of P (f := f) (t := t) hf (by have := h.1; rw [rowsOf_len] at this; omega)
  rw [plR_yes hb, hb, ptsL_rows, Int.toNat_natCast, Int.toNat_natCast] at h1
  exact h1.mono fun e w' ⟨⟨A', n', c', he, r⟩, b⟩ => fit_r h (runP_len l hf) he r b
theorem qRun0 (A : Option Addr) (n c : Nat) (L : List (List Int)) (f t : Int) (w : World) (h : RdM w A n L) (hs : SmallM L) (hp : plB L f t = false) : Calls Try.prog 70 #[.slice A n c, .int .i64 f, .int .i64 t] w (GotN w) := by
  have h1 := specOrderRun_any A n c L f t w h hs
  rw [plR_no hp, hp] at h1
  exact h1.mono fun e w' ⟨⟨A', n', c', he, r⟩, b⟩ => fit_n he r b
theorem qGain (A : Option Addr) (n c : Nat) (l : List Pt) (w : World) (h : RdM w A n (rowsOf l)) (P : IsPath l) (a b : Int) (f t : Nat) (ha : a = f) (hb : b = t) (hf : f ≤ t) (ht : t < n) : Calls Try.prog 73 #[.slice A n c, .int .i64 a, .int .i64 b] w (GotI (areaP (runP l f t) - areaP l) true w) := by
  subst ha hb
  have h1 := specOrderGain_any A n c (rowsOf l) f t w h (small_rows P.hi)
  have hb := plB_of P (f := f) (t := t) hf (by have := h.1; rw [rowsOf_len] at this; omega)
  rw [plG_yes hb, hb, ptsL_rows, Int.toNat_natCast, Int.toNat_natCast] at h1
  exact h1
theorem qGain0 (A : Option Addr) (n c : Nat) (L : List (List Int)) (f t : Int) (w : World) (h : RdM w A n L) (hs : SmallM L) (hp : plB L f t = false) : Calls Try.prog 73 #[.slice A n c, .int .i64 f, .int .i64 t] w (GotI 0 false w) := by
  have h1 := specOrderGain_any A n c L f t w h hs
  rw [plG_no hp, hp] at h1
  exact h1
theorem qZonoArea (A : Option Addr) (n c : Nat) (l : List Pt) (w : World) (h : RdM w A n (rowsOf l)) (P : IsStar l) : Calls Try.prog 85 #[.slice A n c] w (GotI (2 * abS l) true w) := by
  have h1 := specZonoArea_any A n c (rowsOf l) w h (small_star P)
  rw [ifS_yes _ (starB_rows P), starB_rows P, ptsL_rows, show zarP l = 2 * abS l from abS_prS P.lo P.hi] at h1
  exact h1
theorem qZonoArea0 (A : Option Addr) (n c : Nat) (L : List (List Int)) (w : World) (h : RdM w A n L) (hs : SmallM L) (hp : starB L = false) : Calls Try.prog 85 #[.slice A n c] w (GotI 0 false w) := by
  have h1 := specZonoArea_any A n c L w h hs
  rw [ifS_no _ hp, hp] at h1
  exact h1
theorem qZonoPieces (A : Option Addr) (n c : Nat) (l : List Pt) (w : World) (h : RdM w A n (rowsOf l)) (P : IsStar l) : Calls Try.prog 88 #[.slice A n c] w (GotI (zpcP l) true w) := by
  have h1 := specZonoPieces_any A n c (rowsOf l) w h (small_star P)
  rw [ifS_yes _ (starB_rows P), starB_rows P, ptsL_rows] at h1
  exact h1
theorem qZonoPieces0 (A : Option Addr) (n c : Nat) (L : List (List Int)) (w : World) (h : RdM w A n L) (hs : SmallM L) (hp : starB L = false) : Calls Try.prog 88 #[.slice A n c] w (GotI 0 false w) := by
  have h1 := specZonoPieces_any A n c L w h hs
  rw [ifS_no _ hp, hp] at h1
  exact h1
theorem qZonoPath (A : Option Addr) (n c : Nat) (l : List Pt) (w : World) (h : RdM w A n (rowsOf l)) (P : IsStar l) : Calls Try.prog 82 #[.slice A n c] w (GotR (2 * n) (zonP l) w) := by
  have h1 := specZonoPath_any A n c (rowsOf l) w h (small_star P)
  rw [ifZ_yes (starB_rows P), starB_rows P, ptsL_rows] at h1
  exact h1.mono fun e w' ⟨⟨A', n', c', he, r⟩, b⟩ => by
    have q1 := (r).1
    have q2 := h.1
    rw [rowsOf_len] at q1 q2
    rw [zonP_len] at q1
    obtain rfl : n' = 2 * n := by omega
    exact ⟨A', c', he, r, b⟩
theorem qZonoPath0 (A : Option Addr) (n c : Nat) (L : List (List Int)) (w : World) (h : RdM w A n L) (hs : SmallM L) (hp : starB L = false) : Calls Try.prog 82 #[.slice A n c] w (GotN w) := by
  have h1 := specZonoPath_any A n c L w h hs
  rw [ifZ_no hp, hp] at h1
  exact h1.mono fun e w' ⟨⟨A', n', c', he, r⟩, b⟩ => fit_n he r b
theorem qZonoInside (A : Option Addr) (n c : Nat) (l : List Pt) (w : World) (h : RdM w A n (rowsOf l)) (P : IsStar l) (hc : convB (zonP l) = true) : Calls Try.prog 91 #[.slice A n c] w (GotI (inPt (zonP l)) true w) := by
  have h1 := specZonoInside_any A n c (rowsOf l) w h (small_star P)
  have hg : zinB (rowsOf l) = true := by rw [zinB_yes (starB_rows P), ptsL_rows]; unfold goodB; rw [pathB_rows (zonP_path P.lo P.hi P.steps), ptsL_rows, hc]; rfl
  have hv : zinN (rowsOf l) = inPt (zonP l) := by unfold zinN; rw [hg, ptsL_rows]; rfl
  rw [hv, hg] at h1
  exact h1
theorem qZonoInside0 (A : Option Addr) (n c : Nat) (L : List (List Int)) (w : World) (h : RdM w A n L) (hs : SmallM L) (hp : zinB L = false) : Calls Try.prog 91 #[.slice A n c] w (GotI 0 false w) := by
  have h1 := specZonoInside_any A n c L w h hs
  rw [zin_no hp, hp] at h1
  exact h1
end Go.Proofs.Ythpgenkdiokpeaa
