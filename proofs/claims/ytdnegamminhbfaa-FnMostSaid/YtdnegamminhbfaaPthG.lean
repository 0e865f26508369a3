/- The contracts of chapter 6 for paths told by their steps. -/
import Derived.Test.YtdnegamminhbfaaOrdP
import Derived.Test.YtdnegamminhbfaaOrdI2
import Derived.Test.YtdnegamminhbfaaE6a
import Derived.Test.YtdnegamminhbfaaPathI3
import Derived.Test.YtdnegamminhbfaaPathI4
import Derived.Test.YtdnegamminhbfaaPathI6
import Derived.Test.YtdnegamminhbfaaPathS6
import Derived.Test.YtdnegamminhbfaaPathS7
import Derived.Test.YtdnegamminhbfaaPathS9
namespace Go.Proofs.Ytdnegamminhbfaa
open Go.RowKit Go.Sort Go.Lib

theorem step_back {r : List Int} (h : stepRow r = true) : ptRow (rowPt r) = r := by
  have h2 := (stepRow_pt h).2
  match r, h2 with
  | [a, b], _ => rfl
theorem steps_form {L : List (List Int)} (h : stepsB L = true) : L = rowsOf (ptsL L) := by
  unfold rowsOf ptsL
  rw [List.map_map]
  conv => lhs; rw [← List.map_id L]
  exact List.map_congr_left fun r hr => (step_back (List.all_eq_true.1 h r hr)).symm
theorem path_form {L : List (List Int)} (h : pathB L = true) : ∃ l, L = rowsOf l ∧ IsPath l := ⟨ptsL L, steps_form (stepsB_all (pathB_true h).2), (pathB_true h).1⟩
theorem wf_small {v : Int} (h1 : -1000000 ≤ v) (h2 : v ≤ 1000000) : (Lit.int .i64 v).wf = true := by
  simp [Lit.wf, IntKind.min, IntKind.max, IntKind.signed, IntKind.bits]; omega
abbrev GotB (v : Bool) (w : World) (e : Ending) (w' : World) : Prop := e = .returned (.bool v) ∧ Below w.heap.size w w'
abbrev GotI (v : Int) (b : Bool) (w : World) (e : Ending) (w' : World) : Prop := e = .returned (.tuple #[.int .i64 v, .bool b]) ∧ Below w.heap.size w w'
def GotR (n : Nat) (l : List Pt) (w : World) (e : Ending) (w' : World) : Prop := ∃ A' c', e = .returned (.tuple #[.slice A' n c', .bool true]) ∧ RdM w' A' n (rowsOf l) ∧ Below w.heap.size w w'
def GotN (w : World) (e : Ending) (w' : World) : Prop := ∃ A' c', e = .returned (.tuple #[.slice A' 0 c', .bool false]) ∧ RdM w' A' 0 [] ∧ Below w.heap.size w w'
theorem got_n {n n' : Nat} {l m : List Pt} {w w' : World} {A A' : Option Addr} (h : RdM w A n (rowsOf l)) (h' : RdM w' A' n' (rowsOf m)) (hl : m.length = l.length) : n' = n := by
  have h1 := h.1
  have h2 := h'.1
  rw [rowsOf_len] at h1 h2
  omega
theorem fit_r {n n' c' : Nat} {l m : List Pt} {w w0 w' : World} {A A' : Option Addr} {e : Ending} (h : RdM w A n (rowsOf l)) (hl : m.length = l.length) (he : e = .returned (.tuple #[.slice A' n' c', .bool true])) (r : RdM w' A' n' (rowsOf m)) (b : Below w0.heap.size w0 w') : GotR n m w0 e w' := by
  obtain rfl := got_n h r hl
  exact ⟨A', c', he, r, b⟩
theorem fit_n {n' c' : Nat} {w0 w' : World} {A' : Option Addr} {e : Ending} (he : e = .returned (.tuple #[.slice A' n' c', .bool false])) (r : RdM w' A' n' []) (b : Below w0.heap.size w0 w') : GotN w0 e w' := by
  obtain rfl : n' = 0 := r.1.symm
  exact ⟨A', c', he, r, b⟩

theorem pIn (A : Option Addr) (n c : Nat) (l : List Pt) (w : World) (h : RdM w A n (rowsOf l)) (P : IsPath l) : Calls Try.prog 117 #[.slice A n c] w (GotB true w) := by
  have h1 := pathIn_any A n c (rowsOf l) w h (small_rows P.hi)
  rw [pathB_rows P] at h1
  exact h1
theorem pIn0 (A : Option Addr) (n c : Nat) (L : List (List Int)) (w : World) (h : RdM w A n L) (hs : SmallM L) (hp : pathB L = false) : Calls Try.prog 117 #[.slice A n c] w (GotB false w) := by
  have h1 := pathIn_any A n c L w h hs
  rw [hp] at h1
  exact h1
theorem pArea (A : Option Addr) (n c : Nat) (l : List Pt) (w : World) (h : RdM w A n (rowsOf l)) (P : IsPath l) : Calls Try.prog 30 #[.slice A n c] w (GotI (areaP l) true w) := by
  have h1 := pathArea_any A n c (rowsOf l) w h (small_rows P.hi)
  rw [ifP_yes _ (pathB_rows P), pathB_rows P, ptsL_rows] at h1
  exact h1
theorem pArea0 (A : Option Addr) (n c : Nat) (L : List (List Int)) (w : World) (h : RdM w A n L) (hs : SmallM L) (hp : pathB L = false) : Calls Try.prog 30 #[.slice A n c] w (GotI 0 false w) := by
  have h1 := pathArea_any A n c L w h hs
  rw [ifP_no _ hp, hp] at h1
  exact h1
theorem pBack (A : Option Addr) (n c : Nat) (l : List Pt) (w : World) (h : RdM w A n (rowsOf l)) (P : IsPath l) : Calls Try.prog 34 #[.slice A n c] w (GotR n (bakP l) w) := by
  have h1 := pathBack_any A n c (rowsOf l) w h (small_rows P.hi)
  unfold RowsGot at h1
  rw [ifR_yes _ (pathB_rows P), pathB_rows P, ptsL_rows] at h1
  exact h1.mono fun e w' ⟨⟨A', n', c', he, ⟨gs, o⟩, _⟩, b⟩ => fit_r h (by simp [bakP]) he o.rd b
theorem pBack0 (A : Option Addr) (n c : Nat) (L : List (List Int)) (w : World) (h : RdM w A n L) (hs : SmallM L) (hp : pathB L = false) : Calls Try.prog 34 #[.slice A n c] w (GotN w) := by
  have h1 := pathBack_any A n c L w h hs
  unfold RowsGot at h1
  rw [ifR_no _ hp, hp] at h1
  exact h1.mono fun e w' ⟨⟨A', n', c', he, ⟨gs, o⟩, _⟩, b⟩ => fit_n he o.rd b
theorem qIn (A : Option Addr) (n c : Nat) (l : List Pt) (w : World) (h : RdM w A n (rowsOf l)) (P : IsPath l) : Calls Try.prog 80 #[.slice A n c] w (GotB true w) := by
  have h1 := specPathIn_any A n c (rowsOf l) w h (small_rows P.hi)
  rw [pathB_rows P] at h1
  exact h1
theorem qIn0 (A : Option Addr) (n c : Nat) (L : List (List Int)) (w : World) (h : RdM w A n L) (hs : SmallM L) (hp : pathB L = false) : Calls Try.prog 80 #[.slice A n c] w (GotB false w) := by
  have h1 := specPathIn_any A n c L w h hs
  rw [hp] at h1
  exact h1
end Go.Proofs.Ytdnegamminhbfaa
