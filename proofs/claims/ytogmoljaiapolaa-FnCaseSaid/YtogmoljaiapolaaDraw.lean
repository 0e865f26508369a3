/- The model's draws of bundles: some list of small numbers in new memory. -/
import Derived.Test.YtogmoljaiapolaaRead
import Derived.Test.YtogmoljaiapolaaSpecSort
namespace Go.Proofs.Ytogmoljaiapolaa
open Go.RowKit

theorem Rdr.lt {w0 w : World} {g p : Nat} (h : Rdr w0 w g p) : g < w.heap.size := by
  obtain ⟨_, _, _, _, h1, _⟩ := h; exact (Array.getElem?_eq_some_iff.1 h1).1
theorem Rdr.base {w0 w : World} {g p : Nat} (h : Rdr w0 w g p) : w0.heap.size ≤ g := by
  obtain ⟨_, _, _, _, _, _, _, _, h5, _⟩ := h; exact h5
theorem Rdr.bel_ {w0 w : World} {g p : Nat} (h : Rdr w0 w g p) : Below w0.heap.size w0 w := by
  obtain ⟨_, _, _, _, _, _, _, _, _, hb⟩ := h; exact hb
theorem Rdr.kept {w0 w w' : World} {g p : Nat} {row : Option Nat} (h : Rdr w0 w g p) (hg : w.grownBy w' row) (hr : ∀ k, row = some k → g < k) : Rdr w0 w' g p := by
  have hlt := h.lt
  obtain ⟨A, n, c, bs, h1, h2, h3, h4, h5, h6⟩ := h
  exact ⟨A, n, c, bs, (hg.block g hlt (fun e => by have := hr g e.symm; omega)).trans h1, h2, h3, h4, h5, h6.grown hg h6.size (fun k e => by have := hr k e; omega)⟩
theorem grown_new {a b c : World} {g : Nat} {row : Option Nat} (h : a.grownBy b (some g)) (k : b.grownBy c row) (hr : ∀ j, row = some j → a.heap.size ≤ j) : a.grownBy c (some g) :=
  ⟨k.os.trans h.os, k.tape.trans h.tape, k.output.trans h.output, Nat.le_trans h.size k.size, fun i hi hne => (k.block i (Nat.lt_of_lt_of_le hi h.size) (fun e => by have := hr i e.symm; omega)).trans (h.block i hi hne)⟩

/-- Each number is from 0 to 60. -/
def Lens (xs : List Int) : Prop := ∀ x ∈ xs, 0 ≤ x ∧ x ≤ 60
/-- What a draw of a list leaves. -/
def DrawnQ (w0 w : World) (g top q : Nat) (e : Ending) (w' : World) : Prop :=
  ∃ (A : Option Addr) (n c p' : Nat) (xs : List Int), e = .returned (.slice A n c) ∧ Own w' w.heap.size A n c xs ∧ n ≤ top ∧ Lens xs ∧ Rdr w0 w' g p' ∧ p' ≤ q ∧ w.grownBy w' (some g)
/-- The same, with one bound for all. -/
def DrawnL (w0 w : World) (g top : Nat) (e : Ending) (w' : World) : Prop :=
  ∃ (A : Option Addr) (n c p' : Nat) (xs : List Int), e = .returned (.slice A n c) ∧ Own w' w.heap.size A n c xs ∧ n ≤ top ∧ Lens xs ∧ Rdr w0 w' g p' ∧ p' ≤ 1000 ∧ w.grownBy w' (some g)

/-- What a law's draw of a list leaves. -/
def Drawn1 (w : World) (top : Nat) (e : Ending) (w' : World) : Prop :=
  ∃ (A : Option Addr) (n c : Nat) (xs : List Int), e = .returned (.slice A n c) ∧ Own w' w.heap.size A n c xs ∧ n ≤ top ∧ Lens xs ∧ Below w.heap.size w w'

end Go.Proofs.Ytogmoljaiapolaa
