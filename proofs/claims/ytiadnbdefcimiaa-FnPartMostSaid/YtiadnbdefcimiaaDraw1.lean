/- Joined: Law1d, Draw1. -/
import Derived.Test.YtiadnbdefcimiaaLaw1c
/- The draws of FnPut and FnDrop: a bundle, and a small number. -/
namespace Go.Proofs.Ytiadnbdefcimiaa
open Go.RowKit

/-- What a draw of a list and a number leaves. -/
def Drawn2 (w : World) (top : Nat) (e : Ending) (w' : World) : Prop :=
  ∃ (A : Option Addr) (n c : Nat) (xs : List Int) (v : Int), e = .returned (.tuple #[.slice A n c, .int .i64 v]) ∧ Own w' w.heap.size A n c xs ∧ n ≤ top ∧ Lens xs ∧ -1000 ≤ v ∧ v ≤ 1000 ∧ Below w.heap.size w w'

end Go.Proofs.Ytiadnbdefcimiaa

/- The model's draws of chapter 1: lists and numbers. -/
namespace Go.Proofs.Ytiadnbdefcimiaa
open Go.RowKit

/-- What a draw of a number leaves. -/
def DrawnI (w : World) (e : Ending) (w' : World) : Prop := ∃ v : Int, e = .returned (.int .i64 v) ∧ -1000 ≤ v ∧ v ≤ 1000 ∧ Below w.heap.size w w'

/-- Each number is from 0 to 61. -/
def Lens61 (xs : List Int) : Prop := ∀ x ∈ xs, 0 ≤ x ∧ x ≤ 61
theorem lens61_set {xs : List Int} (h : Lens61 xs) (k : Nat) {v : Int} (h1 : 0 ≤ v) (h2 : v ≤ 61) : Lens61 (xs.set k v) := fun x hx => by
  rcases List.mem_or_eq_of_mem_set hx with h3 | h3
  · exact h x h3
  · subst h3; exact ⟨h1, h2⟩
/-- What a draw of a ruler leaves. -/
def DrawnR (w0 w : World) (g top : Nat) (e : Ending) (w' : World) : Prop :=
  ∃ (A : Option Addr) (n c p' : Nat) (xs : List Int), e = .returned (.slice A n c) ∧ Own w' w.heap.size A n c xs ∧ 1 ≤ n ∧ n ≤ top ∧ Lens61 xs ∧ Rdr w0 w' g p' ∧ p' ≤ 1000 ∧ w.grownBy w' (some g)
/-- What a law's draw of a ruler leaves. -/
def DrawnR1 (w : World) (top : Nat) (e : Ending) (w' : World) : Prop :=
  ∃ (A : Option Addr) (n c : Nat) (xs : List Int), e = .returned (.slice A n c) ∧ Own w' w.heap.size A n c xs ∧ 1 ≤ n ∧ n ≤ top ∧ Lens61 xs ∧ Below w.heap.size w w'
end Go.Proofs.Ytiadnbdefcimiaa
