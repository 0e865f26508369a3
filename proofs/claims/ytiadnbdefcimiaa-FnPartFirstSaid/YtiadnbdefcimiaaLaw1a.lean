/- The law FnThree's walk. -/
import Derived.Test.YtiadnbdefcimiaaRead
import Derived.Test.YtiadnbdefcimiaaKit
namespace Go.Proofs.Ytiadnbdefcimiaa
open Go.RowKit

def Three3 (w : World) (e : Ending) (w' : World) : Prop :=
  ∃ a b c : Int, e = .returned (.tuple #[.int .i64 a, .int .i64 b, .int .i64 c]) ∧ Below w.heap.size w w'
theorem Rdr.bel {w0 w : World} {g p : Nat} (h : Rdr w0 w g p) : Below w0.heap.size w0 w := by
  obtain ⟨_, _, _, _, _, _, _, _, _, hb⟩ := h; exact hb

theorem sides_swap (a b c : Int) : sidesB b a c = sidesB a b c := by
  unfold sidesB triB
  rw [Bool.eq_iff_iff]
  simp only [Bool.and_eq_true, decide_eq_true_eq]
  constructor
  · rintro ⟨⟨⟨h1, h2⟩, h3⟩, ⟨h4, h5⟩, h6⟩; exact ⟨⟨⟨h2, h1⟩, h3⟩, ⟨by omega, by omega⟩, by omega⟩
  · rintro ⟨⟨⟨h1, h2⟩, h3⟩, ⟨h4, h5⟩, h6⟩; exact ⟨⟨⟨h2, h1⟩, h3⟩, ⟨by omega, by omega⟩, by omega⟩
theorem sides_rev (a b c : Int) : sidesB c b a = sidesB a b c := by
  unfold sidesB triB
  rw [Bool.eq_iff_iff]
  simp only [Bool.and_eq_true, decide_eq_true_eq]
  constructor
  · rintro ⟨⟨⟨h1, h2⟩, h3⟩, ⟨h4, h5⟩, h6⟩; exact ⟨⟨⟨h3, h2⟩, h1⟩, ⟨by omega, by omega⟩, by omega⟩
  · rintro ⟨⟨⟨h1, h2⟩, h3⟩, ⟨h4, h5⟩, h6⟩; exact ⟨⟨⟨h3, h2⟩, h1⟩, ⟨by omega, by omega⟩, by omega⟩
theorem sides_same {m : Int} (h1 : 1 ≤ m) (h2 : m ≤ 60) : sidesB m m m = true := by
  unfold sidesB triB
  rw [inB_mk h1 h2]
  simp; omega
theorem sides_bd {a b c : Int} (h : sidesB a b c = true) : (1 ≤ a ∧ a ≤ 60) ∧ (1 ≤ b ∧ b ≤ 60) ∧ (1 ≤ c ∧ c ≤ 60) := by
  unfold sidesB at h
  simp only [Bool.and_eq_true] at h
  exact ⟨inB_true h.1.1.1, inB_true h.1.1.2, inB_true h.1.2⟩

end Go.Proofs.Ytiadnbdefcimiaa
