/- Contracts of the program's functions of chapter 8: SolidIn, SolidNumber, SolidFaces, SolidStands. -/
import Derived.Test.YtdnegamminhbfaaSolJ3
namespace Go.Proofs.Ytdnegamminhbfaa
open Go.RowKit Go.Sort

theorem implSolidIn_any (A : Option Addr) (n c : Nat) (xs : List Int) (w : World) (h : Rd w A n xs) (hn : n ≤ 1048576) :
    Calls Try.prog 36 #[.slice A n c] w fun e w' => e = .returned (.bool (solB xs)) ∧ Below w.heap.size w w' := by
  cases hb : solB xs with
  | true =>
    have hs := sol_of hb
    obtain ⟨x0, x1, x2, x3, x4, x5, ex⟩ := six_of hs.len
    have hS := solidOf_yes (c := c) (ex ▸ h) hn (ex ▸ hb)
    clear hs hb h ex
    go_enter Try.func36, Try.ntmps36
    go_wp2_with fail
    refine hS.mono ?_
    rintro e w1 ⟨rfl, b1⟩
    go_wp2_with fail
    go_ret
    exact ⟨rfl, below_alloc b1 _⟩
  | false =>
    have hS := solidOf_no (c := c) h hn hb
    clear hb h
    go_enter Try.func36, Try.ntmps36
    go_wp2_with fail
    refine hS.mono ?_
    rintro e w1 ⟨rfl, b1⟩
    go_wp2_with fail
    go_ret
    exact ⟨rfl, below_alloc b1 _⟩

theorem implSolidNumber_any (A : Option Addr) (n c : Nat) (xs : List Int) (w : World) (h : Rd w A n xs) (hn : n ≤ 1048576) :
    Calls Try.prog 40 #[.slice A n c] w fun e w' => e = .returned (.tuple #[.int .i64 (numM xs), .bool (solB xs)]) ∧ Below w.heap.size w w' := by
  cases hb : solB xs with
  | true =>
    have hs := sol_of hb
    obtain ⟨x0, x1, x2, x3, x4, x5, ex⟩ := six_of hs.len
    have HM := Lib.hid (numM_yes hb)
    have hN : ∀ W, Calls Try.prog 98 #[sixV x0 x1 x2 x3 x4 x5] W fun e w' => e = .returned (.int .i64 (numL xs)) ∧ Below W.heap.size W w' := fun W => by
      have := number_any xs W hs
      rw [ex] at this ⊢
      exact this
    have hS := solidOf_yes (c := c) (ex ▸ h) hn (ex ▸ hb)
    rw [HM.out]
    generalize numL xs = z at *
    clear hs hb h ex
    go_enter Try.func40, Try.ntmps40
    go_wp2_with fail
    refine hS.mono ?_
    rintro e w1 ⟨rfl, b1⟩
    obtain ⟨c0, c1, c2, c3, c4, c5, _⟩ := (six_new w1 x0 x1 x2 x3 x4 x5).cells
    have b2 := below_alloc b1 (.cells #[.int .i64 x0, .int .i64 x1, .int .i64 x2, .int .i64 x3, .int .i64 x4, .int .i64 x5] 81)
    go_wp2_with fail
    refine (hN _).mono ?_
    rintro e w2 ⟨rfl, b3⟩
    go_wp2_with fail
    go_ret2
    exact ⟨rfl, below_then b2 b3⟩
  | false =>
    have hS := solidOf_no (c := c) h hn hb
    have HM := Lib.hid (numM_no hb)
    rw [HM.out]
    clear hb h
    go_enter Try.func40, Try.ntmps40
    go_wp2_with fail
    refine hS.mono ?_
    rintro e w1 ⟨rfl, b1⟩
    have b2 := below_alloc b1 (.cells #[.int .i64 0, .int .i64 0, .int .i64 0, .int .i64 0, .int .i64 0, .int .i64 0] 81)
    go_wp2_with fail
    go_ret2
    exact ⟨rfl, b2⟩

theorem implSolidFaces_any (A : Option Addr) (n c : Nat) (xs : List Int) (w : World) (h : Rd w A n xs) (hn : n ≤ 1048576) :
    Calls Try.prog 46 #[.slice A n c] w fun e w' => e = .returned (.tuple #[.int .i64 (facM xs), .bool (solB xs)]) ∧ Below w.heap.size w w' := by
  cases hb : solB xs with
  | true =>
    have hs := sol_of hb
    obtain ⟨x0, x1, x2, x3, x4, x5, ex⟩ := six_of hs.len
    have HM := Lib.hid (facM_yes hb)
    have hN : ∀ W, Calls Try.prog 105 #[sixV x0 x1 x2 x3 x4 x5] W fun e w' => e = .returned (.int .i64 (facL xs)) ∧ Below W.heap.size W w' := fun W => by
      have := faces_any xs W hs
      rw [ex] at this ⊢
      exact this
    have hS := solidOf_yes (c := c) (ex ▸ h) hn (ex ▸ hb)
    rw [HM.out]
    generalize facL xs = z at *
    clear hs hb h ex
    go_enter Try.func46, Try.ntmps46
    go_wp2_with fail
    refine hS.mono ?_
    rintro e w1 ⟨rfl, b1⟩
    obtain ⟨c0, c1, c2, c3, c4, c5, _⟩ := (six_new w1 x0 x1 x2 x3 x4 x5).cells
    have b2 := below_alloc b1 (.cells #[.int .i64 x0, .int .i64 x1, .int .i64 x2, .int .i64 x3, .int .i64 x4, .int .i64 x5] 81)
    go_wp2_with fail
    refine (hN _).mono ?_
    rintro e w2 ⟨rfl, b3⟩
    go_wp2_with fail
    go_ret2
    exact ⟨rfl, below_then b2 b3⟩
  | false =>
    have hS := solidOf_no (c := c) h hn hb
    have HM := Lib.hid (facM_no hb)
    rw [HM.out]
    clear hb h
    go_enter Try.func46, Try.ntmps46
    go_wp2_with fail
    refine hS.mono ?_
    rintro e w1 ⟨rfl, b1⟩
    have b2 := below_alloc b1 (.cells #[.int .i64 0, .int .i64 0, .int .i64 0, .int .i64 0, .int .i64 0, .int .i64 0] 81)
    go_wp2_with fail
    go_ret2
    exact ⟨rfl, b2⟩

theorem implSolidStands_any (A : Option Addr) (n c : Nat) (xs : List Int) (w : World) (h : Rd w A n xs) (hn : n ≤ 1048576) :
    Calls Try.prog 51 #[.slice A n c] w fun e w' => e = .returned (.bool (stdM xs)) ∧ Below w.heap.size w w' := by
  cases hb : solB xs with
  | true =>
    have hs := sol_of hb
    obtain ⟨x0, x1, x2, x3, x4, x5, ex⟩ := six_of hs.len
    have HM := Lib.hid (stdM_yes hb)
    have hN : ∀ W, Calls Try.prog 110 #[sixV x0 x1 x2 x3 x4 x5] W fun e w' => e = .returned (.bool (stdB xs)) ∧ Below W.heap.size W w' := fun W => by
      have := stands_any xs W hs
      rw [ex] at this ⊢
      exact this
    have hS := solidOf_yes (c := c) (ex ▸ h) hn (ex ▸ hb)
    rw [HM.out]
    generalize stdB xs = z at *
    clear hs hb h ex
    go_enter Try.func51, Try.ntmps51
    go_wp2_with fail
    refine hS.mono ?_
    rintro e w1 ⟨rfl, b1⟩
    obtain ⟨c0, c1, c2, c3, c4, c5, _⟩ := (six_new w1 x0 x1 x2 x3 x4 x5).cells
    have b2 := below_alloc b1 (.cells #[.int .i64 x0, .int .i64 x1, .int .i64 x2, .int .i64 x3, .int .i64 x4, .int .i64 x5] 81)
    go_wp2_with fail
    refine (hN _).mono ?_
    rintro e w2 ⟨rfl, b3⟩
    go_wp2_with fail
    go_ret
    exact ⟨rfl, below_then b2 b3⟩
  | false =>
    have hS := solidOf_no (c := c) h hn hb
    have HM := Lib.hid (stdM_no hb)
    rw [HM.out]
    clear hb h
    go_enter Try.func51, Try.ntmps51
    go_wp2_with fail
    refine hS.mono ?_
    rintro e w1 ⟨rfl, b1⟩
    have b2 := below_alloc b1 (.cells #[.int .i64 0, .int .i64 0, .int .i64 0, .int .i64 0, .int .i64 0, .int .i64 0] 81)
    go_wp2_with fail
    go_ret
    exact ⟨rfl, b2⟩
end Go.Proofs.Ytdnegamminhbfaa
