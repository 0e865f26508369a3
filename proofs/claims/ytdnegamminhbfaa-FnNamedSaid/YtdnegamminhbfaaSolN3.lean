/- Contracts of the program's functions of chapter 8: SolidNamed. -/
import Derived.Test.YtdnegamminhbfaaSolN2
namespace Go.Proofs.Ytdnegamminhbfaa
open Go.RowKit Go.Sort

theorem ret_lbs {A : Option Addr} {n c : Nat} {a b : Bool} (h : a = b) : Ending.returned (.tuple #[.slice A n c, .bool a]) = .returned (.tuple #[.slice A n c, .bool b]) := by rw [h]
theorem own_nil {W : World} {k B : Nat} (hk : W.heap.size = k) (hB : B ≤ W.heap.size) : Own (W.alloc (.cells #[] 3)) B (some ⟨k, 0, none⟩) 0 0 [] := by
  subst hk
  exact Own.lit W hB [] (by simp)
set_option maxHeartbeats 1000000 in
theorem implSolidNamed_any (A : Option Addr) (n c : Nat) (xs : List Int) (A1 : Option Addr) (n1 c1 : Nat) (cs : List Int) (w : World) (h : Rd w A n xs) (hn : n ≤ 1048576) (h1 : Rd w A1 n1 cs) (hn1 : n1 ≤ 1048576) :
    Calls Try.prog 38 #[.slice A n c, .slice A1 n1 c1] w fun e w' => ∃ (A' : Option Addr) (n' c' : Nat), e = .returned (.tuple #[.slice A' n' c', .bool (namB xs cs)]) ∧ Own w' w.heap.size A' n' c' (namM xs cs) ∧ n' ≤ 1048576 ∧ Below w.heap.size w w' := by
  have hK := fun W (hW : Below w.heap.size w W) => namingOf_any A1 n1 c1 cs W (h1.same hW) hn1
  cases hb : solB xs with
  | true =>
    have hs := sol_of hb
    obtain ⟨x0, x1, x2, x3, x4, x5, ex⟩ := six_of hs.len
    have hS := solidOf_yes (c := c) (ex ▸ h) hn (ex ▸ hb)
    cases hc : cornB cs with
    | true =>
      have HB := Lib.hid (namB_yes hb hc)
      have HM := Lib.hid ((namM_yes HB.out).trans (show nmd (plcC cs) xs = nmd (plcC cs) [x0, x1, x2, x3, x4, x5] by rw [ex]))
      have HC := Lib.hid hc
      have HP := Lib.hid (nmd_len (plcC_mem hc) [x0, x1, x2, x3, x4, x5])
      clear hs hb h ex h1 hc
      go_enter Try.func38, Try.ntmps38
      go_wp2_with fail
      refine hS.mono ?_
      rintro e w1 ⟨rfl, b1⟩
      have s2 := six_new w1 x0 x1 x2 x3 x4 x5
      have b2 := below_alloc b1 (.cells #[.int .i64 x0, .int .i64 x1, .int .i64 x2, .int .i64 x3, .int .i64 x4, .int .i64 x5] 81)
      have hQ := hK _ b2
      clear hS hK
      go_wp2_with fail
      refine hQ.mono ?_
      rintro e w3 ⟨⟨x, y, z, u, ec, hcc, rfl⟩ | ⟨hcc, _⟩, b3⟩
      rotate_left
      · rw [HC.out] at hcc; cases hcc
      have s3 := (s2.same b3).same (below_alloc (Below.refl _ _) (.cells #[.int .i64 x, .int .i64 y, .int .i64 z, .int .i64 u] 85))
      obtain ⟨c0, c1', c2, c3, c4, c5, _⟩ := s3.cells
      obtain ⟨q0, q1, q2, q3, _⟩ := (fou_new w3 x y z u).cells
      have b4 := below_alloc (below_then b2 b3) (.cells #[.int .i64 x, .int .i64 y, .int .i64 z, .int .i64 u] 85)
      subst ec
      have hN := fun W => named_any x0 x1 x2 x3 x4 x5 x y z u W hcc
      have HM2 := Lib.hid HM.out
      obtain ⟨y0, y1, y2, y3, y4, y5, ey⟩ := six_of HP.out
      rw [ey] at hN
      have EY := Lib.hid ey
      have hN' : ∀ W, Calls Try.prog 96 #[sixV x0 x1 x2 x3 x4 x5, fouV x y z u] W fun e w' => e = .returned (sixV y0 y1 y2 y3 y4 y5) ∧ Below W.heap.size W w' := hN
      clear s2 s3 b2 b3 hN hcc ey
      go_wp2_with fail
      refine (hN' _).mono ?_
      rintro e w5 ⟨rfl, b5⟩
      have b6 := below_then b4 b5
      go_wp2_with fail
      refine (list_any y0 y1 y2 y3 y4 y5 _).mono ?_
      rintro e w7 ⟨A7, c7, rfl, o7, b7⟩
      go_wp2_with fail
      refine bodyPost_ret (results_tmp2 rfl _ _ _) rfl ?_
      exact ⟨A7, 6, c7, ret_lbs HB.out.symm, by rw [HM.out, EY.out]; exact o7.lower b6.size, by omega, below_then b6 b7⟩
    | false =>
      have HB := Lib.hid (namB_no2 (xs := xs) hc)
      have HM := Lib.hid (namM_no HB.out)
      have HC := Lib.hid hc
      clear hs hb h ex h1 hc
      go_enter Try.func38, Try.ntmps38
      go_wp2_with fail
      refine hS.mono ?_
      rintro e w1 ⟨rfl, b1⟩
      have b2 := below_alloc b1 (.cells #[.int .i64 x0, .int .i64 x1, .int .i64 x2, .int .i64 x3, .int .i64 x4, .int .i64 x5] 81)
      have hQ := hK _ b2
      clear hS hK
      go_wp2_with fail
      refine hQ.mono ?_
      rintro e w3 ⟨⟨x, y, z, u, ec, hcc, rfl⟩ | ⟨hcc, rfl⟩, b3⟩
      · rw [HC.out] at hcc; cases hcc
      have b4 := below_alloc (below_then b2 b3) (.cells #[.int .i64 0, .int .i64 0, .int .i64 0, .int .i64 0] 85)
      have hl := own_nil (World.size_alloc w3 (.cells #[.int .i64 0, .int .i64 0, .int .i64 0, .int .i64 0] 85)) b4.size
      clear hcc
      go_wp2_with fail
      refine bodyPost_ret (results_tmp2 rfl _ _ _) rfl ?_
      exact ⟨_, 0, 0, ret_lbs HB.out.symm, by rw [HM.out]; exact hl, by omega, below_alloc b4 _⟩
  | false =>
    have hS := solidOf_no (c := c) h hn hb
    have HB := Lib.hid (namB_no1 (cs := cs) hb)
    have HM := Lib.hid (namM_no HB.out)
    clear hb h h1
    go_enter Try.func38, Try.ntmps38
    go_wp2_with fail
    refine hS.mono ?_
    rintro e w1 ⟨rfl, b1⟩
    have b2 := below_alloc b1 (.cells #[.int .i64 0, .int .i64 0, .int .i64 0, .int .i64 0, .int .i64 0, .int .i64 0] 81)
    have hQ := hK _ b2
    clear hS hK
    go_wp2_with fail
    refine hQ.mono ?_
    rintro e w3 ⟨h3, b3⟩
    have h4 : ∃ x y z u t, e = .returned (.tuple #[fouV x y z u, .bool t]) := by
      rcases h3 with ⟨x, y, z, u, _, _, rfl⟩ | ⟨_, rfl⟩
      · exact ⟨_, _, _, _, _, rfl⟩
      · exact ⟨_, _, _, _, _, rfl⟩
    obtain ⟨x, y, z, u, t, rfl⟩ := h4
    have b4 := below_alloc (below_then b2 b3) (.cells #[.int .i64 x, .int .i64 y, .int .i64 z, .int .i64 u] 85)
    have hl := own_nil (World.size_alloc w3 (.cells #[.int .i64 x, .int .i64 y, .int .i64 z, .int .i64 u] 85)) b4.size
    clear h3
    go_wp2_with fail
    refine bodyPost_ret (results_tmp2 rfl _ _ _) rfl ?_
    exact ⟨_, 0, 0, ret_lbs HB.out.symm, by rw [HM.out]; exact hl, by omega, below_alloc b4 _⟩
end Go.Proofs.Ytdnegamminhbfaa
