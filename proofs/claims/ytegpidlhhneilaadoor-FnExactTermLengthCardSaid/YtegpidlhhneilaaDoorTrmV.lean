/- TermLength, TermIn of the model; TermLength of the program. -/
import Derived.Test.YtegpidlhhneilaaDoorTrmU
namespace Go.Proofs.YtegpidlhhneilaaDoor
open Go.RowKit Go.Sort Go.Lib
/-- A short term, if a text is one. -/
def shT (l : List UInt8) : Option Tm := match tmOf l with
  | some t => if lenT t ≤ 200 then some t else none
  | none => none
def lnV (l : List UInt8) : Value := match shT l with
  | some t => .tuple #[.int .i64 (lenT t : Nat), .bool true]
  | none => .tuple #[.int .i64 0, .bool false]
/-- What l10Short answers, told by shT. -/
theorem l10Short_sh (l : List UInt8) (hl : l.length ≤ 1048576) (w : World) : Calls Tryd.prog 15 #[.string (bsB l)] w fun e w' => (∃ s A n c, e = .returned (.tuple #[.agg #[.int .u8 s, .slice A n c], .bool (shT l).isSome]) ∧ ∀ t, shT l = some t → okTm t = true ∧ lenT t ≤ 200 ∧ TmI w.heap.size w' t s A n) ∧ Below w.heap.size w w' := by
  refine (l10Short_any l hl w).mono ?_
  rintro e w2 ⟨⟨s, A, n, c, ok, rfl, g⟩, b⟩
  refine ⟨⟨s, A, n, c, ?_⟩, b⟩
  unfold shT
  cases hx : tmOf l with
  | none =>
    rw [hx] at g
    obtain rfl : ok = false := g
    exact ⟨rfl, fun t h => by cases h⟩
  | some t =>
    rw [hx] at g
    obtain ⟨g1, g2⟩ := g
    subst g1
    have hok := (tmOf_iff.1 hx).2.1
    dsimp only
    by_cases h2 : lenT t ≤ 200
    · rw [if_pos h2, decide_eq_true h2]
      exact ⟨rfl, fun t' e => by cases e; exact ⟨hok, h2, g2⟩⟩
    · rw [if_neg h2, decide_eq_false h2]
      exact ⟨rfl, fun t' e => by cases e⟩
set_option maxRecDepth 100000 in
set_option maxHeartbeats 4000000 in
theorem specTermLength_any (l : List UInt8) (hl : l.length ≤ 1048576) (w : World) : Calls Tryd.prog 7 #[.string (bsB l)] w fun e w' => e = .returned (lnV l) ∧ Below w.heap.size w w' := by
  have H := Lib.hid (l10Short_sh l hl w)
  cases hx : shT l with
  | none =>
    rw [hx] at H
    have HE := Lib.hid (show lnV l = .tuple #[.int .i64 0, .bool false] by unfold lnV; rw [hx])
    clear hx
    go_enter Tryd.func7, Tryd.ntmps7
    go_wp2_with fail
    refine H.out.mono ?_
    rintro e w2 ⟨⟨s, A, n, c, rfl, -⟩, b⟩
    go_wp2_with fail
    refine bodyPost_ret (results_tmp2 rfl _ _ _) rfl ?_
    exact ⟨by rw [HE.out]; rfl, below_alloc b _⟩
  | some t =>
    rw [hx] at H
    have HE := Lib.hid (show lnV l = .tuple #[.int .i64 (lenT t : Nat), .bool true] by unfold lnV; rw [hx])
    clear hx
    go_enter Tryd.func7, Tryd.ntmps7
    go_wp2_with fail
    refine H.out.mono ?_
    rintro e w2 ⟨⟨s, A, n, c, rfl, g⟩, b⟩
    obtain ⟨hok, h2, hT⟩ := g t rfl
    have hLg := l10Long_any t hok w.heap.size s A n c (w2.alloc (.cells #[.int .u8 s, .slice A n c] 29)) (hT.keep (KeepIn.alloc (KeepIn.refl _ _) _) (Nat.le_refl _))
    rw [show capT 1000 t = lenT t by rw [cap_is (by omega) t hok]; omega] at hLg
    have HL := Lib.hid hLg
    have b1 := below_alloc b (.cells #[.int .u8 s, .slice A n c] 29)
    clear hLg hT g hok h2 b
    go_wp2_with fail
    refine HL.out.mono ?_
    rintro e w4 ⟨rfl, b5⟩
    go_wp2_with fail
    refine bodyPost_ret (results_tmp2 rfl _ _ _) rfl ?_
    exact ⟨by rw [HE.out]; rfl, b1.trans (b5.mono b1.size)⟩
theorem shV_sh (x : Value) (l : List UInt8) : (∃ t, shT l = some t ∧ okTm t = true ∧ lenT t ≤ 200 ∧ shV x l = .tuple #[tmV t, .nilIface]) ∨ (shT l = none ∧ ((tmOf l ≠ none ∧ shV x l = .tuple #[.nilIface, x]) ∨ (tmOf l = none ∧ shV x l = .tuple #[.nilIface, noV l]))) := by
  unfold shT shV
  cases hx : tmOf l with
  | none => exact .inr ⟨rfl, .inr ⟨rfl, rfl⟩⟩
  | some t =>
    dsimp only
    by_cases h2 : lenT t ≤ 200
    · rw [if_pos h2, if_pos h2]; exact .inl ⟨t, rfl, (tmOf_iff.1 hx).2.1, h2, rfl⟩
    · rw [if_neg h2, if_neg h2]; exact .inr ⟨rfl, .inl ⟨by simp, rfl⟩⟩
set_option maxRecDepth 100000 in
set_option maxHeartbeats 4000000 in
theorem implTermLength_any (l : List UInt8) (hl : l.length ≤ 1048576) (T : TypeId) (p : Value) (w : World) (hg : w.cell? ⟨0, 0, none⟩ = some (.iface T p)) : Calls Tryd.prog 8 #[.string (bsB l)] w fun e w' => e = .returned (lnV l) ∧ Below w.heap.size w w' := by
  have H := Lib.hid (shortWalkOf_any l T p w hl hg)
  clear hg
  rcases shV_sh (.iface T p) l with ⟨t, h1, hok, h3, h4⟩ | ⟨h1, h2⟩
  · have HE := Lib.hid (show lnV l = .tuple #[.int .i64 (lenT t : Nat), .bool true] by unfold lnV; rw [h1])
    have HN := fun W => length_any t hok W
    rw [show capT 201 t = lenT t by rw [cap_is (by omega) t hok]; omega] at HN
    have HN := Lib.hid HN
    have hm := meth_len t
    have hc := lenId_call t
    rw [h4] at H
    rw [tmV_is] at H
    generalize tyT t = T1 at *
    generalize rcV t = x1 at *
    generalize lenId t = fid at *
    clear h1 h3 h4 hok
    go_enter Tryd.func8, Tryd.ntmps8
    go_wp2_with fail
    refine H.out.mono ?_
    rintro e w2 ⟨rfl, b2⟩
    go_wp2_with fail
    refine (HN.out _).mono ?_
    rintro e w3 ⟨rfl, b3⟩
    go_wp2_with fail
    refine bodyPost_ret (results_tmp2 rfl _ _ _) rfl ?_
    exact ⟨by rw [HE.out]; rfl, b2.trans (b3.mono b2.size)⟩
  · have HE := Lib.hid (show lnV l = .tuple #[.int .i64 0, .bool false] by unfold lnV; rw [h1])
    rcases h2 with ⟨-, h2⟩ | ⟨-, h2⟩
    all_goals
      rw [h2] at H
      try unfold noV at H
      clear h1 h2
      go_enter Tryd.func8, Tryd.ntmps8
      go_wp2_with fail
      refine H.out.mono ?_
      rintro e w2 ⟨rfl, b2⟩
      go_wp2_with fail
      refine bodyPost_ret (results_tmp2 rfl _ _ _) rfl ?_
      exact ⟨by rw [HE.out]; rfl, b2⟩
end Go.Proofs.YtegpidlhhneilaaDoor
