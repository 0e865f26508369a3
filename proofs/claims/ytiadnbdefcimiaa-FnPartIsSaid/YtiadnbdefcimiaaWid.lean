/- Contracts for StickWidest. -/
import Derived.Test.YtiadnbdefcimiaaS1a
namespace Go.Proofs.Ytiadnbdefcimiaa
open Go.RowKit
theorem ret_ib {a : Int} {c : Bool} {p : Int × Bool} (h : p = (a, c)) : Ending.returned (.tuple #[.int .i64 a, .bool c]) = .returned (.tuple #[.int .i64 p.1, .bool p.2]) := by subst h; rfl
theorem threeSum_any (a b c : Int) (w : World) (ha : 1 ≤ a) (ha' : a ≤ 60) (hb : 1 ≤ b) (hb' : b ≤ 60) (hc : 1 ≤ c) (hc' : c ≤ 60) :
    Calls Try.prog 77 #[.agg #[.int .i64 a, .int .i64 b, .int .i64 c]] w fun e w' => e = .returned (.int .i64 (a + b + c)) ∧ ∃ o, w' = w.alloc (.cells o 51) := by
  go_enter Try.func77, Try.ntmps77
  go_wp2
  all_goals (try go_quiet (fail))
  all_goals (try go_wp2)
  go_ret
  exact ⟨rfl, _, rfl⟩
theorem l1Three_is {a b c : Int} {v : Bool} (h : triB a b c = v) (ha : 1 ≤ a) (ha' : a ≤ 60) (hb : 1 ≤ b) (hb' : b ≤ 60) (hc : 1 ≤ c) (hc' : c ≤ 60) (w : World) :
    Calls Try.prog 73 #[.int .i64 a, .int .i64 b, .int .i64 c] w fun e w' => e = .returned (.bool v) ∧ w = w' := h ▸ l1Three_any a b c w ha ha' hb hb' hc hc'
theorem closes_is {a b c : Int} {v : Bool} (h : triB a b c = v) (w : World) (ha : 1 ≤ a) (ha' : a ≤ 60) (hb : 1 ≤ b) (hb' : b ≤ 60) (hc : 1 ≤ c) (hc' : c ≤ 60) :
    Calls Try.prog 76 #[.agg #[.int .i64 a, .int .i64 b, .int .i64 c]] w fun e w' => e = .returned (.bool v) ∧ ∃ o, w' = w.alloc (.cells o 51) := h ▸ closes_any a b c w ha ha' hb hb' hc hc'

set_option maxHeartbeats 1000000 in
theorem implStickWidest_any (A : Option Addr) (n c : Nat) (xs : List Int) (w : World) (h : Rd w A n xs) (hn : n ≤ 1048576) :
    Calls Try.prog 38 #[.slice A n c] w fun e w' => e = .returned (.tuple #[.int .i64 (widM xs).1, .bool (widM xs).2]) ∧ Below w.heap.size w w' := by
  by_cases hb : bundleB xs = true
  · have HW := Lib.hid (widM_yes hb)
    have HB := Lib.hid hb
    have HL := Lib.hid h.1
    have hbd := (bundleB_true hb).2.2.1
    clear hb
    go_enter Try.func38, Try.ntmps38
    go_wp2_with fail
    refine (implStickIn_any _ _ _ xs _ h hn).mono ?_
    rintro e w1 ⟨rfl, b1⟩
    rw [HB.out]
    go_wp2_with fail
    go_loopw [4] (fun i wr => ∃ k : Nat, k ≤ n ∧ i = .int .i64 ((k : Int) - 1) ∧ wid xs k = wid xs n ∧ Below w.heap.size w wr) (fun i _ => (intOf i + 1).toNat)
    case atStart => exact ⟨n, Nat.le_refl _, rfl, rfl, b1⟩
    case round =>
      obtain ⟨k, hk, rfl, hw, hb⟩ := hrel
      have HK := Lib.hid hw
      clear hw
      by_cases hpos : 3 ≤ k
      · obtain ⟨m, rfl⟩ : ∃ m : Nat, k = m + 3 := ⟨k - 3, by omega⟩
        obtain ⟨b, off, rfl, hbl, hc⟩ := h.2 (by omega)
        have hcz : wr.cell? ⟨b, off + (m + 2), none⟩ = some (.int .i64 (xs.getD (m + 2) 0)) := (hb.cell (p := ⟨b, off + (m + 2), none⟩) hbl).trans (hc (m + 2) (by omega))
        have hcy : wr.cell? ⟨b, off + (m + 1), none⟩ = some (.int .i64 (xs.getD (m + 1) 0)) := (hb.cell (p := ⟨b, off + (m + 1), none⟩) hbl).trans (hc (m + 1) (by omega))
        have hcx : wr.cell? ⟨b, off + m, none⟩ = some (.int .i64 (xs.getD m 0)) := (hb.cell (p := ⟨b, off + m, none⟩) hbl).trans (hc m (by omega))
        have hx := hbd m (by rw [HL.out]; omega)
        have hy := hbd (m + 1) (by rw [HL.out]; omega)
        have hz := hbd (m + 2) (by rw [HL.out]; omega)
        obtain ⟨x, ex⟩ : ∃ x, x = xs.getD m 0 := ⟨_, rfl⟩
        obtain ⟨y, ey⟩ : ∃ y, y = xs.getD (m + 1) 0 := ⟨_, rfl⟩
        obtain ⟨z, ez⟩ : ∃ z, z = xs.getD (m + 2) 0 := ⟨_, rfl⟩
        rw [← ex] at hcx hx
        rw [← ey] at hcy hy
        rw [← ez] at hcz hz
        have EX := Lib.hid ex
        have EY := Lib.hid ey
        have EZ := Lib.hid ez
        have e0 : ((m + 3 : Nat) : Int) - 1 = (m : Int) + 2 := by omega
        rw [e0]
        have E0 := Lib.hid e0
        clear ex ey ez hc h hbd e0 b1
        have hbw : b < wr.heap.size := Nat.lt_of_lt_of_le hbl hb.size
        have hcx' := (World.cell?_alloc_lt wr (Obj.cells #[.int .i64 0, .int .i64 0, .int .i64 0] 51) ⟨b, off + m, none⟩ hbw).trans hcx
        have hcy' := (World.cell?_alloc_lt wr (Obj.cells #[.int .i64 0, .int .i64 0, .int .i64 0] 51) ⟨b, off + (m + 1), none⟩ hbw).trans hcy
        have hcz' := (World.cell?_alloc_lt wr (Obj.cells #[.int .i64 0, .int .i64 0, .int .i64 0] 51) ⟨b, off + (m + 2), none⟩ hbw).trans hcz
        by_cases ht : triB x y z = true
        · have HT := Lib.hid ht
          clear ht
          go_wp2
          go_region
          go_wp2_with (first | (go_at_call 76; refine (closes_is HT.out _ hx.1 hx.2 hy.1 hy.2 hz.1 hz.2).mono ?_; rintro e w' ⟨rfl, o, rfl⟩) | (go_at_call 77; refine (threeSum_any x y z _ hx.1 hx.2 hy.1 hy.2 hz.1 hz.2).mono ?_; rintro e w' ⟨rfl, o', rfl⟩))
          go_ret2
          refine ⟨ret_ib (by rw [HW.out, HL.out, ← HK.out, wid_yes (by rw [← EX.out, ← EY.out, ← EZ.out]; exact HT.out), ← EX.out, ← EY.out, ← EZ.out]), ?_⟩
          repeat (first | exact hb | refine below_drewN ?_ _ | refine Below.drew ?_ | refine below_alloc ?_ _)
        · rw [Bool.not_eq_true] at ht
          have HT := Lib.hid ht
          clear ht
          go_wp2
          go_region
          go_wp2_with (go_at_call 76; refine (closes_is HT.out _ hx.1 hx.2 hy.1 hy.2 hz.1 hz.2).mono ?_; rintro e w' ⟨rfl, o, rfl⟩)
          go_roundw
          case rel =>
            refine ⟨m + 2, by omega, by go_num, by rw [← HK.out, wid_no (by rw [← EX.out, ← EY.out, ← EZ.out]; exact HT.out)], ?_⟩
            repeat (first | exact hb | refine below_drewN ?_ _ | refine Below.drew ?_ | refine below_alloc ?_ _)
          case measure => simp [intOf]; omega
      · clear h hbd b1
        go_wp2
        go_ret2
        exact ⟨ret_ib (by rw [HW.out, HL.out, ← HK.out, wid_end (by omega)]), hb⟩
  · rw [Bool.not_eq_true] at hb
    have HW := Lib.hid (widM_no hb)
    go_enter Try.func38, Try.ntmps38
    go_wp2_with fail
    refine (implStickIn_any _ _ _ xs _ h hn).mono ?_
    rintro e w1 ⟨rfl, b1⟩
    go_wp2_with fail
    go_ret2
    exact ⟨ret_ib HW.out, b1⟩
end Go.Proofs.Ytiadnbdefcimiaa
