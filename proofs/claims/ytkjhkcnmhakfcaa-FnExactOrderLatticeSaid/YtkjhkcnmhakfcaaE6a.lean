/- The walk of the exact law of PathIn. -/
import Derived.Test.YtkjhkcnmhakfcaaPathW
import Derived.Test.YtkjhkcnmhakfcaaPathS
import Derived.Test.YtkjhkcnmhakfcaaRowF
namespace Go.Proofs.Ytkjhkcnmhakfcaa
open Go.RowKit Go.Sort Go.Lib

theorem pathIn_any (A : Option Addr) (n c : Nat) (L : List (List Int)) (w : World) (h : RdM w A n L) (hs : SmallM L) :
    Calls Try.prog 27 #[.slice A n c] w fun e w' => e = .returned (.bool (pathB L)) ∧ Below w.heap.size w w' := by
  have hP := pathOf_any A n c L w h hs
  generalize pathB L = pb at *
  clear h hs
  go_enter Try.func27, Try.ntmps27
  go_wp2_with fail
  refine hP.mono ?_
  rintro e w1 ⟨⟨v, rfl, _⟩, b1⟩
  go_wp2_with fail
  go_ret
  exact ⟨rfl, b1⟩

set_option maxRecDepth 100000 in
set_option maxHeartbeats 2000000 in
theorem fnExactPathIn_walk (A0 : Option Addr) (n0 c0 : Nat) (z0 : List (List Int)) (w : World) (h0 : RdM w A0 n0 z0) (hn : n0 ≤ 9223372036854775807) (hm : ∀ i, i < n0 → (rowL z0 i).length ≤ 9223372036854775807) :
    Calls Try.prog 3 #[.slice A0 n0 c0] w fun e w' => e = .returned (.bool true) ∧ Below w.heap.size w w' := by
  have hZ := szIntSS_any A0 n0 c0 z0 w h0 hn hm
  have HL := Lib.hid h0.1
  clear hn hm
  go_enter Try.func3, Try.ntmps3
  go_wp2_with fail
  refine hZ.mono ?_
  rintro e w1 ⟨⟨v, rfl, hv⟩, b⟩
  rcases hv with rfl | ⟨hv, hs⟩
  · go_wp2_with fail
    go_ret
    exact ⟨rfl, b⟩
  have d1 : decide (v < 0) = false := by simpa using hv
  have HS := Lib.hid hs
  have B := b
  clear hs hv b hZ
  go_wp2_with fail
  refine (toIntSS_any _ _ _ z0 _ (h0.same B) HS.out).mono ?_
  rintro e w2 ⟨g2, rfl, ⟨gs2, o2⟩, b⟩
  replace B := B.trans (b.mono B.size)
  clear b
  go_wp2_with fail
  refine (specPathIn_any _ _ _ z0 _ o2.rd HS.out).mono ?_
  rintro e w3 ⟨rfl, b⟩
  replace B := B.trans (b.mono B.size)
  clear b o2
  go_wp2_with fail
  refine (toIntSS_any _ _ _ z0 _ (h0.same B) HS.out).mono ?_
  rintro e w4 ⟨g4, rfl, ⟨gs4, o4⟩, b⟩
  replace B := B.trans (b.mono B.size)
  clear b
  go_wp2_with fail
  refine (pathIn_any _ _ _ z0 _ o4.rd HS.out).mono ?_
  rintro e w5 ⟨rfl, b⟩
  replace B := B.trans (b.mono B.size)
  replace o4 := o4.same b
  clear b
  go_wp2_with fail
  refine (toIntSS_any _ _ _ z0 _ (h0.same B) HS.out).mono ?_
  rintro e w6 ⟨g6, rfl, ⟨gs6, o6⟩, b⟩
  replace B := B.trans (b.mono B.size)
  replace o4 := o4.same b
  clear b
  go_wp2_with fail
  refine (eqIntSS_same _ _ _ _ _ z0 _ o4.rd o6.rd HS.out).mono ?_
  rintro e w7 ⟨rfl, b⟩
  replace B := B.trans (b.mono B.size)
  clear b
  go_wp2_with fail
  go_ret
  exact ⟨rfl, B⟩
end Go.Proofs.Ytkjhkcnmhakfcaa
