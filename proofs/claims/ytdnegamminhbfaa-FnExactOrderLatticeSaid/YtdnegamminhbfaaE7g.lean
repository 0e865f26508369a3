/- Walks of exact laws. -/
import Derived.Test.YtdnegamminhbfaaOrdS6
import Derived.Test.YtdnegamminhbfaaRowH
namespace Go.Proofs.Ytdnegamminhbfaa
open Go.RowKit Go.Sort Go.Lib

set_option maxRecDepth 100000 in
set_option maxHeartbeats 4000000 in
theorem fnExactOrderLattice_walk (A0 : Option Addr) (n0 c0 : Nat) (z0 : List (List Int)) (w : World) (h0 : RdM w A0 n0 z0) (hn : n0 ≤ 9223372036854775807) (hm : ∀ i, i < n0 → (rowL z0 i).length ≤ 9223372036854775807) :
    Calls Try.prog 16 #[.slice A0 n0 c0] w fun e w' => e = .returned (.bool true) ∧ Below w.heap.size w w' := by
  have hZ := szIntSS_any A0 n0 c0 z0 w h0 hn hm
  have HL := Lib.hid h0.1
  clear hn hm
  go_enter Try.func16, Try.ntmps16
  go_wp2_with fail
  refine hZ.mono ?_
  rintro e w1 ⟨⟨v, rfl, hv⟩, b⟩
  rcases hv with rfl | ⟨hv, hs⟩
  · go_wp2_with fail
    go_ret
    exact ⟨rfl, b⟩
  have d1 : decide (v < 0) = false := by simpa using hv
  have HS := Lib.hid hs
  have B := b
  clear hs hv b hZ
  go_wp2_with fail
  refine (toIntSS_any _ _ _ z0 _ (h0.same B) HS.out).mono ?_
  rintro e w2 ⟨g_s, rfl, ⟨gs_s, o_s⟩, b⟩
  replace B := B.trans (b.mono B.size)
  clear b
  go_wp2_with fail
  refine (specOrderLattice_any _ _ _ z0 _ o_s.rd HS.out).mono ?_
  rintro e w3 ⟨rfl, b⟩
  replace B := B.trans (b.mono B.size)
  clear b
  clear o_s
  go_wp2_with fail
  refine (toIntSS_any _ _ _ z0 _ (h0.same B) HS.out).mono ?_
  rintro e w4 ⟨g_x, rfl, ⟨gs_x, o_x⟩, b⟩
  replace B := B.trans (b.mono B.size)
  clear b
  go_wp2_with fail
  refine (orderLattice_any _ _ _ z0 _ o_x.rd HS.out).mono ?_
  rintro e w5 ⟨rfl, b⟩
  replace B := B.trans (b.mono B.size)
  replace o_x := o_x.same b
  clear b
  go_wp2_with fail
  refine (toIntSS_any _ _ _ z0 _ (h0.same B) HS.out).mono ?_
  rintro e w6 ⟨g_y, rfl, ⟨gs_y, o_y⟩, b⟩
  replace B := B.trans (b.mono B.size)
  replace o_x := o_x.same b
  clear b
  go_wp2_with fail
  refine (eqIntSS_same _ _ _ _ _ z0 _ o_x.rd o_y.rd HS.out).mono ?_
  rintro e w7 ⟨rfl, b⟩
  replace B := B.trans (b.mono B.size)
  clear b
  go_wp2_with fail
  go_ret
  exact ⟨rfl, B⟩

end Go.Proofs.Ytdnegamminhbfaa
