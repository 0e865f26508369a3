/- The model's draws of chapter 3: bundles, a number of sticks and a sum. -/
import Derived.Test.YtaffdppmpfgghaaDraw
namespace Go.Proofs.Ytaffdppmpfgghaa
open Go.RowKit

theorem drawPolyMost_any (A : Option Addr) (n c : Nat) (bs : List Int) (w : World) (h : RdB w A n bs) (hb : Bytes bs) (hn : n ≤ 1048576) (hc : n ≤ c) :
    Calls Try.prog 52 #[.slice A n c] w (Drawn1 w 11) := by
  go_enter Try.func52, Try.ntmps52
  go_wp2_with fail
  refine (one_any A n c bs _ h hb hn hc).mono ?_
  rintro e w1 ⟨A2, n2, c2, xs, rfl, o2, hn2, hx, b2⟩
  go_wp2_with fail
  go_ret
  exact ⟨A2, n2, c2, xs, rfl, o2, hn2, hx, b2⟩
/-- What a draw of two numbers leaves. -/
def DrawnII (w : World) (e : Ending) (w' : World) : Prop := ∃ u v : Int, e = .returned (.tuple #[.int .i64 u, .int .i64 v]) ∧ -1000 ≤ u ∧ u ≤ 1000 ∧ -1000 ≤ v ∧ v ≤ 1000 ∧ Below w.heap.size w w'

end Go.Proofs.Ytaffdppmpfgghaa
