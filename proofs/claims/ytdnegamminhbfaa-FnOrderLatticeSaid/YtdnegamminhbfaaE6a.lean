/- The walk of the exact law of PathIn. -/
import Derived.Test.YtdnegamminhbfaaPathW
import Derived.Test.YtdnegamminhbfaaPathS
import Derived.Test.YtdnegamminhbfaaRowH
namespace Go.Proofs.Ytdnegamminhbfaa
open Go.RowKit Go.Sort Go.Lib

theorem pathIn_any (A : Option Addr) (n c : Nat) (L : List (List Int)) (w : World) (h : RdM w A n L) (hs : SmallM L) :
    Calls Try.prog 117 #[.slice A n c] w fun e w' => e = .returned (.bool (pathB L)) ∧ Below w.heap.size w w' := by
  have hP := pathOf_any A n c L w h hs
  generalize pathB L = pb at *
  clear h hs
  go_enter Try.func117, Try.ntmps117
  go_wp2_with fail
  refine hP.mono ?_
  rintro e w1 ⟨⟨v, rfl, _⟩, b1⟩
  go_wp2_with fail
  go_ret
  exact ⟨rfl, b1⟩

end Go.Proofs.Ytdnegamminhbfaa
