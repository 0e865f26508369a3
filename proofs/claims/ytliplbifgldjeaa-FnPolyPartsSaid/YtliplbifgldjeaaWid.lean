/- Contracts for StickWidest. -/
import Derived.Test.YtliplbifgldjeaaS1a
namespace Go.Proofs.Ytliplbifgldjeaa
open Go.RowKit
theorem ret_ib {a : Int} {c : Bool} {p : Int × Bool} (h : p = (a, c)) : Ending.returned (.tuple #[.int .i64 a, .bool c]) = .returned (.tuple #[.int .i64 p.1, .bool p.2]) := by subst h; rfl
theorem closes_is {a b c : Int} {v : Bool} (h : triB a b c = v) (w : World) (ha : 1 ≤ a) (ha' : a ≤ 60) (hb : 1 ≤ b) (hb' : b ≤ 60) (hc : 1 ≤ c) (hc' : c ≤ 60) :
    Calls Try.prog 83 #[.agg #[.int .i64 a, .int .i64 b, .int .i64 c]] w fun e w' => e = .returned (.bool v) ∧ ∃ o, w' = w.alloc (.cells o 66) := h ▸ closes_any a b c w ha ha' hb hb' hc hc'

end Go.Proofs.Ytliplbifgldjeaa
