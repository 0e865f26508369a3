/- The program's lengths of walks, and walkOf, shortWalkOf. -/
import Derived.Test.YtegpidlhhneilaaDoorTrmI
import Derived.Test.YtegpidlhhneilaaDoorFloat
namespace Go.Proofs.YtegpidlhhneilaaDoor
open Go.RowKit Go.Sort Go.Lib

def tyT : Tm → TypeId
  | .l _ => 53
  | .b _ => 55
  | .u _ => 56
  | .r _ _ => 58
  | .j _ _ => 61
def rcV : Tm → Value
  | .l k => .int .i64 k
  | .b t => .agg #[tmV t]
  | .u t => .agg #[tmV t]
  | .r d t => .agg #[.int .i64 d, tmV t]
  | .j a c => .agg #[tmV a, tmV c]
theorem tmV_is (t : Tm) : tmV t = .iface (tyT t) (rcV t) := by cases t <;> rfl
def lenId : Tm → FuncId
  | .l _ => 49
  | .b _ => 53
  | .u _ => 57
  | .r _ _ => 60
  | .j _ _ => 65
set_option maxHeartbeats 1000000 in
theorem lenL_any (k : Nat) (w : World) : Calls Tryd.prog 49 #[.int .i64 k] w fun e w' => e = .returned (.int .i64 1) ∧ Below w.heap.size w w' := by
  go_enter Tryd.func49, Tryd.ntmps49
  go_wp2_with fail
  go_ret
  exact ⟨rfl, Below.refl _ _⟩
theorem meth_len (t : Tm) (w : World) : (method 190 (tyT t) (rcV t) "loop.example/closingsticks/impl.length").run Tryd.prog w = .ok (lenId t, rcV t) w := by
  cases t <;> kernel_rfl
theorem lenId_call (t : Tm) (args : Array Value) (w : World) : (callFunc (lenId t) args).run Tryd.prog w = .ok (.enter (lenId t) args) w := by
  cases t with
  | l k => exact enters_of Tryd.func49 (by kernel_rfl) rfl args w
  | b t => exact enters_of Tryd.func53 (by kernel_rfl) rfl args w
  | u t => exact enters_of Tryd.func57 (by kernel_rfl) rfl args w
  | r d t => exact enters_of Tryd.func60 (by kernel_rfl) rfl args w
  | j a c => exact enters_of Tryd.func65 (by kernel_rfl) rfl args w
theorem cap_bd {m : Nat} (t : Tm) (h : okTm t = true) (hm : 1 ≤ m) : capT m t ≤ m := by rw [cap_is hm t h]; omega
set_option maxHeartbeats 1000000 in
set_option maxRecDepth 100000 in
theorem lenB_of (t : Tm) (n : Nat) (ih : ∀ w, Calls Tryd.prog (lenId t) #[rcV t] w fun e w' => e = .returned (.int .i64 n) ∧ Below w.heap.size w w') (w : World) : Calls Tryd.prog 53 #[.agg #[tmV t]] w fun e w' => e = .returned (.int .i64 n) ∧ Below w.heap.size w w' := by
  have hm := meth_len t
  have hc := lenId_call t
  have H := Lib.hid ih
  rw [tmV_is]
  generalize tyT t = T at *
  generalize rcV t = x at *
  generalize lenId t = fid at *
  clear ih
  go_enter Tryd.func53, Tryd.ntmps53
  go_wp2_with fail
  refine (H.out _).mono ?_
  rintro e w2 ⟨rfl, b2⟩
  go_wp2_with fail
  go_ret
  exact ⟨rfl, below_then (below_alloc (Below.refl _ _) _) b2⟩
end Go.Proofs.YtegpidlhhneilaaDoor
