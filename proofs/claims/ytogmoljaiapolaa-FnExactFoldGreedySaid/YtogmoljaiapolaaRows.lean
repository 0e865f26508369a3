/-
  No cell of these rows narrows 'for every input' (looked for: loops, veiled, ifaces, maps, wideKeys, modest, calm, conditions, laid).
  DERIVED. THE GIVEN ROWS OF THIS SEAT. 17 by the template 'for every input the law returns true; each argument reads behind the call as it read before'; 0 by the template 'total and deterministic' (their statements: YtogmoljaiapolaaTotals.lean).
  GIVEN WITH THE SEED: the statements are not yours to turn. If you find one false, say at which input.
  Laid BY PROGRAM, IN A SANDBOX (cutbox-rows.mjs): the forced cells as the released guide's own fill.sh prints them over the translation 7f090a2f0d6c4e03… (all of the seat's roots in one cut). By AI agents, Wed Nov 11 2026. No macro, syntax, notation, axiom, sorry.
-/
import Derived.Test.YtogmoljaiapolaaChecked
import GoSem.Claim
import GoSem.ClaimJoined
import GoSem.ClaimMapViews
import Derived.JoinedTies
import Derived.KernelRfl
namespace Go.Proofs.Ytogmoljaiapolaa
/- THE CELL 'sum', in the pinned program and in every row, IS THE sha256 OF THE DUMP (.gsa) THAT YtogmoljaiapolaaProg.lean LOADS. Nothing in Lean hashes anything: it is a label: what it is worth is what the hold of that sum in a sandbox is worth. -/
noncomputable def Try.pinned : Pinned := { name := "ytogmoljaiapolaa", sum := "7f090a2f0d6c4e0382cd4e75bc44d0145c49673792b7ef2d0eaf7156f90e8c28", checked := Try.checked }
namespace Rows
def none {H : Type} : Left H := { results := [], args := [] }

/-- 'laws.FnEnds': WHATEVER THE INPUT: true; the input reads as it did. -/
def fnEndsSpec : ChangeSpec := { name := "fnEnds", fn := fun _ => fun
  | [d] => { results := [.lit (.bool true)], args := [d] }
  | _ => none }
def fnEndsRow : OpenClaim := { program := "ytogmoljaiapolaa", sum := "7f090a2f0d6c4e0382cd4e75bc44d0145c49673792b7ef2d0eaf7156f90e8c28", func := "loop.example/closingsticks/laws.FnEnds", spec := "fnEnds", inPlace := ["(*sync.WaitGroup).Add", "internal/race.ReleaseMerge", "internal/race.Disable", "internal/race.Enable", "internal/synctest.IsInBubble", "internal/synctest.Associate[sync.WaitGroup]", "sync.fatal", "sync/atomic.OrUint64", "sync/atomic.AddUint64", "internal/race.Read", "sync/atomic.LoadUint64", "sync/atomic.StoreUint64", "internal/synctest.Disassociate[sync.WaitGroup]", "sync.runtime_Semrelease", "(*sync.WaitGroup).Done", "(*sync.WaitGroup).Wait", "internal/race.Acquire", "internal/synctest.IsAssociated[sync.WaitGroup]", "sync/atomic.CompareAndSwapUint64", "internal/race.Write", "sync.runtime_SemacquireWaitGroup"], unfollowed := true, recurses := true, leaving := true, apart := false }
def FnEndsSaid : Prop := fnEndsRow.holds Try.pinned (OpenSpec.ofChange fnEndsSpec)

/-- ITS FALSE NEIGHBOUR: 'it returns false'. Refute it at one input. -/
def fnEndsWrong : ChangeSpec := { name := "fnEnds", fn := fun _ => fun
  | [d] => { results := [.lit (.bool false)], args := [d] }
  | _ => none }
def FnEndsWrongFalsely : Prop := fnEndsRow.holds Try.pinned (OpenSpec.ofChange fnEndsWrong)

/-- 'laws.FnNear': WHATEVER THE INPUT: true; the input reads as it did. -/
def fnNearSpec : ChangeSpec := { name := "fnNear", fn := fun _ => fun
  | [d] => { results := [.lit (.bool true)], args := [d] }
  | _ => none }
def fnNearRow : OpenClaim := { program := "ytogmoljaiapolaa", sum := "7f090a2f0d6c4e0382cd4e75bc44d0145c49673792b7ef2d0eaf7156f90e8c28", func := "loop.example/closingsticks/laws.FnNear", spec := "fnNear", inPlace := ["(*sync.WaitGroup).Add", "internal/race.ReleaseMerge", "internal/race.Disable", "internal/race.Enable", "internal/synctest.IsInBubble", "internal/synctest.Associate[sync.WaitGroup]", "sync.fatal", "sync/atomic.OrUint64", "sync/atomic.AddUint64", "internal/race.Read", "sync/atomic.LoadUint64", "sync/atomic.StoreUint64", "internal/synctest.Disassociate[sync.WaitGroup]", "sync.runtime_Semrelease", "(*sync.WaitGroup).Done", "(*sync.WaitGroup).Wait", "internal/race.Acquire", "internal/synctest.IsAssociated[sync.WaitGroup]", "sync/atomic.CompareAndSwapUint64", "internal/race.Write", "sync.runtime_SemacquireWaitGroup"], unfollowed := true, recurses := true, leaving := true, apart := false }
def FnNearSaid : Prop := fnNearRow.holds Try.pinned (OpenSpec.ofChange fnNearSpec)

/-- ITS FALSE NEIGHBOUR: 'it returns false'. Refute it at one input. -/
def fnNearWrong : ChangeSpec := { name := "fnNear", fn := fun _ => fun
  | [d] => { results := [.lit (.bool false)], args := [d] }
  | _ => none }
def FnNearWrongFalsely : Prop := fnNearRow.holds Try.pinned (OpenSpec.ofChange fnNearWrong)

/-- 'laws.FnWays': WHATEVER THE INPUT: true; the input reads as it did. -/
def fnWaysSpec : ChangeSpec := { name := "fnWays", fn := fun _ => fun
  | [d] => { results := [.lit (.bool true)], args := [d] }
  | _ => none }
def fnWaysRow : OpenClaim := { program := "ytogmoljaiapolaa", sum := "7f090a2f0d6c4e0382cd4e75bc44d0145c49673792b7ef2d0eaf7156f90e8c28", func := "loop.example/closingsticks/laws.FnWays", spec := "fnWays", inPlace := ["(*sync.WaitGroup).Add", "internal/race.ReleaseMerge", "internal/race.Disable", "internal/race.Enable", "internal/synctest.IsInBubble", "internal/synctest.Associate[sync.WaitGroup]", "sync.fatal", "sync/atomic.OrUint64", "sync/atomic.AddUint64", "internal/race.Read", "sync/atomic.LoadUint64", "sync/atomic.StoreUint64", "internal/synctest.Disassociate[sync.WaitGroup]", "sync.runtime_Semrelease", "(*sync.WaitGroup).Done", "(*sync.WaitGroup).Wait", "internal/race.Acquire", "internal/synctest.IsAssociated[sync.WaitGroup]", "sync/atomic.CompareAndSwapUint64", "internal/race.Write", "sync.runtime_SemacquireWaitGroup"], unfollowed := true, recurses := true, leaving := true, apart := false }
def FnWaysSaid : Prop := fnWaysRow.holds Try.pinned (OpenSpec.ofChange fnWaysSpec)

/-- ITS FALSE NEIGHBOUR: 'it returns false'. Refute it at one input. -/
def fnWaysWrong : ChangeSpec := { name := "fnWays", fn := fun _ => fun
  | [d] => { results := [.lit (.bool false)], args := [d] }
  | _ => none }
def FnWaysWrongFalsely : Prop := fnWaysRow.holds Try.pinned (OpenSpec.ofChange fnWaysWrong)

/-- 'laws.FnSpan': WHATEVER THE INPUT: true; the input reads as it did. -/
def fnSpanSpec : ChangeSpec := { name := "fnSpan", fn := fun _ => fun
  | [d] => { results := [.lit (.bool true)], args := [d] }
  | _ => none }
def fnSpanRow : OpenClaim := { program := "ytogmoljaiapolaa", sum := "7f090a2f0d6c4e0382cd4e75bc44d0145c49673792b7ef2d0eaf7156f90e8c28", func := "loop.example/closingsticks/laws.FnSpan", spec := "fnSpan", inPlace := ["(*sync.WaitGroup).Add", "internal/race.ReleaseMerge", "internal/race.Disable", "internal/race.Enable", "internal/synctest.IsInBubble", "internal/synctest.Associate[sync.WaitGroup]", "sync.fatal", "sync/atomic.OrUint64", "sync/atomic.AddUint64", "internal/race.Read", "sync/atomic.LoadUint64", "sync/atomic.StoreUint64", "internal/synctest.Disassociate[sync.WaitGroup]", "sync.runtime_Semrelease", "(*sync.WaitGroup).Done", "(*sync.WaitGroup).Wait", "internal/race.Acquire", "internal/synctest.IsAssociated[sync.WaitGroup]", "sync/atomic.CompareAndSwapUint64", "internal/race.Write", "sync.runtime_SemacquireWaitGroup"], unfollowed := true, recurses := true, leaving := true, apart := false }
def FnSpanSaid : Prop := fnSpanRow.holds Try.pinned (OpenSpec.ofChange fnSpanSpec)

/-- ITS FALSE NEIGHBOUR: 'it returns false'. Refute it at one input. -/
def fnSpanWrong : ChangeSpec := { name := "fnSpan", fn := fun _ => fun
  | [d] => { results := [.lit (.bool false)], args := [d] }
  | _ => none }
def FnSpanWrongFalsely : Prop := fnSpanRow.holds Try.pinned (OpenSpec.ofChange fnSpanWrong)

/-- 'laws.FnFits': WHATEVER THE INPUT: true; the input reads as it did. -/
def fnFitsSpec : ChangeSpec := { name := "fnFits", fn := fun _ => fun
  | [d] => { results := [.lit (.bool true)], args := [d] }
  | _ => none }
def fnFitsRow : OpenClaim := { program := "ytogmoljaiapolaa", sum := "7f090a2f0d6c4e0382cd4e75bc44d0145c49673792b7ef2d0eaf7156f90e8c28", func := "loop.example/closingsticks/laws.FnFits", spec := "fnFits", inPlace := ["(*sync.WaitGroup).Add", "internal/race.ReleaseMerge", "internal/race.Disable", "internal/race.Enable", "internal/synctest.IsInBubble", "internal/synctest.Associate[sync.WaitGroup]", "sync.fatal", "sync/atomic.OrUint64", "sync/atomic.AddUint64", "internal/race.Read", "sync/atomic.LoadUint64", "sync/atomic.StoreUint64", "internal/synctest.Disassociate[sync.WaitGroup]", "sync.runtime_Semrelease", "(*sync.WaitGroup).Done", "(*sync.WaitGroup).Wait", "internal/race.Acquire", "internal/synctest.IsAssociated[sync.WaitGroup]", "sync/atomic.CompareAndSwapUint64", "internal/race.Write", "sync.runtime_SemacquireWaitGroup"], unfollowed := true, recurses := true, leaving := true, apart := false }
def FnFitsSaid : Prop := fnFitsRow.holds Try.pinned (OpenSpec.ofChange fnFitsSpec)

/-- ITS FALSE NEIGHBOUR: 'it returns false'. Refute it at one input. -/
def fnFitsWrong : ChangeSpec := { name := "fnFits", fn := fun _ => fun
  | [d] => { results := [.lit (.bool false)], args := [d] }
  | _ => none }
def FnFitsWrongFalsely : Prop := fnFitsRow.holds Try.pinned (OpenSpec.ofChange fnFitsWrong)

/-- 'laws.FnCase': WHATEVER THE INPUT: true; the input reads as it did. -/
def fnCaseSpec : ChangeSpec := { name := "fnCase", fn := fun _ => fun
  | [d] => { results := [.lit (.bool true)], args := [d] }
  | _ => none }
def fnCaseRow : OpenClaim := { program := "ytogmoljaiapolaa", sum := "7f090a2f0d6c4e0382cd4e75bc44d0145c49673792b7ef2d0eaf7156f90e8c28", func := "loop.example/closingsticks/laws.FnCase", spec := "fnCase", recurses := true, apart := false }
def FnCaseSaid : Prop := fnCaseRow.holds Try.pinned (OpenSpec.ofChange fnCaseSpec)

/-- ITS FALSE NEIGHBOUR: 'it returns false'. Refute it at one input. -/
def fnCaseWrong : ChangeSpec := { name := "fnCase", fn := fun _ => fun
  | [d] => { results := [.lit (.bool false)], args := [d] }
  | _ => none }
def FnCaseWrongFalsely : Prop := fnCaseRow.holds Try.pinned (OpenSpec.ofChange fnCaseWrong)

/-- 'laws.FnGreedy': WHATEVER THE INPUT: true; the input reads as it did. -/
def fnGreedySpec : ChangeSpec := { name := "fnGreedy", fn := fun _ => fun
  | [d] => { results := [.lit (.bool true)], args := [d] }
  | _ => none }
def fnGreedyRow : OpenClaim := { program := "ytogmoljaiapolaa", sum := "7f090a2f0d6c4e0382cd4e75bc44d0145c49673792b7ef2d0eaf7156f90e8c28", func := "loop.example/closingsticks/laws.FnGreedy", spec := "fnGreedy", inPlace := ["(*sync.WaitGroup).Add", "internal/race.ReleaseMerge", "internal/race.Disable", "internal/race.Enable", "internal/synctest.IsInBubble", "internal/synctest.Associate[sync.WaitGroup]", "sync.fatal", "sync/atomic.OrUint64", "sync/atomic.AddUint64", "internal/race.Read", "sync/atomic.LoadUint64", "sync/atomic.StoreUint64", "internal/synctest.Disassociate[sync.WaitGroup]", "sync.runtime_Semrelease", "(*sync.WaitGroup).Done", "(*sync.WaitGroup).Wait", "internal/race.Acquire", "internal/synctest.IsAssociated[sync.WaitGroup]", "sync/atomic.CompareAndSwapUint64", "internal/race.Write", "sync.runtime_SemacquireWaitGroup"], unfollowed := true, recurses := true, leaving := true, apart := false }
def FnGreedySaid : Prop := fnGreedyRow.holds Try.pinned (OpenSpec.ofChange fnGreedySpec)

/-- ITS FALSE NEIGHBOUR: 'it returns false'. Refute it at one input. -/
def fnGreedyWrong : ChangeSpec := { name := "fnGreedy", fn := fun _ => fun
  | [d] => { results := [.lit (.bool false)], args := [d] }
  | _ => none }
def FnGreedyWrongFalsely : Prop := fnGreedyRow.holds Try.pinned (OpenSpec.ofChange fnGreedyWrong)

/-- 'laws.FnFoldBack': WHATEVER THE INPUT: true; the input reads as it did. -/
def fnFoldBackSpec : ChangeSpec := { name := "fnFoldBack", fn := fun _ => fun
  | [d] => { results := [.lit (.bool true)], args := [d] }
  | _ => none }
def fnFoldBackRow : OpenClaim := { program := "ytogmoljaiapolaa", sum := "7f090a2f0d6c4e0382cd4e75bc44d0145c49673792b7ef2d0eaf7156f90e8c28", func := "loop.example/closingsticks/laws.FnFoldBack", spec := "fnFoldBack", inPlace := ["(*sync.WaitGroup).Add", "internal/race.ReleaseMerge", "internal/race.Disable", "internal/race.Enable", "internal/synctest.IsInBubble", "internal/synctest.Associate[sync.WaitGroup]", "sync.fatal", "sync/atomic.OrUint64", "sync/atomic.AddUint64", "internal/race.Read", "sync/atomic.LoadUint64", "sync/atomic.StoreUint64", "internal/synctest.Disassociate[sync.WaitGroup]", "sync.runtime_Semrelease", "(*sync.WaitGroup).Done", "(*sync.WaitGroup).Wait", "internal/race.Acquire", "internal/synctest.IsAssociated[sync.WaitGroup]", "sync/atomic.CompareAndSwapUint64", "internal/race.Write", "sync.runtime_SemacquireWaitGroup"], unfollowed := true, recurses := true, leaving := true, apart := false }
def FnFoldBackSaid : Prop := fnFoldBackRow.holds Try.pinned (OpenSpec.ofChange fnFoldBackSpec)

/-- ITS FALSE NEIGHBOUR: 'it returns false'. Refute it at one input. -/
def fnFoldBackWrong : ChangeSpec := { name := "fnFoldBack", fn := fun _ => fun
  | [d] => { results := [.lit (.bool false)], args := [d] }
  | _ => none }
def FnFoldBackWrongFalsely : Prop := fnFoldBackRow.holds Try.pinned (OpenSpec.ofChange fnFoldBackWrong)

/-- 'laws.FnExactFoldEnds': WHATEVER THE INPUT: true; the input reads as it did. -/
def fnExactFoldEndsSpec : ChangeSpec := { name := "fnExactFoldEnds", fn := fun _ => fun
  | [d] => { results := [.lit (.bool true)], args := [d] }
  | _ => none }
def fnExactFoldEndsRow : OpenClaim := { program := "ytogmoljaiapolaa", sum := "7f090a2f0d6c4e0382cd4e75bc44d0145c49673792b7ef2d0eaf7156f90e8c28", func := "loop.example/closingsticks/laws.FnExactFoldEnds", spec := "fnExactFoldEnds", inPlace := ["(*sync.WaitGroup).Add", "internal/race.ReleaseMerge", "internal/race.Disable", "internal/race.Enable", "internal/synctest.IsInBubble", "internal/synctest.Associate[sync.WaitGroup]", "sync.fatal", "sync/atomic.OrUint64", "sync/atomic.AddUint64", "internal/race.Read", "sync/atomic.LoadUint64", "sync/atomic.StoreUint64", "internal/synctest.Disassociate[sync.WaitGroup]", "sync.runtime_Semrelease", "(*sync.WaitGroup).Done", "(*sync.WaitGroup).Wait", "internal/race.Acquire", "internal/synctest.IsAssociated[sync.WaitGroup]", "sync/atomic.CompareAndSwapUint64", "internal/race.Write", "sync.runtime_SemacquireWaitGroup"], unfollowed := true, recurses := true, leaving := true, apart := false }
def FnExactFoldEndsSaid : Prop := fnExactFoldEndsRow.holds Try.pinned (OpenSpec.ofChange fnExactFoldEndsSpec)

/-- ITS FALSE NEIGHBOUR: 'it returns false'. Refute it at one input. -/
def fnExactFoldEndsWrong : ChangeSpec := { name := "fnExactFoldEnds", fn := fun _ => fun
  | [d] => { results := [.lit (.bool false)], args := [d] }
  | _ => none }
def FnExactFoldEndsWrongFalsely : Prop := fnExactFoldEndsRow.holds Try.pinned (OpenSpec.ofChange fnExactFoldEndsWrong)

/-- 'laws.FnExactFoldNear': WHATEVER THE INPUT: true; the input reads as it did. -/
def fnExactFoldNearSpec : ChangeSpec := { name := "fnExactFoldNear", fn := fun _ => fun
  | [d] => { results := [.lit (.bool true)], args := [d] }
  | _ => none }
def fnExactFoldNearRow : OpenClaim := { program := "ytogmoljaiapolaa", sum := "7f090a2f0d6c4e0382cd4e75bc44d0145c49673792b7ef2d0eaf7156f90e8c28", func := "loop.example/closingsticks/laws.FnExactFoldNear", spec := "fnExactFoldNear", inPlace := ["(*sync.WaitGroup).Add", "internal/race.ReleaseMerge", "internal/race.Disable", "internal/race.Enable", "internal/synctest.IsInBubble", "internal/synctest.Associate[sync.WaitGroup]", "sync.fatal", "sync/atomic.OrUint64", "sync/atomic.AddUint64", "internal/race.Read", "sync/atomic.LoadUint64", "sync/atomic.StoreUint64", "internal/synctest.Disassociate[sync.WaitGroup]", "sync.runtime_Semrelease", "(*sync.WaitGroup).Done", "(*sync.WaitGroup).Wait", "internal/race.Acquire", "internal/synctest.IsAssociated[sync.WaitGroup]", "sync/atomic.CompareAndSwapUint64", "internal/race.Write", "sync.runtime_SemacquireWaitGroup"], unfollowed := true, recurses := true, leaving := true, apart := false }
def FnExactFoldNearSaid : Prop := fnExactFoldNearRow.holds Try.pinned (OpenSpec.ofChange fnExactFoldNearSpec)

/-- ITS FALSE NEIGHBOUR: 'it returns false'. Refute it at one input. -/
def fnExactFoldNearWrong : ChangeSpec := { name := "fnExactFoldNear", fn := fun _ => fun
  | [d] => { results := [.lit (.bool false)], args := [d] }
  | _ => none }
def FnExactFoldNearWrongFalsely : Prop := fnExactFoldNearRow.holds Try.pinned (OpenSpec.ofChange fnExactFoldNearWrong)

/-- 'laws.FnExactFoldWays': WHATEVER THE INPUT: true; the input reads as it did. -/
def fnExactFoldWaysSpec : ChangeSpec := { name := "fnExactFoldWays", fn := fun _ => fun
  | [d] => { results := [.lit (.bool true)], args := [d] }
  | _ => none }
def fnExactFoldWaysRow : OpenClaim := { program := "ytogmoljaiapolaa", sum := "7f090a2f0d6c4e0382cd4e75bc44d0145c49673792b7ef2d0eaf7156f90e8c28", func := "loop.example/closingsticks/laws.FnExactFoldWays", spec := "fnExactFoldWays", inPlace := ["(*sync.WaitGroup).Add", "internal/race.ReleaseMerge", "internal/race.Disable", "internal/race.Enable", "internal/synctest.IsInBubble", "internal/synctest.Associate[sync.WaitGroup]", "sync.fatal", "sync/atomic.OrUint64", "sync/atomic.AddUint64", "internal/race.Read", "sync/atomic.LoadUint64", "sync/atomic.StoreUint64", "internal/synctest.Disassociate[sync.WaitGroup]", "sync.runtime_Semrelease", "(*sync.WaitGroup).Done", "(*sync.WaitGroup).Wait", "internal/race.Acquire", "internal/synctest.IsAssociated[sync.WaitGroup]", "sync/atomic.CompareAndSwapUint64", "internal/race.Write", "sync.runtime_SemacquireWaitGroup"], unfollowed := true, recurses := true, leaving := true, apart := false }
def FnExactFoldWaysSaid : Prop := fnExactFoldWaysRow.holds Try.pinned (OpenSpec.ofChange fnExactFoldWaysSpec)

/-- ITS FALSE NEIGHBOUR: 'it returns false'. Refute it at one input. -/
def fnExactFoldWaysWrong : ChangeSpec := { name := "fnExactFoldWays", fn := fun _ => fun
  | [d] => { results := [.lit (.bool false)], args := [d] }
  | _ => none }
def FnExactFoldWaysWrongFalsely : Prop := fnExactFoldWaysRow.holds Try.pinned (OpenSpec.ofChange fnExactFoldWaysWrong)

/-- 'laws.FnExactFoldSpan': WHATEVER THE INPUT: true; the input reads as it did. -/
def fnExactFoldSpanSpec : ChangeSpec := { name := "fnExactFoldSpan", fn := fun _ => fun
  | [d] => { results := [.lit (.bool true)], args := [d] }
  | _ => none }
def fnExactFoldSpanRow : OpenClaim := { program := "ytogmoljaiapolaa", sum := "7f090a2f0d6c4e0382cd4e75bc44d0145c49673792b7ef2d0eaf7156f90e8c28", func := "loop.example/closingsticks/laws.FnExactFoldSpan", spec := "fnExactFoldSpan", inPlace := ["(*sync.WaitGroup).Add", "internal/race.ReleaseMerge", "internal/race.Disable", "internal/race.Enable", "internal/synctest.IsInBubble", "internal/synctest.Associate[sync.WaitGroup]", "sync.fatal", "sync/atomic.OrUint64", "sync/atomic.AddUint64", "internal/race.Read", "sync/atomic.LoadUint64", "sync/atomic.StoreUint64", "internal/synctest.Disassociate[sync.WaitGroup]", "sync.runtime_Semrelease", "(*sync.WaitGroup).Done", "(*sync.WaitGroup).Wait", "internal/race.Acquire", "internal/synctest.IsAssociated[sync.WaitGroup]", "sync/atomic.CompareAndSwapUint64", "internal/race.Write", "sync.runtime_SemacquireWaitGroup"], unfollowed := true, recurses := true, leaving := true, apart := false }
def FnExactFoldSpanSaid : Prop := fnExactFoldSpanRow.holds Try.pinned (OpenSpec.ofChange fnExactFoldSpanSpec)

/-- ITS FALSE NEIGHBOUR: 'it returns false'. Refute it at one input. -/
def fnExactFoldSpanWrong : ChangeSpec := { name := "fnExactFoldSpan", fn := fun _ => fun
  | [d] => { results := [.lit (.bool false)], args := [d] }
  | _ => none }
def FnExactFoldSpanWrongFalsely : Prop := fnExactFoldSpanRow.holds Try.pinned (OpenSpec.ofChange fnExactFoldSpanWrong)

/-- 'laws.FnExactFoldFits': WHATEVER THE INPUT: true; the input reads as it did. -/
def fnExactFoldFitsSpec : ChangeSpec := { name := "fnExactFoldFits", fn := fun _ => fun
  | [d1, d2] => { results := [.lit (.bool true)], args := [d1, d2] }
  | _ => none }
def fnExactFoldFitsRow : OpenClaim := { program := "ytogmoljaiapolaa", sum := "7f090a2f0d6c4e0382cd4e75bc44d0145c49673792b7ef2d0eaf7156f90e8c28", func := "loop.example/closingsticks/laws.FnExactFoldFits", spec := "fnExactFoldFits", recurses := true, apart := false }
def FnExactFoldFitsSaid : Prop := fnExactFoldFitsRow.holds Try.pinned (OpenSpec.ofChange fnExactFoldFitsSpec)

/-- ITS FALSE NEIGHBOUR: 'it returns false'. Refute it at one input. -/
def fnExactFoldFitsWrong : ChangeSpec := { name := "fnExactFoldFits", fn := fun _ => fun
  | [d1, d2] => { results := [.lit (.bool false)], args := [d1, d2] }
  | _ => none }
def FnExactFoldFitsWrongFalsely : Prop := fnExactFoldFitsRow.holds Try.pinned (OpenSpec.ofChange fnExactFoldFitsWrong)

/-- 'laws.FnExactFoldCase': WHATEVER THE INPUT: true; the input reads as it did. -/
def fnExactFoldCaseSpec : ChangeSpec := { name := "fnExactFoldCase", fn := fun _ => fun
  | [d] => { results := [.lit (.bool true)], args := [d] }
  | _ => none }
def fnExactFoldCaseRow : OpenClaim := { program := "ytogmoljaiapolaa", sum := "7f090a2f0d6c4e0382cd4e75bc44d0145c49673792b7ef2d0eaf7156f90e8c28", func := "loop.example/closingsticks/laws.FnExactFoldCase", spec := "fnExactFoldCase", recurses := true, apart := false }
def FnExactFoldCaseSaid : Prop := fnExactFoldCaseRow.holds Try.pinned (OpenSpec.ofChange fnExactFoldCaseSpec)

/-- ITS FALSE NEIGHBOUR: 'it returns false'. Refute it at one input. -/
def fnExactFoldCaseWrong : ChangeSpec := { name := "fnExactFoldCase", fn := fun _ => fun
  | [d] => { results := [.lit (.bool false)], args := [d] }
  | _ => none }
def FnExactFoldCaseWrongFalsely : Prop := fnExactFoldCaseRow.holds Try.pinned (OpenSpec.ofChange fnExactFoldCaseWrong)

/-- 'laws.FnExactFoldGreedy': WHATEVER THE INPUT: true; the input reads as it did. -/
def fnExactFoldGreedySpec : ChangeSpec := { name := "fnExactFoldGreedy", fn := fun _ => fun
  | [d] => { results := [.lit (.bool true)], args := [d] }
  | _ => none }
def fnExactFoldGreedyRow : OpenClaim := { program := "ytogmoljaiapolaa", sum := "7f090a2f0d6c4e0382cd4e75bc44d0145c49673792b7ef2d0eaf7156f90e8c28", func := "loop.example/closingsticks/laws.FnExactFoldGreedy", spec := "fnExactFoldGreedy", recurses := true, apart := false }
def FnExactFoldGreedySaid : Prop := fnExactFoldGreedyRow.holds Try.pinned (OpenSpec.ofChange fnExactFoldGreedySpec)

/-- ITS FALSE NEIGHBOUR: 'it returns false'. Refute it at one input. -/
def fnExactFoldGreedyWrong : ChangeSpec := { name := "fnExactFoldGreedy", fn := fun _ => fun
  | [d] => { results := [.lit (.bool false)], args := [d] }
  | _ => none }
def FnExactFoldGreedyWrongFalsely : Prop := fnExactFoldGreedyRow.holds Try.pinned (OpenSpec.ofChange fnExactFoldGreedyWrong)

/-- 'laws.FnExactFoldBest': WHATEVER THE INPUT: true; the input reads as it did. -/
def fnExactFoldBestSpec : ChangeSpec := { name := "fnExactFoldBest", fn := fun _ => fun
  | [d] => { results := [.lit (.bool true)], args := [d] }
  | _ => none }
def fnExactFoldBestRow : OpenClaim := { program := "ytogmoljaiapolaa", sum := "7f090a2f0d6c4e0382cd4e75bc44d0145c49673792b7ef2d0eaf7156f90e8c28", func := "loop.example/closingsticks/laws.FnExactFoldBest", spec := "fnExactFoldBest", inPlace := ["(*sync.WaitGroup).Add", "internal/race.ReleaseMerge", "internal/race.Disable", "internal/race.Enable", "internal/synctest.IsInBubble", "internal/synctest.Associate[sync.WaitGroup]", "sync.fatal", "sync/atomic.OrUint64", "sync/atomic.AddUint64", "internal/race.Read", "sync/atomic.LoadUint64", "sync/atomic.StoreUint64", "internal/synctest.Disassociate[sync.WaitGroup]", "sync.runtime_Semrelease", "(*sync.WaitGroup).Done", "(*sync.WaitGroup).Wait", "internal/race.Acquire", "internal/synctest.IsAssociated[sync.WaitGroup]", "sync/atomic.CompareAndSwapUint64", "internal/race.Write", "sync.runtime_SemacquireWaitGroup"], unfollowed := true, recurses := true, leaving := true, apart := false }
def FnExactFoldBestSaid : Prop := fnExactFoldBestRow.holds Try.pinned (OpenSpec.ofChange fnExactFoldBestSpec)

/-- ITS FALSE NEIGHBOUR: 'it returns false'. Refute it at one input. -/
def fnExactFoldBestWrong : ChangeSpec := { name := "fnExactFoldBest", fn := fun _ => fun
  | [d] => { results := [.lit (.bool false)], args := [d] }
  | _ => none }
def FnExactFoldBestWrongFalsely : Prop := fnExactFoldBestRow.holds Try.pinned (OpenSpec.ofChange fnExactFoldBestWrong)

/-- 'laws.FnExactFoldBack': WHATEVER THE INPUT: true; the input reads as it did. -/
def fnExactFoldBackSpec : ChangeSpec := { name := "fnExactFoldBack", fn := fun _ => fun
  | [d] => { results := [.lit (.bool true)], args := [d] }
  | _ => none }
def fnExactFoldBackRow : OpenClaim := { program := "ytogmoljaiapolaa", sum := "7f090a2f0d6c4e0382cd4e75bc44d0145c49673792b7ef2d0eaf7156f90e8c28", func := "loop.example/closingsticks/laws.FnExactFoldBack", spec := "fnExactFoldBack", recurses := true, apart := false }
def FnExactFoldBackSaid : Prop := fnExactFoldBackRow.holds Try.pinned (OpenSpec.ofChange fnExactFoldBackSpec)

/-- ITS FALSE NEIGHBOUR: 'it returns false'. Refute it at one input. -/
def fnExactFoldBackWrong : ChangeSpec := { name := "fnExactFoldBack", fn := fun _ => fun
  | [d] => { results := [.lit (.bool false)], args := [d] }
  | _ => none }
def FnExactFoldBackWrongFalsely : Prop := fnExactFoldBackRow.holds Try.pinned (OpenSpec.ofChange fnExactFoldBackWrong)

/- THE SECOND FORM. 'bulk': how many values and letters a reading holds, each counted each time it is reached (what is shared counts as often as it is met; a slice's spare places count too). A statement '..UptoSaid' is the law's where the arguments, and the package variables that the reading takes, are together of bulk at most 1048576: NARROWER than '..Said'. Prove '..Said' where nothing that the law and all that it calls make is longer than what came in: it says more and counts as full. Else prove '..UptoSaid'. A law counts once. -/
mutual
def uptoBulk {H : Type} : DataW H → Nat
  | .lit (.string bytes) => bytes.length + 1
  | .lit _ => 1
  | .nil => 1
  | .ptr d => uptoBulk d + 1
  | .slice elems spare => uptoBulkAll elems + uptoBulkAll spare + 1
  | .agg parts => uptoBulkAll parts + 1
  | .iface _ d => uptoBulk d + 1
  | .map entries => uptoBulkEntries entries + 1
  | .held _ => 1
def uptoBulkAll {H : Type} : List (DataW H) → Nat
  | [] => 0
  | d :: r => uptoBulk d + uptoBulkAll r
def uptoBulkEntries {H : Type} : List (Lit × DataW H) → Nat
  | [] => 0
  | x :: r => uptoBulkEntry x + uptoBulkEntries r
def uptoBulkEntry {H : Type} : Lit × DataW H → Nat
  | (.string bytes, d) => bytes.length + uptoBulk d + 1
  | (_, d) => uptoBulk d + 1
 end
def uptoSmall : (H : Type) → List (DataW H) → Bool := fun _ ds => decide (uptoBulkAll ds ≤ 1048576)
def OpenSpec.upto (s : _root_.Go.ChangeSpec) : _root_.Go.OpenSpec := { _root_.Go.OpenSpec.ofChange s with cond := some uptoSmall }

/-- 'laws.FnEnds', WHERE WHAT IT READS IS OF BULK AT MOST 1048576: true; the input reads as it did. -/
def fnEndsUptoRow : OpenClaim := { program := "ytogmoljaiapolaa", sum := "7f090a2f0d6c4e0382cd4e75bc44d0145c49673792b7ef2d0eaf7156f90e8c28", func := "loop.example/closingsticks/laws.FnEnds", spec := "fnEnds", inPlace := ["(*sync.WaitGroup).Add", "internal/race.ReleaseMerge", "internal/race.Disable", "internal/race.Enable", "internal/synctest.IsInBubble", "internal/synctest.Associate[sync.WaitGroup]", "sync.fatal", "sync/atomic.OrUint64", "sync/atomic.AddUint64", "internal/race.Read", "sync/atomic.LoadUint64", "sync/atomic.StoreUint64", "internal/synctest.Disassociate[sync.WaitGroup]", "sync.runtime_Semrelease", "(*sync.WaitGroup).Done", "(*sync.WaitGroup).Wait", "internal/race.Acquire", "internal/synctest.IsAssociated[sync.WaitGroup]", "sync/atomic.CompareAndSwapUint64", "internal/race.Write", "sync.runtime_SemacquireWaitGroup"], unfollowed := true, recurses := true, leaving := true, apart := false, narrowed := true }
def FnEndsUptoSaid : Prop := fnEndsUptoRow.holds Try.pinned (OpenSpec.upto fnEndsSpec)

/-- 'laws.FnNear', WHERE WHAT IT READS IS OF BULK AT MOST 1048576: true; the input reads as it did. -/
def fnNearUptoRow : OpenClaim := { program := "ytogmoljaiapolaa", sum := "7f090a2f0d6c4e0382cd4e75bc44d0145c49673792b7ef2d0eaf7156f90e8c28", func := "loop.example/closingsticks/laws.FnNear", spec := "fnNear", inPlace := ["(*sync.WaitGroup).Add", "internal/race.ReleaseMerge", "internal/race.Disable", "internal/race.Enable", "internal/synctest.IsInBubble", "internal/synctest.Associate[sync.WaitGroup]", "sync.fatal", "sync/atomic.OrUint64", "sync/atomic.AddUint64", "internal/race.Read", "sync/atomic.LoadUint64", "sync/atomic.StoreUint64", "internal/synctest.Disassociate[sync.WaitGroup]", "sync.runtime_Semrelease", "(*sync.WaitGroup).Done", "(*sync.WaitGroup).Wait", "internal/race.Acquire", "internal/synctest.IsAssociated[sync.WaitGroup]", "sync/atomic.CompareAndSwapUint64", "internal/race.Write", "sync.runtime_SemacquireWaitGroup"], unfollowed := true, recurses := true, leaving := true, apart := false, narrowed := true }
def FnNearUptoSaid : Prop := fnNearUptoRow.holds Try.pinned (OpenSpec.upto fnNearSpec)

/-- 'laws.FnWays', WHERE WHAT IT READS IS OF BULK AT MOST 1048576: true; the input reads as it did. -/
def fnWaysUptoRow : OpenClaim := { program := "ytogmoljaiapolaa", sum := "7f090a2f0d6c4e0382cd4e75bc44d0145c49673792b7ef2d0eaf7156f90e8c28", func := "loop.example/closingsticks/laws.FnWays", spec := "fnWays", inPlace := ["(*sync.WaitGroup).Add", "internal/race.ReleaseMerge", "internal/race.Disable", "internal/race.Enable", "internal/synctest.IsInBubble", "internal/synctest.Associate[sync.WaitGroup]", "sync.fatal", "sync/atomic.OrUint64", "sync/atomic.AddUint64", "internal/race.Read", "sync/atomic.LoadUint64", "sync/atomic.StoreUint64", "internal/synctest.Disassociate[sync.WaitGroup]", "sync.runtime_Semrelease", "(*sync.WaitGroup).Done", "(*sync.WaitGroup).Wait", "internal/race.Acquire", "internal/synctest.IsAssociated[sync.WaitGroup]", "sync/atomic.CompareAndSwapUint64", "internal/race.Write", "sync.runtime_SemacquireWaitGroup"], unfollowed := true, recurses := true, leaving := true, apart := false, narrowed := true }
def FnWaysUptoSaid : Prop := fnWaysUptoRow.holds Try.pinned (OpenSpec.upto fnWaysSpec)

/-- 'laws.FnSpan', WHERE WHAT IT READS IS OF BULK AT MOST 1048576: true; the input reads as it did. -/
def fnSpanUptoRow : OpenClaim := { program := "ytogmoljaiapolaa", sum := "7f090a2f0d6c4e0382cd4e75bc44d0145c49673792b7ef2d0eaf7156f90e8c28", func := "loop.example/closingsticks/laws.FnSpan", spec := "fnSpan", inPlace := ["(*sync.WaitGroup).Add", "internal/race.ReleaseMerge", "internal/race.Disable", "internal/race.Enable", "internal/synctest.IsInBubble", "internal/synctest.Associate[sync.WaitGroup]", "sync.fatal", "sync/atomic.OrUint64", "sync/atomic.AddUint64", "internal/race.Read", "sync/atomic.LoadUint64", "sync/atomic.StoreUint64", "internal/synctest.Disassociate[sync.WaitGroup]", "sync.runtime_Semrelease", "(*sync.WaitGroup).Done", "(*sync.WaitGroup).Wait", "internal/race.Acquire", "internal/synctest.IsAssociated[sync.WaitGroup]", "sync/atomic.CompareAndSwapUint64", "internal/race.Write", "sync.runtime_SemacquireWaitGroup"], unfollowed := true, recurses := true, leaving := true, apart := false, narrowed := true }
def FnSpanUptoSaid : Prop := fnSpanUptoRow.holds Try.pinned (OpenSpec.upto fnSpanSpec)

/-- 'laws.FnFits', WHERE WHAT IT READS IS OF BULK AT MOST 1048576: true; the input reads as it did. -/
def fnFitsUptoRow : OpenClaim := { program := "ytogmoljaiapolaa", sum := "7f090a2f0d6c4e0382cd4e75bc44d0145c49673792b7ef2d0eaf7156f90e8c28", func := "loop.example/closingsticks/laws.FnFits", spec := "fnFits", inPlace := ["(*sync.WaitGroup).Add", "internal/race.ReleaseMerge", "internal/race.Disable", "internal/race.Enable", "internal/synctest.IsInBubble", "internal/synctest.Associate[sync.WaitGroup]", "sync.fatal", "sync/atomic.OrUint64", "sync/atomic.AddUint64", "internal/race.Read", "sync/atomic.LoadUint64", "sync/atomic.StoreUint64", "internal/synctest.Disassociate[sync.WaitGroup]", "sync.runtime_Semrelease", "(*sync.WaitGroup).Done", "(*sync.WaitGroup).Wait", "internal/race.Acquire", "internal/synctest.IsAssociated[sync.WaitGroup]", "sync/atomic.CompareAndSwapUint64", "internal/race.Write", "sync.runtime_SemacquireWaitGroup"], unfollowed := true, recurses := true, leaving := true, apart := false, narrowed := true }
def FnFitsUptoSaid : Prop := fnFitsUptoRow.holds Try.pinned (OpenSpec.upto fnFitsSpec)

/-- 'laws.FnCase', WHERE WHAT IT READS IS OF BULK AT MOST 1048576: true; the input reads as it did. -/
def fnCaseUptoRow : OpenClaim := { program := "ytogmoljaiapolaa", sum := "7f090a2f0d6c4e0382cd4e75bc44d0145c49673792b7ef2d0eaf7156f90e8c28", func := "loop.example/closingsticks/laws.FnCase", spec := "fnCase", recurses := true, apart := false, narrowed := true }
def FnCaseUptoSaid : Prop := fnCaseUptoRow.holds Try.pinned (OpenSpec.upto fnCaseSpec)

/-- 'laws.FnGreedy', WHERE WHAT IT READS IS OF BULK AT MOST 1048576: true; the input reads as it did. -/
def fnGreedyUptoRow : OpenClaim := { program := "ytogmoljaiapolaa", sum := "7f090a2f0d6c4e0382cd4e75bc44d0145c49673792b7ef2d0eaf7156f90e8c28", func := "loop.example/closingsticks/laws.FnGreedy", spec := "fnGreedy", inPlace := ["(*sync.WaitGroup).Add", "internal/race.ReleaseMerge", "internal/race.Disable", "internal/race.Enable", "internal/synctest.IsInBubble", "internal/synctest.Associate[sync.WaitGroup]", "sync.fatal", "sync/atomic.OrUint64", "sync/atomic.AddUint64", "internal/race.Read", "sync/atomic.LoadUint64", "sync/atomic.StoreUint64", "internal/synctest.Disassociate[sync.WaitGroup]", "sync.runtime_Semrelease", "(*sync.WaitGroup).Done", "(*sync.WaitGroup).Wait", "internal/race.Acquire", "internal/synctest.IsAssociated[sync.WaitGroup]", "sync/atomic.CompareAndSwapUint64", "internal/race.Write", "sync.runtime_SemacquireWaitGroup"], unfollowed := true, recurses := true, leaving := true, apart := false, narrowed := true }
def FnGreedyUptoSaid : Prop := fnGreedyUptoRow.holds Try.pinned (OpenSpec.upto fnGreedySpec)

/-- 'laws.FnFoldBack', WHERE WHAT IT READS IS OF BULK AT MOST 1048576: true; the input reads as it did. -/
def fnFoldBackUptoRow : OpenClaim := { program := "ytogmoljaiapolaa", sum := "7f090a2f0d6c4e0382cd4e75bc44d0145c49673792b7ef2d0eaf7156f90e8c28", func := "loop.example/closingsticks/laws.FnFoldBack", spec := "fnFoldBack", inPlace := ["(*sync.WaitGroup).Add", "internal/race.ReleaseMerge", "internal/race.Disable", "internal/race.Enable", "internal/synctest.IsInBubble", "internal/synctest.Associate[sync.WaitGroup]", "sync.fatal", "sync/atomic.OrUint64", "sync/atomic.AddUint64", "internal/race.Read", "sync/atomic.LoadUint64", "sync/atomic.StoreUint64", "internal/synctest.Disassociate[sync.WaitGroup]", "sync.runtime_Semrelease", "(*sync.WaitGroup).Done", "(*sync.WaitGroup).Wait", "internal/race.Acquire", "internal/synctest.IsAssociated[sync.WaitGroup]", "sync/atomic.CompareAndSwapUint64", "internal/race.Write", "sync.runtime_SemacquireWaitGroup"], unfollowed := true, recurses := true, leaving := true, apart := false, narrowed := true }
def FnFoldBackUptoSaid : Prop := fnFoldBackUptoRow.holds Try.pinned (OpenSpec.upto fnFoldBackSpec)

/-- 'laws.FnExactFoldEnds', WHERE WHAT IT READS IS OF BULK AT MOST 1048576: true; the input reads as it did. -/
def fnExactFoldEndsUptoRow : OpenClaim := { program := "ytogmoljaiapolaa", sum := "7f090a2f0d6c4e0382cd4e75bc44d0145c49673792b7ef2d0eaf7156f90e8c28", func := "loop.example/closingsticks/laws.FnExactFoldEnds", spec := "fnExactFoldEnds", inPlace := ["(*sync.WaitGroup).Add", "internal/race.ReleaseMerge", "internal/race.Disable", "internal/race.Enable", "internal/synctest.IsInBubble", "internal/synctest.Associate[sync.WaitGroup]", "sync.fatal", "sync/atomic.OrUint64", "sync/atomic.AddUint64", "internal/race.Read", "sync/atomic.LoadUint64", "sync/atomic.StoreUint64", "internal/synctest.Disassociate[sync.WaitGroup]", "sync.runtime_Semrelease", "(*sync.WaitGroup).Done", "(*sync.WaitGroup).Wait", "internal/race.Acquire", "internal/synctest.IsAssociated[sync.WaitGroup]", "sync/atomic.CompareAndSwapUint64", "internal/race.Write", "sync.runtime_SemacquireWaitGroup"], unfollowed := true, recurses := true, leaving := true, apart := false, narrowed := true }
def FnExactFoldEndsUptoSaid : Prop := fnExactFoldEndsUptoRow.holds Try.pinned (OpenSpec.upto fnExactFoldEndsSpec)

/-- 'laws.FnExactFoldNear', WHERE WHAT IT READS IS OF BULK AT MOST 1048576: true; the input reads as it did. -/
def fnExactFoldNearUptoRow : OpenClaim := { program := "ytogmoljaiapolaa", sum := "7f090a2f0d6c4e0382cd4e75bc44d0145c49673792b7ef2d0eaf7156f90e8c28", func := "loop.example/closingsticks/laws.FnExactFoldNear", spec := "fnExactFoldNear", inPlace := ["(*sync.WaitGroup).Add", "internal/race.ReleaseMerge", "internal/race.Disable", "internal/race.Enable", "internal/synctest.IsInBubble", "internal/synctest.Associate[sync.WaitGroup]", "sync.fatal", "sync/atomic.OrUint64", "sync/atomic.AddUint64", "internal/race.Read", "sync/atomic.LoadUint64", "sync/atomic.StoreUint64", "internal/synctest.Disassociate[sync.WaitGroup]", "sync.runtime_Semrelease", "(*sync.WaitGroup).Done", "(*sync.WaitGroup).Wait", "internal/race.Acquire", "internal/synctest.IsAssociated[sync.WaitGroup]", "sync/atomic.CompareAndSwapUint64", "internal/race.Write", "sync.runtime_SemacquireWaitGroup"], unfollowed := true, recurses := true, leaving := true, apart := false, narrowed := true }
def FnExactFoldNearUptoSaid : Prop := fnExactFoldNearUptoRow.holds Try.pinned (OpenSpec.upto fnExactFoldNearSpec)

/-- 'laws.FnExactFoldWays', WHERE WHAT IT READS IS OF BULK AT MOST 1048576: true; the input reads as it did. -/
def fnExactFoldWaysUptoRow : OpenClaim := { program := "ytogmoljaiapolaa", sum := "7f090a2f0d6c4e0382cd4e75bc44d0145c49673792b7ef2d0eaf7156f90e8c28", func := "loop.example/closingsticks/laws.FnExactFoldWays", spec := "fnExactFoldWays", inPlace := ["(*sync.WaitGroup).Add", "internal/race.ReleaseMerge", "internal/race.Disable", "internal/race.Enable", "internal/synctest.IsInBubble", "internal/synctest.Associate[sync.WaitGroup]", "sync.fatal", "sync/atomic.OrUint64", "sync/atomic.AddUint64", "internal/race.Read", "sync/atomic.LoadUint64", "sync/atomic.StoreUint64", "internal/synctest.Disassociate[sync.WaitGroup]", "sync.runtime_Semrelease", "(*sync.WaitGroup).Done", "(*sync.WaitGroup).Wait", "internal/race.Acquire", "internal/synctest.IsAssociated[sync.WaitGroup]", "sync/atomic.CompareAndSwapUint64", "internal/race.Write", "sync.runtime_SemacquireWaitGroup"], unfollowed := true, recurses := true, leaving := true, apart := false, narrowed := true }
def FnExactFoldWaysUptoSaid : Prop := fnExactFoldWaysUptoRow.holds Try.pinned (OpenSpec.upto fnExactFoldWaysSpec)

/-- 'laws.FnExactFoldSpan', WHERE WHAT IT READS IS OF BULK AT MOST 1048576: true; the input reads as it did. -/
def fnExactFoldSpanUptoRow : OpenClaim := { program := "ytogmoljaiapolaa", sum := "7f090a2f0d6c4e0382cd4e75bc44d0145c49673792b7ef2d0eaf7156f90e8c28", func := "loop.example/closingsticks/laws.FnExactFoldSpan", spec := "fnExactFoldSpan", inPlace := ["(*sync.WaitGroup).Add", "internal/race.ReleaseMerge", "internal/race.Disable", "internal/race.Enable", "internal/synctest.IsInBubble", "internal/synctest.Associate[sync.WaitGroup]", "sync.fatal", "sync/atomic.OrUint64", "sync/atomic.AddUint64", "internal/race.Read", "sync/atomic.LoadUint64", "sync/atomic.StoreUint64", "internal/synctest.Disassociate[sync.WaitGroup]", "sync.runtime_Semrelease", "(*sync.WaitGroup).Done", "(*sync.WaitGroup).Wait", "internal/race.Acquire", "internal/synctest.IsAssociated[sync.WaitGroup]", "sync/atomic.CompareAndSwapUint64", "internal/race.Write", "sync.runtime_SemacquireWaitGroup"], unfollowed := true, recurses := true, leaving := true, apart := false, narrowed := true }
def FnExactFoldSpanUptoSaid : Prop := fnExactFoldSpanUptoRow.holds Try.pinned (OpenSpec.upto fnExactFoldSpanSpec)

/-- 'laws.FnExactFoldFits', WHERE WHAT IT READS IS OF BULK AT MOST 1048576: true; the input reads as it did. -/
def fnExactFoldFitsUptoRow : OpenClaim := { program := "ytogmoljaiapolaa", sum := "7f090a2f0d6c4e0382cd4e75bc44d0145c49673792b7ef2d0eaf7156f90e8c28", func := "loop.example/closingsticks/laws.FnExactFoldFits", spec := "fnExactFoldFits", recurses := true, apart := false, narrowed := true }
def FnExactFoldFitsUptoSaid : Prop := fnExactFoldFitsUptoRow.holds Try.pinned (OpenSpec.upto fnExactFoldFitsSpec)

/-- 'laws.FnExactFoldCase', WHERE WHAT IT READS IS OF BULK AT MOST 1048576: true; the input reads as it did. -/
def fnExactFoldCaseUptoRow : OpenClaim := { program := "ytogmoljaiapolaa", sum := "7f090a2f0d6c4e0382cd4e75bc44d0145c49673792b7ef2d0eaf7156f90e8c28", func := "loop.example/closingsticks/laws.FnExactFoldCase", spec := "fnExactFoldCase", recurses := true, apart := false, narrowed := true }
def FnExactFoldCaseUptoSaid : Prop := fnExactFoldCaseUptoRow.holds Try.pinned (OpenSpec.upto fnExactFoldCaseSpec)

/-- 'laws.FnExactFoldGreedy', WHERE WHAT IT READS IS OF BULK AT MOST 1048576: true; the input reads as it did. -/
def fnExactFoldGreedyUptoRow : OpenClaim := { program := "ytogmoljaiapolaa", sum := "7f090a2f0d6c4e0382cd4e75bc44d0145c49673792b7ef2d0eaf7156f90e8c28", func := "loop.example/closingsticks/laws.FnExactFoldGreedy", spec := "fnExactFoldGreedy", recurses := true, apart := false, narrowed := true }
def FnExactFoldGreedyUptoSaid : Prop := fnExactFoldGreedyUptoRow.holds Try.pinned (OpenSpec.upto fnExactFoldGreedySpec)

/-- 'laws.FnExactFoldBest', WHERE WHAT IT READS IS OF BULK AT MOST 1048576: true; the input reads as it did. -/
def fnExactFoldBestUptoRow : OpenClaim := { program := "ytogmoljaiapolaa", sum := "7f090a2f0d6c4e0382cd4e75bc44d0145c49673792b7ef2d0eaf7156f90e8c28", func := "loop.example/closingsticks/laws.FnExactFoldBest", spec := "fnExactFoldBest", inPlace := ["(*sync.WaitGroup).Add", "internal/race.ReleaseMerge", "internal/race.Disable", "internal/race.Enable", "internal/synctest.IsInBubble", "internal/synctest.Associate[sync.WaitGroup]", "sync.fatal", "sync/atomic.OrUint64", "sync/atomic.AddUint64", "internal/race.Read", "sync/atomic.LoadUint64", "sync/atomic.StoreUint64", "internal/synctest.Disassociate[sync.WaitGroup]", "sync.runtime_Semrelease", "(*sync.WaitGroup).Done", "(*sync.WaitGroup).Wait", "internal/race.Acquire", "internal/synctest.IsAssociated[sync.WaitGroup]", "sync/atomic.CompareAndSwapUint64", "internal/race.Write", "sync.runtime_SemacquireWaitGroup"], unfollowed := true, recurses := true, leaving := true, apart := false, narrowed := true }
def FnExactFoldBestUptoSaid : Prop := fnExactFoldBestUptoRow.holds Try.pinned (OpenSpec.upto fnExactFoldBestSpec)

/-- 'laws.FnExactFoldBack', WHERE WHAT IT READS IS OF BULK AT MOST 1048576: true; the input reads as it did. -/
def fnExactFoldBackUptoRow : OpenClaim := { program := "ytogmoljaiapolaa", sum := "7f090a2f0d6c4e0382cd4e75bc44d0145c49673792b7ef2d0eaf7156f90e8c28", func := "loop.example/closingsticks/laws.FnExactFoldBack", spec := "fnExactFoldBack", recurses := true, apart := false, narrowed := true }
def FnExactFoldBackUptoSaid : Prop := fnExactFoldBackUptoRow.holds Try.pinned (OpenSpec.upto fnExactFoldBackSpec)

end Rows
end Go.Proofs.Ytogmoljaiapolaa
