/-
  No cell of these rows narrows 'for every input' (looked for: loops, veiled, ifaces, maps, wideKeys, modest, calm, conditions, laid).
  DERIVED. THE GIVEN ROWS OF THIS SEAT. 23 by the template 'for every input the law returns true; each argument reads behind the call as it read before'; 0 by the template 'total and deterministic' (their statements: YtgnlefdecjpmeaaTotals.lean).
  GIVEN WITH THE SEED: the statements are not yours to turn. If you find one false, say at which input.
  Laid BY PROGRAM, IN A SANDBOX (cutbox-rows.mjs): the forced cells as the released guide's own fill.sh prints them over the translation c389dc0b4b5bc62b… (all of the seat's roots in one cut). By AI agents, Wed Nov 11 2026. No macro, syntax, notation, axiom, sorry.
-/
import Derived.Test.YtgnlefdecjpmeaaChecked
import GoSem.Claim
import GoSem.ClaimJoined
import GoSem.ClaimMapViews
import Derived.JoinedTies
import Derived.KernelRfl
namespace Go.Proofs.Ytgnlefdecjpmeaa
/- THE CELL 'sum', in the pinned program and in every row, IS THE sha256 OF THE DUMP (.gsa) THAT YtgnlefdecjpmeaaProg.lean LOADS. Nothing in Lean hashes anything: it is a label: what it is worth is what the hold of that sum in a sandbox is worth. -/
noncomputable def Try.pinned : Pinned := { name := "ytgnlefdecjpmeaa", sum := "c389dc0b4b5bc62b2325271bde3e84e8855a0c4d4c16519ad475d777ec1b7aa1", checked := Try.checked }
namespace Rows
def none {H : Type} : Left H := { results := [], args := [] }

/-- 'laws.FnBundle': WHATEVER THE INPUT: true; the input reads as it did. -/
def fnBundleSpec : ChangeSpec := { name := "fnBundle", fn := fun _ => fun
  | [d] => { results := [.lit (.bool true)], args := [d] }
  | _ => none }
def fnBundleRow : OpenClaim := { program := "ytgnlefdecjpmeaa", sum := "c389dc0b4b5bc62b2325271bde3e84e8855a0c4d4c16519ad475d777ec1b7aa1", func := "loop.example/closingsticks/laws.FnBundle", spec := "fnBundle", recurses := true, apart := false }
def FnBundleSaid : Prop := fnBundleRow.holds Try.pinned (OpenSpec.ofChange fnBundleSpec)

/-- ITS FALSE NEIGHBOUR: 'it returns false'. Refute it at one input. -/
def fnBundleWrong : ChangeSpec := { name := "fnBundle", fn := fun _ => fun
  | [d] => { results := [.lit (.bool false)], args := [d] }
  | _ => none }
def FnBundleWrongFalsely : Prop := fnBundleRow.holds Try.pinned (OpenSpec.ofChange fnBundleWrong)

/-- 'laws.FnSort': WHATEVER THE INPUT: true; the input reads as it did. -/
def fnSortSpec : ChangeSpec := { name := "fnSort", fn := fun _ => fun
  | [d] => { results := [.lit (.bool true)], args := [d] }
  | _ => none }
def fnSortRow : OpenClaim := { program := "ytgnlefdecjpmeaa", sum := "c389dc0b4b5bc62b2325271bde3e84e8855a0c4d4c16519ad475d777ec1b7aa1", func := "loop.example/closingsticks/laws.FnSort", spec := "fnSort", recurses := true, apart := false }
def FnSortSaid : Prop := fnSortRow.holds Try.pinned (OpenSpec.ofChange fnSortSpec)

/-- ITS FALSE NEIGHBOUR: 'it returns false'. Refute it at one input. -/
def fnSortWrong : ChangeSpec := { name := "fnSort", fn := fun _ => fun
  | [d] => { results := [.lit (.bool false)], args := [d] }
  | _ => none }
def FnSortWrongFalsely : Prop := fnSortRow.holds Try.pinned (OpenSpec.ofChange fnSortWrong)

/-- 'laws.FnThree': WHATEVER THE INPUT: true; the input reads as it did. -/
def fnThreeSpec : ChangeSpec := { name := "fnThree", fn := fun _ => fun
  | [d] => { results := [.lit (.bool true)], args := [d] }
  | _ => none }
def fnThreeRow : OpenClaim := { program := "ytgnlefdecjpmeaa", sum := "c389dc0b4b5bc62b2325271bde3e84e8855a0c4d4c16519ad475d777ec1b7aa1", func := "loop.example/closingsticks/laws.FnThree", spec := "fnThree", apart := false }
def FnThreeSaid : Prop := fnThreeRow.holds Try.pinned (OpenSpec.ofChange fnThreeSpec)

/-- ITS FALSE NEIGHBOUR: 'it returns false'. Refute it at one input. -/
def fnThreeWrong : ChangeSpec := { name := "fnThree", fn := fun _ => fun
  | [d] => { results := [.lit (.bool false)], args := [d] }
  | _ => none }
def FnThreeWrongFalsely : Prop := fnThreeRow.holds Try.pinned (OpenSpec.ofChange fnThreeWrong)

/-- 'laws.FnMany': WHATEVER THE INPUT: true; the input reads as it did. -/
def fnManySpec : ChangeSpec := { name := "fnMany", fn := fun _ => fun
  | [d] => { results := [.lit (.bool true)], args := [d] }
  | _ => none }
def fnManyRow : OpenClaim := { program := "ytgnlefdecjpmeaa", sum := "c389dc0b4b5bc62b2325271bde3e84e8855a0c4d4c16519ad475d777ec1b7aa1", func := "loop.example/closingsticks/laws.FnMany", spec := "fnMany", unfollowed := true, recurses := true, apart := false }
def FnManySaid : Prop := fnManyRow.holds Try.pinned (OpenSpec.ofChange fnManySpec)

/-- ITS FALSE NEIGHBOUR: 'it returns false'. Refute it at one input. -/
def fnManyWrong : ChangeSpec := { name := "fnMany", fn := fun _ => fun
  | [d] => { results := [.lit (.bool false)], args := [d] }
  | _ => none }
def FnManyWrongFalsely : Prop := fnManyRow.holds Try.pinned (OpenSpec.ofChange fnManyWrong)

/-- 'laws.FnWidest': WHATEVER THE INPUT: true; the input reads as it did. -/
def fnWidestSpec : ChangeSpec := { name := "fnWidest", fn := fun _ => fun
  | [d] => { results := [.lit (.bool true)], args := [d] }
  | _ => none }
def fnWidestRow : OpenClaim := { program := "ytgnlefdecjpmeaa", sum := "c389dc0b4b5bc62b2325271bde3e84e8855a0c4d4c16519ad475d777ec1b7aa1", func := "loop.example/closingsticks/laws.FnWidest", spec := "fnWidest", unfollowed := true, recurses := true, apart := false }
def FnWidestSaid : Prop := fnWidestRow.holds Try.pinned (OpenSpec.ofChange fnWidestSpec)

/-- ITS FALSE NEIGHBOUR: 'it returns false'. Refute it at one input. -/
def fnWidestWrong : ChangeSpec := { name := "fnWidest", fn := fun _ => fun
  | [d] => { results := [.lit (.bool false)], args := [d] }
  | _ => none }
def FnWidestWrongFalsely : Prop := fnWidestRow.holds Try.pinned (OpenSpec.ofChange fnWidestWrong)

/-- 'laws.FnFree': WHATEVER THE INPUT: true; the input reads as it did. -/
def fnFreeSpec : ChangeSpec := { name := "fnFree", fn := fun _ => fun
  | [d] => { results := [.lit (.bool true)], args := [d] }
  | _ => none }
def fnFreeRow : OpenClaim := { program := "ytgnlefdecjpmeaa", sum := "c389dc0b4b5bc62b2325271bde3e84e8855a0c4d4c16519ad475d777ec1b7aa1", func := "loop.example/closingsticks/laws.FnFree", spec := "fnFree", unfollowed := true, recurses := true, apart := false }
def FnFreeSaid : Prop := fnFreeRow.holds Try.pinned (OpenSpec.ofChange fnFreeSpec)

/-- ITS FALSE NEIGHBOUR: 'it returns false'. Refute it at one input. -/
def fnFreeWrong : ChangeSpec := { name := "fnFree", fn := fun _ => fun
  | [d] => { results := [.lit (.bool false)], args := [d] }
  | _ => none }
def FnFreeWrongFalsely : Prop := fnFreeRow.holds Try.pinned (OpenSpec.ofChange fnFreeWrong)

/-- 'laws.FnFreeOr': WHATEVER THE INPUT: true; the input reads as it did. -/
def fnFreeOrSpec : ChangeSpec := { name := "fnFreeOr", fn := fun _ => fun
  | [d] => { results := [.lit (.bool true)], args := [d] }
  | _ => none }
def fnFreeOrRow : OpenClaim := { program := "ytgnlefdecjpmeaa", sum := "c389dc0b4b5bc62b2325271bde3e84e8855a0c4d4c16519ad475d777ec1b7aa1", func := "loop.example/closingsticks/laws.FnFreeOr", spec := "fnFreeOr", unfollowed := true, recurses := true, apart := false }
def FnFreeOrSaid : Prop := fnFreeOrRow.holds Try.pinned (OpenSpec.ofChange fnFreeOrSpec)

/-- ITS FALSE NEIGHBOUR: 'it returns false'. Refute it at one input. -/
def fnFreeOrWrong : ChangeSpec := { name := "fnFreeOr", fn := fun _ => fun
  | [d] => { results := [.lit (.bool false)], args := [d] }
  | _ => none }
def FnFreeOrWrongFalsely : Prop := fnFreeOrRow.holds Try.pinned (OpenSpec.ofChange fnFreeOrWrong)

/-- 'laws.FnLongFree': WHATEVER THE INPUT: true; the input reads as it did. -/
def fnLongFreeSpec : ChangeSpec := { name := "fnLongFree", fn := fun _ => fun
  | [d] => { results := [.lit (.bool true)], args := [d] }
  | _ => none }
def fnLongFreeRow : OpenClaim := { program := "ytgnlefdecjpmeaa", sum := "c389dc0b4b5bc62b2325271bde3e84e8855a0c4d4c16519ad475d777ec1b7aa1", func := "loop.example/closingsticks/laws.FnLongFree", spec := "fnLongFree", unfollowed := true, recurses := true, apart := false }
def FnLongFreeSaid : Prop := fnLongFreeRow.holds Try.pinned (OpenSpec.ofChange fnLongFreeSpec)

/-- ITS FALSE NEIGHBOUR: 'it returns false'. Refute it at one input. -/
def fnLongFreeWrong : ChangeSpec := { name := "fnLongFree", fn := fun _ => fun
  | [d] => { results := [.lit (.bool false)], args := [d] }
  | _ => none }
def FnLongFreeWrongFalsely : Prop := fnLongFreeRow.holds Try.pinned (OpenSpec.ofChange fnLongFreeWrong)

/-- 'laws.FnTryFree': WHATEVER THE INPUT: true; the input reads as it did. -/
def fnTryFreeSpec : ChangeSpec := { name := "fnTryFree", fn := fun _ => fun
  | [d] => { results := [.lit (.bool true)], args := [d] }
  | _ => none }
def fnTryFreeRow : OpenClaim := { program := "ytgnlefdecjpmeaa", sum := "c389dc0b4b5bc62b2325271bde3e84e8855a0c4d4c16519ad475d777ec1b7aa1", func := "loop.example/closingsticks/laws.FnTryFree", spec := "fnTryFree", unfollowed := true, recurses := true, apart := false }
def FnTryFreeSaid : Prop := fnTryFreeRow.holds Try.pinned (OpenSpec.ofChange fnTryFreeSpec)

/-- ITS FALSE NEIGHBOUR: 'it returns false'. Refute it at one input. -/
def fnTryFreeWrong : ChangeSpec := { name := "fnTryFree", fn := fun _ => fun
  | [d] => { results := [.lit (.bool false)], args := [d] }
  | _ => none }
def FnTryFreeWrongFalsely : Prop := fnTryFreeRow.holds Try.pinned (OpenSpec.ofChange fnTryFreeWrong)

/-- 'laws.FnPut': WHATEVER THE INPUT: true; the input reads as it did. -/
def fnPutSpec : ChangeSpec := { name := "fnPut", fn := fun _ => fun
  | [d] => { results := [.lit (.bool true)], args := [d] }
  | _ => none }
def fnPutRow : OpenClaim := { program := "ytgnlefdecjpmeaa", sum := "c389dc0b4b5bc62b2325271bde3e84e8855a0c4d4c16519ad475d777ec1b7aa1", func := "loop.example/closingsticks/laws.FnPut", spec := "fnPut", unfollowed := true, recurses := true, apart := false }
def FnPutSaid : Prop := fnPutRow.holds Try.pinned (OpenSpec.ofChange fnPutSpec)

/-- ITS FALSE NEIGHBOUR: 'it returns false'. Refute it at one input. -/
def fnPutWrong : ChangeSpec := { name := "fnPut", fn := fun _ => fun
  | [d] => { results := [.lit (.bool false)], args := [d] }
  | _ => none }
def FnPutWrongFalsely : Prop := fnPutRow.holds Try.pinned (OpenSpec.ofChange fnPutWrong)

/-- 'laws.FnDrop': WHATEVER THE INPUT: true; the input reads as it did. -/
def fnDropSpec : ChangeSpec := { name := "fnDrop", fn := fun _ => fun
  | [d] => { results := [.lit (.bool true)], args := [d] }
  | _ => none }
def fnDropRow : OpenClaim := { program := "ytgnlefdecjpmeaa", sum := "c389dc0b4b5bc62b2325271bde3e84e8855a0c4d4c16519ad475d777ec1b7aa1", func := "loop.example/closingsticks/laws.FnDrop", spec := "fnDrop", recurses := true, apart := false }
def FnDropSaid : Prop := fnDropRow.holds Try.pinned (OpenSpec.ofChange fnDropSpec)

/-- ITS FALSE NEIGHBOUR: 'it returns false'. Refute it at one input. -/
def fnDropWrong : ChangeSpec := { name := "fnDrop", fn := fun _ => fun
  | [d] => { results := [.lit (.bool false)], args := [d] }
  | _ => none }
def FnDropWrongFalsely : Prop := fnDropRow.holds Try.pinned (OpenSpec.ofChange fnDropWrong)

/-- 'laws.FnSum': WHATEVER THE INPUT: true; the input reads as it did. -/
def fnSumSpec : ChangeSpec := { name := "fnSum", fn := fun _ => fun
  | [d] => { results := [.lit (.bool true)], args := [d] }
  | _ => none }
def fnSumRow : OpenClaim := { program := "ytgnlefdecjpmeaa", sum := "c389dc0b4b5bc62b2325271bde3e84e8855a0c4d4c16519ad475d777ec1b7aa1", func := "loop.example/closingsticks/laws.FnSum", spec := "fnSum", apart := false }
def FnSumSaid : Prop := fnSumRow.holds Try.pinned (OpenSpec.ofChange fnSumSpec)

/-- ITS FALSE NEIGHBOUR: 'it returns false'. Refute it at one input. -/
def fnSumWrong : ChangeSpec := { name := "fnSum", fn := fun _ => fun
  | [d] => { results := [.lit (.bool false)], args := [d] }
  | _ => none }
def FnSumWrongFalsely : Prop := fnSumRow.holds Try.pinned (OpenSpec.ofChange fnSumWrong)

/-- 'laws.FnExactStickIn': WHATEVER THE INPUT: true; the input reads as it did. -/
def fnExactStickInSpec : ChangeSpec := { name := "fnExactStickIn", fn := fun _ => fun
  | [d] => { results := [.lit (.bool true)], args := [d] }
  | _ => none }
def fnExactStickInRow : OpenClaim := { program := "ytgnlefdecjpmeaa", sum := "c389dc0b4b5bc62b2325271bde3e84e8855a0c4d4c16519ad475d777ec1b7aa1", func := "loop.example/closingsticks/laws.FnExactStickIn", spec := "fnExactStickIn", apart := false }
def FnExactStickInSaid : Prop := fnExactStickInRow.holds Try.pinned (OpenSpec.ofChange fnExactStickInSpec)

/-- ITS FALSE NEIGHBOUR: 'it returns false'. Refute it at one input. -/
def fnExactStickInWrong : ChangeSpec := { name := "fnExactStickIn", fn := fun _ => fun
  | [d] => { results := [.lit (.bool false)], args := [d] }
  | _ => none }
def FnExactStickInWrongFalsely : Prop := fnExactStickInRow.holds Try.pinned (OpenSpec.ofChange fnExactStickInWrong)

/-- 'laws.FnExactStickSort': WHATEVER THE INPUT: true; the input reads as it did. -/
def fnExactStickSortSpec : ChangeSpec := { name := "fnExactStickSort", fn := fun _ => fun
  | [d] => { results := [.lit (.bool true)], args := [d] }
  | _ => none }
def fnExactStickSortRow : OpenClaim := { program := "ytgnlefdecjpmeaa", sum := "c389dc0b4b5bc62b2325271bde3e84e8855a0c4d4c16519ad475d777ec1b7aa1", func := "loop.example/closingsticks/laws.FnExactStickSort", spec := "fnExactStickSort", recurses := true, apart := false }
def FnExactStickSortSaid : Prop := fnExactStickSortRow.holds Try.pinned (OpenSpec.ofChange fnExactStickSortSpec)

/-- ITS FALSE NEIGHBOUR: 'it returns false'. Refute it at one input. -/
def fnExactStickSortWrong : ChangeSpec := { name := "fnExactStickSort", fn := fun _ => fun
  | [d] => { results := [.lit (.bool false)], args := [d] }
  | _ => none }
def FnExactStickSortWrongFalsely : Prop := fnExactStickSortRow.holds Try.pinned (OpenSpec.ofChange fnExactStickSortWrong)

/-- 'laws.FnExactStickThree': WHATEVER THE INPUT: true; the input reads as it did. -/
def fnExactStickThreeSpec : ChangeSpec := { name := "fnExactStickThree", fn := fun _ => fun
  | [d1, d2, d3] => { results := [.lit (.bool true)], args := [d1, d2, d3] }
  | _ => none }
def fnExactStickThreeRow : OpenClaim := { program := "ytgnlefdecjpmeaa", sum := "c389dc0b4b5bc62b2325271bde3e84e8855a0c4d4c16519ad475d777ec1b7aa1", func := "loop.example/closingsticks/laws.FnExactStickThree", spec := "fnExactStickThree", apart := false }
def FnExactStickThreeSaid : Prop := fnExactStickThreeRow.holds Try.pinned (OpenSpec.ofChange fnExactStickThreeSpec)

/-- ITS FALSE NEIGHBOUR: 'it returns false'. Refute it at one input. -/
def fnExactStickThreeWrong : ChangeSpec := { name := "fnExactStickThree", fn := fun _ => fun
  | [d1, d2, d3] => { results := [.lit (.bool false)], args := [d1, d2, d3] }
  | _ => none }
def FnExactStickThreeWrongFalsely : Prop := fnExactStickThreeRow.holds Try.pinned (OpenSpec.ofChange fnExactStickThreeWrong)

/-- 'laws.FnExactStickMany': WHATEVER THE INPUT: true; the input reads as it did. -/
def fnExactStickManySpec : ChangeSpec := { name := "fnExactStickMany", fn := fun _ => fun
  | [d] => { results := [.lit (.bool true)], args := [d] }
  | _ => none }
def fnExactStickManyRow : OpenClaim := { program := "ytgnlefdecjpmeaa", sum := "c389dc0b4b5bc62b2325271bde3e84e8855a0c4d4c16519ad475d777ec1b7aa1", func := "loop.example/closingsticks/laws.FnExactStickMany", spec := "fnExactStickMany", unfollowed := true, recurses := true, apart := false }
def FnExactStickManySaid : Prop := fnExactStickManyRow.holds Try.pinned (OpenSpec.ofChange fnExactStickManySpec)

/-- ITS FALSE NEIGHBOUR: 'it returns false'. Refute it at one input. -/
def fnExactStickManyWrong : ChangeSpec := { name := "fnExactStickMany", fn := fun _ => fun
  | [d] => { results := [.lit (.bool false)], args := [d] }
  | _ => none }
def FnExactStickManyWrongFalsely : Prop := fnExactStickManyRow.holds Try.pinned (OpenSpec.ofChange fnExactStickManyWrong)

/-- 'laws.FnExactStickWidest': WHATEVER THE INPUT: true; the input reads as it did. -/
def fnExactStickWidestSpec : ChangeSpec := { name := "fnExactStickWidest", fn := fun _ => fun
  | [d] => { results := [.lit (.bool true)], args := [d] }
  | _ => none }
def fnExactStickWidestRow : OpenClaim := { program := "ytgnlefdecjpmeaa", sum := "c389dc0b4b5bc62b2325271bde3e84e8855a0c4d4c16519ad475d777ec1b7aa1", func := "loop.example/closingsticks/laws.FnExactStickWidest", spec := "fnExactStickWidest", apart := false }
def FnExactStickWidestSaid : Prop := fnExactStickWidestRow.holds Try.pinned (OpenSpec.ofChange fnExactStickWidestSpec)

/-- ITS FALSE NEIGHBOUR: 'it returns false'. Refute it at one input. -/
def fnExactStickWidestWrong : ChangeSpec := { name := "fnExactStickWidest", fn := fun _ => fun
  | [d] => { results := [.lit (.bool false)], args := [d] }
  | _ => none }
def FnExactStickWidestWrongFalsely : Prop := fnExactStickWidestRow.holds Try.pinned (OpenSpec.ofChange fnExactStickWidestWrong)

/-- 'laws.FnExactStickFree': WHATEVER THE INPUT: true; the input reads as it did. -/
def fnExactStickFreeSpec : ChangeSpec := { name := "fnExactStickFree", fn := fun _ => fun
  | [d] => { results := [.lit (.bool true)], args := [d] }
  | _ => none }
def fnExactStickFreeRow : OpenClaim := { program := "ytgnlefdecjpmeaa", sum := "c389dc0b4b5bc62b2325271bde3e84e8855a0c4d4c16519ad475d777ec1b7aa1", func := "loop.example/closingsticks/laws.FnExactStickFree", spec := "fnExactStickFree", unfollowed := true, recurses := true, apart := false }
def FnExactStickFreeSaid : Prop := fnExactStickFreeRow.holds Try.pinned (OpenSpec.ofChange fnExactStickFreeSpec)

/-- ITS FALSE NEIGHBOUR: 'it returns false'. Refute it at one input. -/
def fnExactStickFreeWrong : ChangeSpec := { name := "fnExactStickFree", fn := fun _ => fun
  | [d] => { results := [.lit (.bool false)], args := [d] }
  | _ => none }
def FnExactStickFreeWrongFalsely : Prop := fnExactStickFreeRow.holds Try.pinned (OpenSpec.ofChange fnExactStickFreeWrong)

/-- 'laws.FnExactStickLongFree': WHATEVER THE INPUT: true; the input reads as it did. -/
def fnExactStickLongFreeSpec : ChangeSpec := { name := "fnExactStickLongFree", fn := fun _ => fun
  | [d] => { results := [.lit (.bool true)], args := [d] }
  | _ => none }
def fnExactStickLongFreeRow : OpenClaim := { program := "ytgnlefdecjpmeaa", sum := "c389dc0b4b5bc62b2325271bde3e84e8855a0c4d4c16519ad475d777ec1b7aa1", func := "loop.example/closingsticks/laws.FnExactStickLongFree", spec := "fnExactStickLongFree", apart := false }
def FnExactStickLongFreeSaid : Prop := fnExactStickLongFreeRow.holds Try.pinned (OpenSpec.ofChange fnExactStickLongFreeSpec)

/-- ITS FALSE NEIGHBOUR: 'it returns false'. Refute it at one input. -/
def fnExactStickLongFreeWrong : ChangeSpec := { name := "fnExactStickLongFree", fn := fun _ => fun
  | [d] => { results := [.lit (.bool false)], args := [d] }
  | _ => none }
def FnExactStickLongFreeWrongFalsely : Prop := fnExactStickLongFreeRow.holds Try.pinned (OpenSpec.ofChange fnExactStickLongFreeWrong)

/-- 'laws.FnExactStickTryFree': WHATEVER THE INPUT: true; the input reads as it did. -/
def fnExactStickTryFreeSpec : ChangeSpec := { name := "fnExactStickTryFree", fn := fun _ => fun
  | [d] => { results := [.lit (.bool true)], args := [d] }
  | _ => none }
def fnExactStickTryFreeRow : OpenClaim := { program := "ytgnlefdecjpmeaa", sum := "c389dc0b4b5bc62b2325271bde3e84e8855a0c4d4c16519ad475d777ec1b7aa1", func := "loop.example/closingsticks/laws.FnExactStickTryFree", spec := "fnExactStickTryFree", unfollowed := true, recurses := true, apart := false }
def FnExactStickTryFreeSaid : Prop := fnExactStickTryFreeRow.holds Try.pinned (OpenSpec.ofChange fnExactStickTryFreeSpec)

/-- ITS FALSE NEIGHBOUR: 'it returns false'. Refute it at one input. -/
def fnExactStickTryFreeWrong : ChangeSpec := { name := "fnExactStickTryFree", fn := fun _ => fun
  | [d] => { results := [.lit (.bool false)], args := [d] }
  | _ => none }
def FnExactStickTryFreeWrongFalsely : Prop := fnExactStickTryFreeRow.holds Try.pinned (OpenSpec.ofChange fnExactStickTryFreeWrong)

/-- 'laws.FnExactStickPut': WHATEVER THE INPUT: true; the input reads as it did. -/
def fnExactStickPutSpec : ChangeSpec := { name := "fnExactStickPut", fn := fun _ => fun
  | [d1, d2] => { results := [.lit (.bool true)], args := [d1, d2] }
  | _ => none }
def fnExactStickPutRow : OpenClaim := { program := "ytgnlefdecjpmeaa", sum := "c389dc0b4b5bc62b2325271bde3e84e8855a0c4d4c16519ad475d777ec1b7aa1", func := "loop.example/closingsticks/laws.FnExactStickPut", spec := "fnExactStickPut", recurses := true, apart := false }
def FnExactStickPutSaid : Prop := fnExactStickPutRow.holds Try.pinned (OpenSpec.ofChange fnExactStickPutSpec)

/-- ITS FALSE NEIGHBOUR: 'it returns false'. Refute it at one input. -/
def fnExactStickPutWrong : ChangeSpec := { name := "fnExactStickPut", fn := fun _ => fun
  | [d1, d2] => { results := [.lit (.bool false)], args := [d1, d2] }
  | _ => none }
def FnExactStickPutWrongFalsely : Prop := fnExactStickPutRow.holds Try.pinned (OpenSpec.ofChange fnExactStickPutWrong)

/-- 'laws.FnExactStickDrop': WHATEVER THE INPUT: true; the input reads as it did. -/
def fnExactStickDropSpec : ChangeSpec := { name := "fnExactStickDrop", fn := fun _ => fun
  | [d1, d2] => { results := [.lit (.bool true)], args := [d1, d2] }
  | _ => none }
def fnExactStickDropRow : OpenClaim := { program := "ytgnlefdecjpmeaa", sum := "c389dc0b4b5bc62b2325271bde3e84e8855a0c4d4c16519ad475d777ec1b7aa1", func := "loop.example/closingsticks/laws.FnExactStickDrop", spec := "fnExactStickDrop", apart := false }
def FnExactStickDropSaid : Prop := fnExactStickDropRow.holds Try.pinned (OpenSpec.ofChange fnExactStickDropSpec)

/-- ITS FALSE NEIGHBOUR: 'it returns false'. Refute it at one input. -/
def fnExactStickDropWrong : ChangeSpec := { name := "fnExactStickDrop", fn := fun _ => fun
  | [d1, d2] => { results := [.lit (.bool false)], args := [d1, d2] }
  | _ => none }
def FnExactStickDropWrongFalsely : Prop := fnExactStickDropRow.holds Try.pinned (OpenSpec.ofChange fnExactStickDropWrong)

/-- 'laws.FnExactStickSum': WHATEVER THE INPUT: true; the input reads as it did. -/
def fnExactStickSumSpec : ChangeSpec := { name := "fnExactStickSum", fn := fun _ => fun
  | [d] => { results := [.lit (.bool true)], args := [d] }
  | _ => none }
def fnExactStickSumRow : OpenClaim := { program := "ytgnlefdecjpmeaa", sum := "c389dc0b4b5bc62b2325271bde3e84e8855a0c4d4c16519ad475d777ec1b7aa1", func := "loop.example/closingsticks/laws.FnExactStickSum", spec := "fnExactStickSum", apart := false }
def FnExactStickSumSaid : Prop := fnExactStickSumRow.holds Try.pinned (OpenSpec.ofChange fnExactStickSumSpec)

/-- ITS FALSE NEIGHBOUR: 'it returns false'. Refute it at one input. -/
def fnExactStickSumWrong : ChangeSpec := { name := "fnExactStickSum", fn := fun _ => fun
  | [d] => { results := [.lit (.bool false)], args := [d] }
  | _ => none }
def FnExactStickSumWrongFalsely : Prop := fnExactStickSumRow.holds Try.pinned (OpenSpec.ofChange fnExactStickSumWrong)

/- THE SECOND FORM. 'bulk': how many values and letters a reading holds, each counted each time it is reached (what is shared counts as often as it is met; a slice's spare places count too). A statement '..UptoSaid' is the law's where the arguments, and the package variables that the reading takes, are together of bulk at most 1048576: NARROWER than '..Said'. Prove '..Said' where nothing that the law and all that it calls make is longer than what came in: it says more and counts as full. Else prove '..UptoSaid'. A law counts once. -/
mutual
def uptoBulk {H : Type} : DataW H → Nat
  | .lit (.string bytes) => bytes.length + 1
  | .lit _ => 1
  | .nil => 1
  | .ptr d => uptoBulk d + 1
  | .slice elems spare => uptoBulkAll elems + uptoBulkAll spare + 1
  | .agg parts => uptoBulkAll parts + 1
  | .iface _ d => uptoBulk d + 1
  | .map entries => uptoBulkEntries entries + 1
  | .held _ => 1
def uptoBulkAll {H : Type} : List (DataW H) → Nat
  | [] => 0
  | d :: r => uptoBulk d + uptoBulkAll r
def uptoBulkEntries {H : Type} : List (Lit × DataW H) → Nat
  | [] => 0
  | x :: r => uptoBulkEntry x + uptoBulkEntries r
def uptoBulkEntry {H : Type} : Lit × DataW H → Nat
  | (.string bytes, d) => bytes.length + uptoBulk d + 1
  | (_, d) => uptoBulk d + 1
 end
def uptoSmall : (H : Type) → List (DataW H) → Bool := fun _ ds => decide (uptoBulkAll ds ≤ 1048576)
def OpenSpec.upto (s : _root_.Go.ChangeSpec) : _root_.Go.OpenSpec := { _root_.Go.OpenSpec.ofChange s with cond := some uptoSmall }

/-- 'laws.FnBundle', WHERE WHAT IT READS IS OF BULK AT MOST 1048576: true; the input reads as it did. -/
def fnBundleUptoRow : OpenClaim := { program := "ytgnlefdecjpmeaa", sum := "c389dc0b4b5bc62b2325271bde3e84e8855a0c4d4c16519ad475d777ec1b7aa1", func := "loop.example/closingsticks/laws.FnBundle", spec := "fnBundle", recurses := true, apart := false, narrowed := true }
def FnBundleUptoSaid : Prop := fnBundleUptoRow.holds Try.pinned (OpenSpec.upto fnBundleSpec)

/-- 'laws.FnSort', WHERE WHAT IT READS IS OF BULK AT MOST 1048576: true; the input reads as it did. -/
def fnSortUptoRow : OpenClaim := { program := "ytgnlefdecjpmeaa", sum := "c389dc0b4b5bc62b2325271bde3e84e8855a0c4d4c16519ad475d777ec1b7aa1", func := "loop.example/closingsticks/laws.FnSort", spec := "fnSort", recurses := true, apart := false, narrowed := true }
def FnSortUptoSaid : Prop := fnSortUptoRow.holds Try.pinned (OpenSpec.upto fnSortSpec)

/-- 'laws.FnThree', WHERE WHAT IT READS IS OF BULK AT MOST 1048576: true; the input reads as it did. -/
def fnThreeUptoRow : OpenClaim := { program := "ytgnlefdecjpmeaa", sum := "c389dc0b4b5bc62b2325271bde3e84e8855a0c4d4c16519ad475d777ec1b7aa1", func := "loop.example/closingsticks/laws.FnThree", spec := "fnThree", apart := false, narrowed := true }
def FnThreeUptoSaid : Prop := fnThreeUptoRow.holds Try.pinned (OpenSpec.upto fnThreeSpec)

/-- 'laws.FnMany', WHERE WHAT IT READS IS OF BULK AT MOST 1048576: true; the input reads as it did. -/
def fnManyUptoRow : OpenClaim := { program := "ytgnlefdecjpmeaa", sum := "c389dc0b4b5bc62b2325271bde3e84e8855a0c4d4c16519ad475d777ec1b7aa1", func := "loop.example/closingsticks/laws.FnMany", spec := "fnMany", unfollowed := true, recurses := true, apart := false, narrowed := true }
def FnManyUptoSaid : Prop := fnManyUptoRow.holds Try.pinned (OpenSpec.upto fnManySpec)

/-- 'laws.FnWidest', WHERE WHAT IT READS IS OF BULK AT MOST 1048576: true; the input reads as it did. -/
def fnWidestUptoRow : OpenClaim := { program := "ytgnlefdecjpmeaa", sum := "c389dc0b4b5bc62b2325271bde3e84e8855a0c4d4c16519ad475d777ec1b7aa1", func := "loop.example/closingsticks/laws.FnWidest", spec := "fnWidest", unfollowed := true, recurses := true, apart := false, narrowed := true }
def FnWidestUptoSaid : Prop := fnWidestUptoRow.holds Try.pinned (OpenSpec.upto fnWidestSpec)

/-- 'laws.FnFree', WHERE WHAT IT READS IS OF BULK AT MOST 1048576: true; the input reads as it did. -/
def fnFreeUptoRow : OpenClaim := { program := "ytgnlefdecjpmeaa", sum := "c389dc0b4b5bc62b2325271bde3e84e8855a0c4d4c16519ad475d777ec1b7aa1", func := "loop.example/closingsticks/laws.FnFree", spec := "fnFree", unfollowed := true, recurses := true, apart := false, narrowed := true }
def FnFreeUptoSaid : Prop := fnFreeUptoRow.holds Try.pinned (OpenSpec.upto fnFreeSpec)

/-- 'laws.FnFreeOr', WHERE WHAT IT READS IS OF BULK AT MOST 1048576: true; the input reads as it did. -/
def fnFreeOrUptoRow : OpenClaim := { program := "ytgnlefdecjpmeaa", sum := "c389dc0b4b5bc62b2325271bde3e84e8855a0c4d4c16519ad475d777ec1b7aa1", func := "loop.example/closingsticks/laws.FnFreeOr", spec := "fnFreeOr", unfollowed := true, recurses := true, apart := false, narrowed := true }
def FnFreeOrUptoSaid : Prop := fnFreeOrUptoRow.holds Try.pinned (OpenSpec.upto fnFreeOrSpec)

/-- 'laws.FnLongFree', WHERE WHAT IT READS IS OF BULK AT MOST 1048576: true; the input reads as it did. -/
def fnLongFreeUptoRow : OpenClaim := { program := "ytgnlefdecjpmeaa", sum := "c389dc0b4b5bc62b2325271bde3e84e8855a0c4d4c16519ad475d777ec1b7aa1", func := "loop.example/closingsticks/laws.FnLongFree", spec := "fnLongFree", unfollowed := true, recurses := true, apart := false, narrowed := true }
def FnLongFreeUptoSaid : Prop := fnLongFreeUptoRow.holds Try.pinned (OpenSpec.upto fnLongFreeSpec)

/-- 'laws.FnTryFree', WHERE WHAT IT READS IS OF BULK AT MOST 1048576: true; the input reads as it did. -/
def fnTryFreeUptoRow : OpenClaim := { program := "ytgnlefdecjpmeaa", sum := "c389dc0b4b5bc62b2325271bde3e84e8855a0c4d4c16519ad475d777ec1b7aa1", func := "loop.example/closingsticks/laws.FnTryFree", spec := "fnTryFree", unfollowed := true, recurses := true, apart := false, narrowed := true }
def FnTryFreeUptoSaid : Prop := fnTryFreeUptoRow.holds Try.pinned (OpenSpec.upto fnTryFreeSpec)

/-- 'laws.FnPut', WHERE WHAT IT READS IS OF BULK AT MOST 1048576: true; the input reads as it did. -/
def fnPutUptoRow : OpenClaim := { program := "ytgnlefdecjpmeaa", sum := "c389dc0b4b5bc62b2325271bde3e84e8855a0c4d4c16519ad475d777ec1b7aa1", func := "loop.example/closingsticks/laws.FnPut", spec := "fnPut", unfollowed := true, recurses := true, apart := false, narrowed := true }
def FnPutUptoSaid : Prop := fnPutUptoRow.holds Try.pinned (OpenSpec.upto fnPutSpec)

/-- 'laws.FnDrop', WHERE WHAT IT READS IS OF BULK AT MOST 1048576: true; the input reads as it did. -/
def fnDropUptoRow : OpenClaim := { program := "ytgnlefdecjpmeaa", sum := "c389dc0b4b5bc62b2325271bde3e84e8855a0c4d4c16519ad475d777ec1b7aa1", func := "loop.example/closingsticks/laws.FnDrop", spec := "fnDrop", recurses := true, apart := false, narrowed := true }
def FnDropUptoSaid : Prop := fnDropUptoRow.holds Try.pinned (OpenSpec.upto fnDropSpec)

/-- 'laws.FnSum', WHERE WHAT IT READS IS OF BULK AT MOST 1048576: true; the input reads as it did. -/
def fnSumUptoRow : OpenClaim := { program := "ytgnlefdecjpmeaa", sum := "c389dc0b4b5bc62b2325271bde3e84e8855a0c4d4c16519ad475d777ec1b7aa1", func := "loop.example/closingsticks/laws.FnSum", spec := "fnSum", apart := false, narrowed := true }
def FnSumUptoSaid : Prop := fnSumUptoRow.holds Try.pinned (OpenSpec.upto fnSumSpec)

/-- 'laws.FnExactStickIn', WHERE WHAT IT READS IS OF BULK AT MOST 1048576: true; the input reads as it did. -/
def fnExactStickInUptoRow : OpenClaim := { program := "ytgnlefdecjpmeaa", sum := "c389dc0b4b5bc62b2325271bde3e84e8855a0c4d4c16519ad475d777ec1b7aa1", func := "loop.example/closingsticks/laws.FnExactStickIn", spec := "fnExactStickIn", apart := false, narrowed := true }
def FnExactStickInUptoSaid : Prop := fnExactStickInUptoRow.holds Try.pinned (OpenSpec.upto fnExactStickInSpec)

/-- 'laws.FnExactStickSort', WHERE WHAT IT READS IS OF BULK AT MOST 1048576: true; the input reads as it did. -/
def fnExactStickSortUptoRow : OpenClaim := { program := "ytgnlefdecjpmeaa", sum := "c389dc0b4b5bc62b2325271bde3e84e8855a0c4d4c16519ad475d777ec1b7aa1", func := "loop.example/closingsticks/laws.FnExactStickSort", spec := "fnExactStickSort", recurses := true, apart := false, narrowed := true }
def FnExactStickSortUptoSaid : Prop := fnExactStickSortUptoRow.holds Try.pinned (OpenSpec.upto fnExactStickSortSpec)

/-- 'laws.FnExactStickThree', WHERE WHAT IT READS IS OF BULK AT MOST 1048576: true; the input reads as it did. -/
def fnExactStickThreeUptoRow : OpenClaim := { program := "ytgnlefdecjpmeaa", sum := "c389dc0b4b5bc62b2325271bde3e84e8855a0c4d4c16519ad475d777ec1b7aa1", func := "loop.example/closingsticks/laws.FnExactStickThree", spec := "fnExactStickThree", apart := false, narrowed := true }
def FnExactStickThreeUptoSaid : Prop := fnExactStickThreeUptoRow.holds Try.pinned (OpenSpec.upto fnExactStickThreeSpec)

/-- 'laws.FnExactStickMany', WHERE WHAT IT READS IS OF BULK AT MOST 1048576: true; the input reads as it did. -/
def fnExactStickManyUptoRow : OpenClaim := { program := "ytgnlefdecjpmeaa", sum := "c389dc0b4b5bc62b2325271bde3e84e8855a0c4d4c16519ad475d777ec1b7aa1", func := "loop.example/closingsticks/laws.FnExactStickMany", spec := "fnExactStickMany", unfollowed := true, recurses := true, apart := false, narrowed := true }
def FnExactStickManyUptoSaid : Prop := fnExactStickManyUptoRow.holds Try.pinned (OpenSpec.upto fnExactStickManySpec)

/-- 'laws.FnExactStickWidest', WHERE WHAT IT READS IS OF BULK AT MOST 1048576: true; the input reads as it did. -/
def fnExactStickWidestUptoRow : OpenClaim := { program := "ytgnlefdecjpmeaa", sum := "c389dc0b4b5bc62b2325271bde3e84e8855a0c4d4c16519ad475d777ec1b7aa1", func := "loop.example/closingsticks/laws.FnExactStickWidest", spec := "fnExactStickWidest", apart := false, narrowed := true }
def FnExactStickWidestUptoSaid : Prop := fnExactStickWidestUptoRow.holds Try.pinned (OpenSpec.upto fnExactStickWidestSpec)

/-- 'laws.FnExactStickFree', WHERE WHAT IT READS IS OF BULK AT MOST 1048576: true; the input reads as it did. -/
def fnExactStickFreeUptoRow : OpenClaim := { program := "ytgnlefdecjpmeaa", sum := "c389dc0b4b5bc62b2325271bde3e84e8855a0c4d4c16519ad475d777ec1b7aa1", func := "loop.example/closingsticks/laws.FnExactStickFree", spec := "fnExactStickFree", unfollowed := true, recurses := true, apart := false, narrowed := true }
def FnExactStickFreeUptoSaid : Prop := fnExactStickFreeUptoRow.holds Try.pinned (OpenSpec.upto fnExactStickFreeSpec)

/-- 'laws.FnExactStickLongFree', WHERE WHAT IT READS IS OF BULK AT MOST 1048576: true; the input reads as it did. -/
def fnExactStickLongFreeUptoRow : OpenClaim := { program := "ytgnlefdecjpmeaa", sum := "c389dc0b4b5bc62b2325271bde3e84e8855a0c4d4c16519ad475d777ec1b7aa1", func := "loop.example/closingsticks/laws.FnExactStickLongFree", spec := "fnExactStickLongFree", apart := false, narrowed := true }
def FnExactStickLongFreeUptoSaid : Prop := fnExactStickLongFreeUptoRow.holds Try.pinned (OpenSpec.upto fnExactStickLongFreeSpec)

/-- 'laws.FnExactStickTryFree', WHERE WHAT IT READS IS OF BULK AT MOST 1048576: true; the input reads as it did. -/
def fnExactStickTryFreeUptoRow : OpenClaim := { program := "ytgnlefdecjpmeaa", sum := "c389dc0b4b5bc62b2325271bde3e84e8855a0c4d4c16519ad475d777ec1b7aa1", func := "loop.example/closingsticks/laws.FnExactStickTryFree", spec := "fnExactStickTryFree", unfollowed := true, recurses := true, apart := false, narrowed := true }
def FnExactStickTryFreeUptoSaid : Prop := fnExactStickTryFreeUptoRow.holds Try.pinned (OpenSpec.upto fnExactStickTryFreeSpec)

/-- 'laws.FnExactStickPut', WHERE WHAT IT READS IS OF BULK AT MOST 1048576: true; the input reads as it did. -/
def fnExactStickPutUptoRow : OpenClaim := { program := "ytgnlefdecjpmeaa", sum := "c389dc0b4b5bc62b2325271bde3e84e8855a0c4d4c16519ad475d777ec1b7aa1", func := "loop.example/closingsticks/laws.FnExactStickPut", spec := "fnExactStickPut", recurses := true, apart := false, narrowed := true }
def FnExactStickPutUptoSaid : Prop := fnExactStickPutUptoRow.holds Try.pinned (OpenSpec.upto fnExactStickPutSpec)

/-- 'laws.FnExactStickDrop', WHERE WHAT IT READS IS OF BULK AT MOST 1048576: true; the input reads as it did. -/
def fnExactStickDropUptoRow : OpenClaim := { program := "ytgnlefdecjpmeaa", sum := "c389dc0b4b5bc62b2325271bde3e84e8855a0c4d4c16519ad475d777ec1b7aa1", func := "loop.example/closingsticks/laws.FnExactStickDrop", spec := "fnExactStickDrop", apart := false, narrowed := true }
def FnExactStickDropUptoSaid : Prop := fnExactStickDropUptoRow.holds Try.pinned (OpenSpec.upto fnExactStickDropSpec)

/-- 'laws.FnExactStickSum', WHERE WHAT IT READS IS OF BULK AT MOST 1048576: true; the input reads as it did. -/
def fnExactStickSumUptoRow : OpenClaim := { program := "ytgnlefdecjpmeaa", sum := "c389dc0b4b5bc62b2325271bde3e84e8855a0c4d4c16519ad475d777ec1b7aa1", func := "loop.example/closingsticks/laws.FnExactStickSum", spec := "fnExactStickSum", apart := false, narrowed := true }
def FnExactStickSumUptoSaid : Prop := fnExactStickSumUptoRow.holds Try.pinned (OpenSpec.upto fnExactStickSumSpec)

end Rows
end Go.Proofs.Ytgnlefdecjpmeaa
