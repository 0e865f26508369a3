/-
  No cell of these rows narrows 'for every input' (looked for: loops, veiled, ifaces, maps, wideKeys, modest, calm, conditions, laid).
  DERIVED. THE GIVEN ROWS OF THIS SEAT. 33 by the template 'for every input the law returns true; each argument reads behind the call as it read before'; 0 by the template 'total and deterministic' (their statements: YtcfmnjkgebopcaaTotals.lean).
  GIVEN WITH THE SEED: the statements are not yours to turn. If you find one false, say at which input.
  Laid BY PROGRAM, IN A SANDBOX (cutbox-rows.mjs): the forced cells as the released guide's own fill.sh prints them over the translation f49e6810bde9fa87… (all of the seat's roots in one cut). By AI agents, Wed Nov 11 2026. No macro, syntax, notation, axiom, sorry.
-/
import Derived.Test.YtcfmnjkgebopcaaChecked
import GoSem.Claim
import GoSem.ClaimJoined
import GoSem.ClaimMapViews
import Derived.JoinedTies
import Derived.KernelRfl
namespace Go.Proofs.Ytcfmnjkgebopcaa
/- THE CELL 'sum', in the pinned program and in every row, IS THE sha256 OF THE DUMP (.gsa) THAT YtcfmnjkgebopcaaProg.lean LOADS. Nothing in Lean hashes anything: it is a label: what it is worth is what the hold of that sum in a sandbox is worth. -/
noncomputable def Try.pinned : Pinned := { name := "ytcfmnjkgebopcaa", sum := "f49e6810bde9fa876179522330583a7e8dd90d7fe148b77dbe466fce99880f02", checked := Try.checked }
namespace Rows
def none {H : Type} : Left H := { results := [], args := [] }

/-- 'laws.FnSort': WHATEVER THE INPUT: true; the input reads as it did. -/
def fnSortSpec : ChangeSpec := { name := "fnSort", fn := fun _ => fun
  | [d] => { results := [.lit (.bool true)], args := [d] }
  | _ => none }
def fnSortRow : OpenClaim := { program := "ytcfmnjkgebopcaa", sum := "f49e6810bde9fa876179522330583a7e8dd90d7fe148b77dbe466fce99880f02", func := "loop.example/closingsticks/laws.FnSort", spec := "fnSort", recurses := true, plainKeys := false, apart := false }
def FnSortSaid : Prop := fnSortRow.holds Try.pinned (OpenSpec.ofChange fnSortSpec)

/-- ITS FALSE NEIGHBOUR: 'it returns false'. Refute it at one input. -/
def fnSortWrong : ChangeSpec := { name := "fnSort", fn := fun _ => fun
  | [d] => { results := [.lit (.bool false)], args := [d] }
  | _ => none }
def FnSortWrongFalsely : Prop := fnSortRow.holds Try.pinned (OpenSpec.ofChange fnSortWrong)

/-- 'laws.FnMany': WHATEVER THE INPUT: true; the input reads as it did. -/
def fnManySpec : ChangeSpec := { name := "fnMany", fn := fun _ => fun
  | [d] => { results := [.lit (.bool true)], args := [d] }
  | _ => none }
def fnManyRow : OpenClaim := { program := "ytcfmnjkgebopcaa", sum := "f49e6810bde9fa876179522330583a7e8dd90d7fe148b77dbe466fce99880f02", func := "loop.example/closingsticks/laws.FnMany", spec := "fnMany", unfollowed := true, recurses := true, plainKeys := false, apart := false }
def FnManySaid : Prop := fnManyRow.holds Try.pinned (OpenSpec.ofChange fnManySpec)

/-- ITS FALSE NEIGHBOUR: 'it returns false'. Refute it at one input. -/
def fnManyWrong : ChangeSpec := { name := "fnMany", fn := fun _ => fun
  | [d] => { results := [.lit (.bool false)], args := [d] }
  | _ => none }
def FnManyWrongFalsely : Prop := fnManyRow.holds Try.pinned (OpenSpec.ofChange fnManyWrong)

/-- 'laws.FnWidest': WHATEVER THE INPUT: true; the input reads as it did. -/
def fnWidestSpec : ChangeSpec := { name := "fnWidest", fn := fun _ => fun
  | [d] => { results := [.lit (.bool true)], args := [d] }
  | _ => none }
def fnWidestRow : OpenClaim := { program := "ytcfmnjkgebopcaa", sum := "f49e6810bde9fa876179522330583a7e8dd90d7fe148b77dbe466fce99880f02", func := "loop.example/closingsticks/laws.FnWidest", spec := "fnWidest", unfollowed := true, recurses := true, plainKeys := false, apart := false }
def FnWidestSaid : Prop := fnWidestRow.holds Try.pinned (OpenSpec.ofChange fnWidestSpec)

/-- ITS FALSE NEIGHBOUR: 'it returns false'. Refute it at one input. -/
def fnWidestWrong : ChangeSpec := { name := "fnWidest", fn := fun _ => fun
  | [d] => { results := [.lit (.bool false)], args := [d] }
  | _ => none }
def FnWidestWrongFalsely : Prop := fnWidestRow.holds Try.pinned (OpenSpec.ofChange fnWidestWrong)

/-- 'laws.FnFree': WHATEVER THE INPUT: true; the input reads as it did. -/
def fnFreeSpec : ChangeSpec := { name := "fnFree", fn := fun _ => fun
  | [d] => { results := [.lit (.bool true)], args := [d] }
  | _ => none }
def fnFreeRow : OpenClaim := { program := "ytcfmnjkgebopcaa", sum := "f49e6810bde9fa876179522330583a7e8dd90d7fe148b77dbe466fce99880f02", func := "loop.example/closingsticks/laws.FnFree", spec := "fnFree", unfollowed := true, recurses := true, plainKeys := false, apart := false }
def FnFreeSaid : Prop := fnFreeRow.holds Try.pinned (OpenSpec.ofChange fnFreeSpec)

/-- ITS FALSE NEIGHBOUR: 'it returns false'. Refute it at one input. -/
def fnFreeWrong : ChangeSpec := { name := "fnFree", fn := fun _ => fun
  | [d] => { results := [.lit (.bool false)], args := [d] }
  | _ => none }
def FnFreeWrongFalsely : Prop := fnFreeRow.holds Try.pinned (OpenSpec.ofChange fnFreeWrong)

/-- 'laws.FnFreeOr': WHATEVER THE INPUT: true; the input reads as it did. -/
def fnFreeOrSpec : ChangeSpec := { name := "fnFreeOr", fn := fun _ => fun
  | [d] => { results := [.lit (.bool true)], args := [d] }
  | _ => none }
def fnFreeOrRow : OpenClaim := { program := "ytcfmnjkgebopcaa", sum := "f49e6810bde9fa876179522330583a7e8dd90d7fe148b77dbe466fce99880f02", func := "loop.example/closingsticks/laws.FnFreeOr", spec := "fnFreeOr", unfollowed := true, recurses := true, plainKeys := false, apart := false }
def FnFreeOrSaid : Prop := fnFreeOrRow.holds Try.pinned (OpenSpec.ofChange fnFreeOrSpec)

/-- ITS FALSE NEIGHBOUR: 'it returns false'. Refute it at one input. -/
def fnFreeOrWrong : ChangeSpec := { name := "fnFreeOr", fn := fun _ => fun
  | [d] => { results := [.lit (.bool false)], args := [d] }
  | _ => none }
def FnFreeOrWrongFalsely : Prop := fnFreeOrRow.holds Try.pinned (OpenSpec.ofChange fnFreeOrWrong)

/-- 'laws.FnLongFree': WHATEVER THE INPUT: true; the input reads as it did. -/
def fnLongFreeSpec : ChangeSpec := { name := "fnLongFree", fn := fun _ => fun
  | [d] => { results := [.lit (.bool true)], args := [d] }
  | _ => none }
def fnLongFreeRow : OpenClaim := { program := "ytcfmnjkgebopcaa", sum := "f49e6810bde9fa876179522330583a7e8dd90d7fe148b77dbe466fce99880f02", func := "loop.example/closingsticks/laws.FnLongFree", spec := "fnLongFree", unfollowed := true, recurses := true, plainKeys := false, apart := false }
def FnLongFreeSaid : Prop := fnLongFreeRow.holds Try.pinned (OpenSpec.ofChange fnLongFreeSpec)

/-- ITS FALSE NEIGHBOUR: 'it returns false'. Refute it at one input. -/
def fnLongFreeWrong : ChangeSpec := { name := "fnLongFree", fn := fun _ => fun
  | [d] => { results := [.lit (.bool false)], args := [d] }
  | _ => none }
def FnLongFreeWrongFalsely : Prop := fnLongFreeRow.holds Try.pinned (OpenSpec.ofChange fnLongFreeWrong)

/-- 'laws.FnTryFree': WHATEVER THE INPUT: true; the input reads as it did. -/
def fnTryFreeSpec : ChangeSpec := { name := "fnTryFree", fn := fun _ => fun
  | [d] => { results := [.lit (.bool true)], args := [d] }
  | _ => none }
def fnTryFreeRow : OpenClaim := { program := "ytcfmnjkgebopcaa", sum := "f49e6810bde9fa876179522330583a7e8dd90d7fe148b77dbe466fce99880f02", func := "loop.example/closingsticks/laws.FnTryFree", spec := "fnTryFree", unfollowed := true, recurses := true, plainKeys := false, apart := false }
def FnTryFreeSaid : Prop := fnTryFreeRow.holds Try.pinned (OpenSpec.ofChange fnTryFreeSpec)

/-- ITS FALSE NEIGHBOUR: 'it returns false'. Refute it at one input. -/
def fnTryFreeWrong : ChangeSpec := { name := "fnTryFree", fn := fun _ => fun
  | [d] => { results := [.lit (.bool false)], args := [d] }
  | _ => none }
def FnTryFreeWrongFalsely : Prop := fnTryFreeRow.holds Try.pinned (OpenSpec.ofChange fnTryFreeWrong)

/-- 'laws.FnPut': WHATEVER THE INPUT: true; the input reads as it did. -/
def fnPutSpec : ChangeSpec := { name := "fnPut", fn := fun _ => fun
  | [d] => { results := [.lit (.bool true)], args := [d] }
  | _ => none }
def fnPutRow : OpenClaim := { program := "ytcfmnjkgebopcaa", sum := "f49e6810bde9fa876179522330583a7e8dd90d7fe148b77dbe466fce99880f02", func := "loop.example/closingsticks/laws.FnPut", spec := "fnPut", unfollowed := true, recurses := true, plainKeys := false, apart := false }
def FnPutSaid : Prop := fnPutRow.holds Try.pinned (OpenSpec.ofChange fnPutSpec)

/-- ITS FALSE NEIGHBOUR: 'it returns false'. Refute it at one input. -/
def fnPutWrong : ChangeSpec := { name := "fnPut", fn := fun _ => fun
  | [d] => { results := [.lit (.bool false)], args := [d] }
  | _ => none }
def FnPutWrongFalsely : Prop := fnPutRow.holds Try.pinned (OpenSpec.ofChange fnPutWrong)

/-- 'laws.FnDrop': WHATEVER THE INPUT: true; the input reads as it did. -/
def fnDropSpec : ChangeSpec := { name := "fnDrop", fn := fun _ => fun
  | [d] => { results := [.lit (.bool true)], args := [d] }
  | _ => none }
def fnDropRow : OpenClaim := { program := "ytcfmnjkgebopcaa", sum := "f49e6810bde9fa876179522330583a7e8dd90d7fe148b77dbe466fce99880f02", func := "loop.example/closingsticks/laws.FnDrop", spec := "fnDrop", recurses := true, plainKeys := false, apart := false }
def FnDropSaid : Prop := fnDropRow.holds Try.pinned (OpenSpec.ofChange fnDropSpec)

/-- ITS FALSE NEIGHBOUR: 'it returns false'. Refute it at one input. -/
def fnDropWrong : ChangeSpec := { name := "fnDrop", fn := fun _ => fun
  | [d] => { results := [.lit (.bool false)], args := [d] }
  | _ => none }
def FnDropWrongFalsely : Prop := fnDropRow.holds Try.pinned (OpenSpec.ofChange fnDropWrong)

/-- 'laws.FnTriAll': WHATEVER THE INPUT: true; the input reads as it did. -/
def fnTriAllSpec : ChangeSpec := { name := "fnTriAll", fn := fun _ => fun
  | [d] => { results := [.lit (.bool true)], args := [d] }
  | _ => none }
def fnTriAllRow : OpenClaim := { program := "ytcfmnjkgebopcaa", sum := "f49e6810bde9fa876179522330583a7e8dd90d7fe148b77dbe466fce99880f02", func := "loop.example/closingsticks/laws.FnTriAll", spec := "fnTriAll", unfollowed := true, recurses := true, plainKeys := false, apart := false }
def FnTriAllSaid : Prop := fnTriAllRow.holds Try.pinned (OpenSpec.ofChange fnTriAllSpec)

/-- ITS FALSE NEIGHBOUR: 'it returns false'. Refute it at one input. -/
def fnTriAllWrong : ChangeSpec := { name := "fnTriAll", fn := fun _ => fun
  | [d] => { results := [.lit (.bool false)], args := [d] }
  | _ => none }
def FnTriAllWrongFalsely : Prop := fnTriAllRow.holds Try.pinned (OpenSpec.ofChange fnTriAllWrong)

/-- 'laws.FnTriCount': WHATEVER THE INPUT: true; the input reads as it did. -/
def fnTriCountSpec : ChangeSpec := { name := "fnTriCount", fn := fun _ => fun
  | [d] => { results := [.lit (.bool true)], args := [d] }
  | _ => none }
def fnTriCountRow : OpenClaim := { program := "ytcfmnjkgebopcaa", sum := "f49e6810bde9fa876179522330583a7e8dd90d7fe148b77dbe466fce99880f02", func := "loop.example/closingsticks/laws.FnTriCount", spec := "fnTriCount", unfollowed := true, recurses := true, plainKeys := false, apart := false }
def FnTriCountSaid : Prop := fnTriCountRow.holds Try.pinned (OpenSpec.ofChange fnTriCountSpec)

/-- ITS FALSE NEIGHBOUR: 'it returns false'. Refute it at one input. -/
def fnTriCountWrong : ChangeSpec := { name := "fnTriCount", fn := fun _ => fun
  | [d] => { results := [.lit (.bool false)], args := [d] }
  | _ => none }
def FnTriCountWrongFalsely : Prop := fnTriCountRow.holds Try.pinned (OpenSpec.ofChange fnTriCountWrong)

/-- 'laws.FnTriRound': WHATEVER THE INPUT: true; the input reads as it did. -/
def fnTriRoundSpec : ChangeSpec := { name := "fnTriRound", fn := fun _ => fun
  | [d] => { results := [.lit (.bool true)], args := [d] }
  | _ => none }
def fnTriRoundRow : OpenClaim := { program := "ytcfmnjkgebopcaa", sum := "f49e6810bde9fa876179522330583a7e8dd90d7fe148b77dbe466fce99880f02", func := "loop.example/closingsticks/laws.FnTriRound", spec := "fnTriRound", plainKeys := false, apart := false }
def FnTriRoundSaid : Prop := fnTriRoundRow.holds Try.pinned (OpenSpec.ofChange fnTriRoundSpec)

/-- ITS FALSE NEIGHBOUR: 'it returns false'. Refute it at one input. -/
def fnTriRoundWrong : ChangeSpec := { name := "fnTriRound", fn := fun _ => fun
  | [d] => { results := [.lit (.bool false)], args := [d] }
  | _ => none }
def FnTriRoundWrongFalsely : Prop := fnTriRoundRow.holds Try.pinned (OpenSpec.ofChange fnTriRoundWrong)

/-- 'laws.FnTriKind': WHATEVER THE INPUT: true; the input reads as it did. -/
def fnTriKindSpec : ChangeSpec := { name := "fnTriKind", fn := fun _ => fun
  | [d] => { results := [.lit (.bool true)], args := [d] }
  | _ => none }
def fnTriKindRow : OpenClaim := { program := "ytcfmnjkgebopcaa", sum := "f49e6810bde9fa876179522330583a7e8dd90d7fe148b77dbe466fce99880f02", func := "loop.example/closingsticks/laws.FnTriKind", spec := "fnTriKind", plainKeys := false, apart := false }
def FnTriKindSaid : Prop := fnTriKindRow.holds Try.pinned (OpenSpec.ofChange fnTriKindSpec)

/-- ITS FALSE NEIGHBOUR: 'it returns false'. Refute it at one input. -/
def fnTriKindWrong : ChangeSpec := { name := "fnTriKind", fn := fun _ => fun
  | [d] => { results := [.lit (.bool false)], args := [d] }
  | _ => none }
def FnTriKindWrongFalsely : Prop := fnTriKindRow.holds Try.pinned (OpenSpec.ofChange fnTriKindWrong)

/-- 'laws.FnTriArea': WHATEVER THE INPUT: true; the input reads as it did. -/
def fnTriAreaSpec : ChangeSpec := { name := "fnTriArea", fn := fun _ => fun
  | [d] => { results := [.lit (.bool true)], args := [d] }
  | _ => none }
def fnTriAreaRow : OpenClaim := { program := "ytcfmnjkgebopcaa", sum := "f49e6810bde9fa876179522330583a7e8dd90d7fe148b77dbe466fce99880f02", func := "loop.example/closingsticks/laws.FnTriArea", spec := "fnTriArea", plainKeys := false, apart := false }
def FnTriAreaSaid : Prop := fnTriAreaRow.holds Try.pinned (OpenSpec.ofChange fnTriAreaSpec)

/-- ITS FALSE NEIGHBOUR: 'it returns false'. Refute it at one input. -/
def fnTriAreaWrong : ChangeSpec := { name := "fnTriArea", fn := fun _ => fun
  | [d] => { results := [.lit (.bool false)], args := [d] }
  | _ => none }
def FnTriAreaWrongFalsely : Prop := fnTriAreaRow.holds Try.pinned (OpenSpec.ofChange fnTriAreaWrong)

/-- 'laws.FnTriWhole': WHATEVER THE INPUT: true; the input reads as it did. -/
def fnTriWholeSpec : ChangeSpec := { name := "fnTriWhole", fn := fun _ => fun
  | [d] => { results := [.lit (.bool true)], args := [d] }
  | _ => none }
def fnTriWholeRow : OpenClaim := { program := "ytcfmnjkgebopcaa", sum := "f49e6810bde9fa876179522330583a7e8dd90d7fe148b77dbe466fce99880f02", func := "loop.example/closingsticks/laws.FnTriWhole", spec := "fnTriWhole", unfollowed := true, recurses := true, plainKeys := false, apart := false }
def FnTriWholeSaid : Prop := fnTriWholeRow.holds Try.pinned (OpenSpec.ofChange fnTriWholeSpec)

/-- ITS FALSE NEIGHBOUR: 'it returns false'. Refute it at one input. -/
def fnTriWholeWrong : ChangeSpec := { name := "fnTriWhole", fn := fun _ => fun
  | [d] => { results := [.lit (.bool false)], args := [d] }
  | _ => none }
def FnTriWholeWrongFalsely : Prop := fnTriWholeRow.holds Try.pinned (OpenSpec.ofChange fnTriWholeWrong)

/-- 'laws.FnTriSame': WHATEVER THE INPUT: true; the input reads as it did. -/
def fnTriSameSpec : ChangeSpec := { name := "fnTriSame", fn := fun _ => fun
  | [d] => { results := [.lit (.bool true)], args := [d] }
  | _ => none }
def fnTriSameRow : OpenClaim := { program := "ytcfmnjkgebopcaa", sum := "f49e6810bde9fa876179522330583a7e8dd90d7fe148b77dbe466fce99880f02", func := "loop.example/closingsticks/laws.FnTriSame", spec := "fnTriSame", plainKeys := false, apart := false }
def FnTriSameSaid : Prop := fnTriSameRow.holds Try.pinned (OpenSpec.ofChange fnTriSameSpec)

/-- ITS FALSE NEIGHBOUR: 'it returns false'. Refute it at one input. -/
def fnTriSameWrong : ChangeSpec := { name := "fnTriSame", fn := fun _ => fun
  | [d] => { results := [.lit (.bool false)], args := [d] }
  | _ => none }
def FnTriSameWrongFalsely : Prop := fnTriSameRow.holds Try.pinned (OpenSpec.ofChange fnTriSameWrong)

/-- 'laws.FnTriInside': WHATEVER THE INPUT: true; the input reads as it did. -/
def fnTriInsideSpec : ChangeSpec := { name := "fnTriInside", fn := fun _ => fun
  | [d] => { results := [.lit (.bool true)], args := [d] }
  | _ => none }
def fnTriInsideRow : OpenClaim := { program := "ytcfmnjkgebopcaa", sum := "f49e6810bde9fa876179522330583a7e8dd90d7fe148b77dbe466fce99880f02", func := "loop.example/closingsticks/laws.FnTriInside", spec := "fnTriInside", recurses := true, plainKeys := false, apart := false }
def FnTriInsideSaid : Prop := fnTriInsideRow.holds Try.pinned (OpenSpec.ofChange fnTriInsideSpec)

/-- ITS FALSE NEIGHBOUR: 'it returns false'. Refute it at one input. -/
def fnTriInsideWrong : ChangeSpec := { name := "fnTriInside", fn := fun _ => fun
  | [d] => { results := [.lit (.bool false)], args := [d] }
  | _ => none }
def FnTriInsideWrongFalsely : Prop := fnTriInsideRow.holds Try.pinned (OpenSpec.ofChange fnTriInsideWrong)

/-- 'laws.FnTriGrow': WHATEVER THE INPUT: true; the input reads as it did. -/
def fnTriGrowSpec : ChangeSpec := { name := "fnTriGrow", fn := fun _ => fun
  | [d] => { results := [.lit (.bool true)], args := [d] }
  | _ => none }
def fnTriGrowRow : OpenClaim := { program := "ytcfmnjkgebopcaa", sum := "f49e6810bde9fa876179522330583a7e8dd90d7fe148b77dbe466fce99880f02", func := "loop.example/closingsticks/laws.FnTriGrow", spec := "fnTriGrow", plainKeys := false, apart := false }
def FnTriGrowSaid : Prop := fnTriGrowRow.holds Try.pinned (OpenSpec.ofChange fnTriGrowSpec)

/-- ITS FALSE NEIGHBOUR: 'it returns false'. Refute it at one input. -/
def fnTriGrowWrong : ChangeSpec := { name := "fnTriGrow", fn := fun _ => fun
  | [d] => { results := [.lit (.bool false)], args := [d] }
  | _ => none }
def FnTriGrowWrongFalsely : Prop := fnTriGrowRow.holds Try.pinned (OpenSpec.ofChange fnTriGrowWrong)

/-- 'laws.FnTriHalf': WHATEVER THE INPUT: true; the input reads as it did. -/
def fnTriHalfSpec : ChangeSpec := { name := "fnTriHalf", fn := fun _ => fun
  | [d] => { results := [.lit (.bool true)], args := [d] }
  | _ => none }
def fnTriHalfRow : OpenClaim := { program := "ytcfmnjkgebopcaa", sum := "f49e6810bde9fa876179522330583a7e8dd90d7fe148b77dbe466fce99880f02", func := "loop.example/closingsticks/laws.FnTriHalf", spec := "fnTriHalf", plainKeys := false, apart := false }
def FnTriHalfSaid : Prop := fnTriHalfRow.holds Try.pinned (OpenSpec.ofChange fnTriHalfSpec)

/-- ITS FALSE NEIGHBOUR: 'it returns false'. Refute it at one input. -/
def fnTriHalfWrong : ChangeSpec := { name := "fnTriHalf", fn := fun _ => fun
  | [d] => { results := [.lit (.bool false)], args := [d] }
  | _ => none }
def FnTriHalfWrongFalsely : Prop := fnTriHalfRow.holds Try.pinned (OpenSpec.ofChange fnTriHalfWrong)

/-- 'laws.FnTriGrowBack': WHATEVER THE INPUT: true; the input reads as it did. -/
def fnTriGrowBackSpec : ChangeSpec := { name := "fnTriGrowBack", fn := fun _ => fun
  | [d] => { results := [.lit (.bool true)], args := [d] }
  | _ => none }
def fnTriGrowBackRow : OpenClaim := { program := "ytcfmnjkgebopcaa", sum := "f49e6810bde9fa876179522330583a7e8dd90d7fe148b77dbe466fce99880f02", func := "loop.example/closingsticks/laws.FnTriGrowBack", spec := "fnTriGrowBack", recurses := true, plainKeys := false, apart := false }
def FnTriGrowBackSaid : Prop := fnTriGrowBackRow.holds Try.pinned (OpenSpec.ofChange fnTriGrowBackSpec)

/-- ITS FALSE NEIGHBOUR: 'it returns false'. Refute it at one input. -/
def fnTriGrowBackWrong : ChangeSpec := { name := "fnTriGrowBack", fn := fun _ => fun
  | [d] => { results := [.lit (.bool false)], args := [d] }
  | _ => none }
def FnTriGrowBackWrongFalsely : Prop := fnTriGrowBackRow.holds Try.pinned (OpenSpec.ofChange fnTriGrowBackWrong)

/-- 'laws.FnExactStickMany': WHATEVER THE INPUT: true; the input reads as it did. -/
def fnExactStickManySpec : ChangeSpec := { name := "fnExactStickMany", fn := fun _ => fun
  | [d] => { results := [.lit (.bool true)], args := [d] }
  | _ => none }
def fnExactStickManyRow : OpenClaim := { program := "ytcfmnjkgebopcaa", sum := "f49e6810bde9fa876179522330583a7e8dd90d7fe148b77dbe466fce99880f02", func := "loop.example/closingsticks/laws.FnExactStickMany", spec := "fnExactStickMany", unfollowed := true, recurses := true, plainKeys := false, apart := false }
def FnExactStickManySaid : Prop := fnExactStickManyRow.holds Try.pinned (OpenSpec.ofChange fnExactStickManySpec)

/-- ITS FALSE NEIGHBOUR: 'it returns false'. Refute it at one input. -/
def fnExactStickManyWrong : ChangeSpec := { name := "fnExactStickMany", fn := fun _ => fun
  | [d] => { results := [.lit (.bool false)], args := [d] }
  | _ => none }
def FnExactStickManyWrongFalsely : Prop := fnExactStickManyRow.holds Try.pinned (OpenSpec.ofChange fnExactStickManyWrong)

/-- 'laws.FnExactStickFree': WHATEVER THE INPUT: true; the input reads as it did. -/
def fnExactStickFreeSpec : ChangeSpec := { name := "fnExactStickFree", fn := fun _ => fun
  | [d] => { results := [.lit (.bool true)], args := [d] }
  | _ => none }
def fnExactStickFreeRow : OpenClaim := { program := "ytcfmnjkgebopcaa", sum := "f49e6810bde9fa876179522330583a7e8dd90d7fe148b77dbe466fce99880f02", func := "loop.example/closingsticks/laws.FnExactStickFree", spec := "fnExactStickFree", unfollowed := true, recurses := true, plainKeys := false, apart := false }
def FnExactStickFreeSaid : Prop := fnExactStickFreeRow.holds Try.pinned (OpenSpec.ofChange fnExactStickFreeSpec)

/-- ITS FALSE NEIGHBOUR: 'it returns false'. Refute it at one input. -/
def fnExactStickFreeWrong : ChangeSpec := { name := "fnExactStickFree", fn := fun _ => fun
  | [d] => { results := [.lit (.bool false)], args := [d] }
  | _ => none }
def FnExactStickFreeWrongFalsely : Prop := fnExactStickFreeRow.holds Try.pinned (OpenSpec.ofChange fnExactStickFreeWrong)

/-- 'laws.FnExactStickTryFree': WHATEVER THE INPUT: true; the input reads as it did. -/
def fnExactStickTryFreeSpec : ChangeSpec := { name := "fnExactStickTryFree", fn := fun _ => fun
  | [d] => { results := [.lit (.bool true)], args := [d] }
  | _ => none }
def fnExactStickTryFreeRow : OpenClaim := { program := "ytcfmnjkgebopcaa", sum := "f49e6810bde9fa876179522330583a7e8dd90d7fe148b77dbe466fce99880f02", func := "loop.example/closingsticks/laws.FnExactStickTryFree", spec := "fnExactStickTryFree", unfollowed := true, recurses := true, plainKeys := false, apart := false }
def FnExactStickTryFreeSaid : Prop := fnExactStickTryFreeRow.holds Try.pinned (OpenSpec.ofChange fnExactStickTryFreeSpec)

/-- ITS FALSE NEIGHBOUR: 'it returns false'. Refute it at one input. -/
def fnExactStickTryFreeWrong : ChangeSpec := { name := "fnExactStickTryFree", fn := fun _ => fun
  | [d] => { results := [.lit (.bool false)], args := [d] }
  | _ => none }
def FnExactStickTryFreeWrongFalsely : Prop := fnExactStickTryFreeRow.holds Try.pinned (OpenSpec.ofChange fnExactStickTryFreeWrong)

/-- 'laws.FnExactTriAll': WHATEVER THE INPUT: true; the input reads as it did. -/
def fnExactTriAllSpec : ChangeSpec := { name := "fnExactTriAll", fn := fun _ => fun
  | [d] => { results := [.lit (.bool true)], args := [d] }
  | _ => none }
def fnExactTriAllRow : OpenClaim := { program := "ytcfmnjkgebopcaa", sum := "f49e6810bde9fa876179522330583a7e8dd90d7fe148b77dbe466fce99880f02", func := "loop.example/closingsticks/laws.FnExactTriAll", spec := "fnExactTriAll", unfollowed := true, recurses := true, plainKeys := false, apart := false }
def FnExactTriAllSaid : Prop := fnExactTriAllRow.holds Try.pinned (OpenSpec.ofChange fnExactTriAllSpec)

/-- ITS FALSE NEIGHBOUR: 'it returns false'. Refute it at one input. -/
def fnExactTriAllWrong : ChangeSpec := { name := "fnExactTriAll", fn := fun _ => fun
  | [d] => { results := [.lit (.bool false)], args := [d] }
  | _ => none }
def FnExactTriAllWrongFalsely : Prop := fnExactTriAllRow.holds Try.pinned (OpenSpec.ofChange fnExactTriAllWrong)

/-- 'laws.FnExactTriCount': WHATEVER THE INPUT: true; the input reads as it did. -/
def fnExactTriCountSpec : ChangeSpec := { name := "fnExactTriCount", fn := fun _ => fun
  | [d] => { results := [.lit (.bool true)], args := [d] }
  | _ => none }
def fnExactTriCountRow : OpenClaim := { program := "ytcfmnjkgebopcaa", sum := "f49e6810bde9fa876179522330583a7e8dd90d7fe148b77dbe466fce99880f02", func := "loop.example/closingsticks/laws.FnExactTriCount", spec := "fnExactTriCount", recurses := true, plainKeys := false, apart := false }
def FnExactTriCountSaid : Prop := fnExactTriCountRow.holds Try.pinned (OpenSpec.ofChange fnExactTriCountSpec)

/-- ITS FALSE NEIGHBOUR: 'it returns false'. Refute it at one input. -/
def fnExactTriCountWrong : ChangeSpec := { name := "fnExactTriCount", fn := fun _ => fun
  | [d] => { results := [.lit (.bool false)], args := [d] }
  | _ => none }
def FnExactTriCountWrongFalsely : Prop := fnExactTriCountRow.holds Try.pinned (OpenSpec.ofChange fnExactTriCountWrong)

/-- 'laws.FnExactTriRound': WHATEVER THE INPUT: true; the input reads as it did. -/
def fnExactTriRoundSpec : ChangeSpec := { name := "fnExactTriRound", fn := fun _ => fun
  | [d] => { results := [.lit (.bool true)], args := [d] }
  | _ => none }
def fnExactTriRoundRow : OpenClaim := { program := "ytcfmnjkgebopcaa", sum := "f49e6810bde9fa876179522330583a7e8dd90d7fe148b77dbe466fce99880f02", func := "loop.example/closingsticks/laws.FnExactTriRound", spec := "fnExactTriRound", plainKeys := false, apart := false }
def FnExactTriRoundSaid : Prop := fnExactTriRoundRow.holds Try.pinned (OpenSpec.ofChange fnExactTriRoundSpec)

/-- ITS FALSE NEIGHBOUR: 'it returns false'. Refute it at one input. -/
def fnExactTriRoundWrong : ChangeSpec := { name := "fnExactTriRound", fn := fun _ => fun
  | [d] => { results := [.lit (.bool false)], args := [d] }
  | _ => none }
def FnExactTriRoundWrongFalsely : Prop := fnExactTriRoundRow.holds Try.pinned (OpenSpec.ofChange fnExactTriRoundWrong)

/-- 'laws.FnExactTriKind': WHATEVER THE INPUT: true; the input reads as it did. -/
def fnExactTriKindSpec : ChangeSpec := { name := "fnExactTriKind", fn := fun _ => fun
  | [d] => { results := [.lit (.bool true)], args := [d] }
  | _ => none }
def fnExactTriKindRow : OpenClaim := { program := "ytcfmnjkgebopcaa", sum := "f49e6810bde9fa876179522330583a7e8dd90d7fe148b77dbe466fce99880f02", func := "loop.example/closingsticks/laws.FnExactTriKind", spec := "fnExactTriKind", plainKeys := false, apart := false }
def FnExactTriKindSaid : Prop := fnExactTriKindRow.holds Try.pinned (OpenSpec.ofChange fnExactTriKindSpec)

/-- ITS FALSE NEIGHBOUR: 'it returns false'. Refute it at one input. -/
def fnExactTriKindWrong : ChangeSpec := { name := "fnExactTriKind", fn := fun _ => fun
  | [d] => { results := [.lit (.bool false)], args := [d] }
  | _ => none }
def FnExactTriKindWrongFalsely : Prop := fnExactTriKindRow.holds Try.pinned (OpenSpec.ofChange fnExactTriKindWrong)

/-- 'laws.FnExactTriArea': WHATEVER THE INPUT: true; the input reads as it did. -/
def fnExactTriAreaSpec : ChangeSpec := { name := "fnExactTriArea", fn := fun _ => fun
  | [d] => { results := [.lit (.bool true)], args := [d] }
  | _ => none }
def fnExactTriAreaRow : OpenClaim := { program := "ytcfmnjkgebopcaa", sum := "f49e6810bde9fa876179522330583a7e8dd90d7fe148b77dbe466fce99880f02", func := "loop.example/closingsticks/laws.FnExactTriArea", spec := "fnExactTriArea", plainKeys := false, apart := false }
def FnExactTriAreaSaid : Prop := fnExactTriAreaRow.holds Try.pinned (OpenSpec.ofChange fnExactTriAreaSpec)

/-- ITS FALSE NEIGHBOUR: 'it returns false'. Refute it at one input. -/
def fnExactTriAreaWrong : ChangeSpec := { name := "fnExactTriArea", fn := fun _ => fun
  | [d] => { results := [.lit (.bool false)], args := [d] }
  | _ => none }
def FnExactTriAreaWrongFalsely : Prop := fnExactTriAreaRow.holds Try.pinned (OpenSpec.ofChange fnExactTriAreaWrong)

/-- 'laws.FnExactTriWhole': WHATEVER THE INPUT: true; the input reads as it did. -/
def fnExactTriWholeSpec : ChangeSpec := { name := "fnExactTriWhole", fn := fun _ => fun
  | [d] => { results := [.lit (.bool true)], args := [d] }
  | _ => none }
def fnExactTriWholeRow : OpenClaim := { program := "ytcfmnjkgebopcaa", sum := "f49e6810bde9fa876179522330583a7e8dd90d7fe148b77dbe466fce99880f02", func := "loop.example/closingsticks/laws.FnExactTriWhole", spec := "fnExactTriWhole", unfollowed := true, recurses := true, plainKeys := false, apart := false }
def FnExactTriWholeSaid : Prop := fnExactTriWholeRow.holds Try.pinned (OpenSpec.ofChange fnExactTriWholeSpec)

/-- ITS FALSE NEIGHBOUR: 'it returns false'. Refute it at one input. -/
def fnExactTriWholeWrong : ChangeSpec := { name := "fnExactTriWhole", fn := fun _ => fun
  | [d] => { results := [.lit (.bool false)], args := [d] }
  | _ => none }
def FnExactTriWholeWrongFalsely : Prop := fnExactTriWholeRow.holds Try.pinned (OpenSpec.ofChange fnExactTriWholeWrong)

/-- 'laws.FnExactTriSame': WHATEVER THE INPUT: true; the input reads as it did. -/
def fnExactTriSameSpec : ChangeSpec := { name := "fnExactTriSame", fn := fun _ => fun
  | [d1, d2] => { results := [.lit (.bool true)], args := [d1, d2] }
  | _ => none }
def fnExactTriSameRow : OpenClaim := { program := "ytcfmnjkgebopcaa", sum := "f49e6810bde9fa876179522330583a7e8dd90d7fe148b77dbe466fce99880f02", func := "loop.example/closingsticks/laws.FnExactTriSame", spec := "fnExactTriSame", plainKeys := false, apart := false }
def FnExactTriSameSaid : Prop := fnExactTriSameRow.holds Try.pinned (OpenSpec.ofChange fnExactTriSameSpec)

/-- ITS FALSE NEIGHBOUR: 'it returns false'. Refute it at one input. -/
def fnExactTriSameWrong : ChangeSpec := { name := "fnExactTriSame", fn := fun _ => fun
  | [d1, d2] => { results := [.lit (.bool false)], args := [d1, d2] }
  | _ => none }
def FnExactTriSameWrongFalsely : Prop := fnExactTriSameRow.holds Try.pinned (OpenSpec.ofChange fnExactTriSameWrong)

/-- 'laws.FnExactTriInside': WHATEVER THE INPUT: true; the input reads as it did. -/
def fnExactTriInsideSpec : ChangeSpec := { name := "fnExactTriInside", fn := fun _ => fun
  | [d] => { results := [.lit (.bool true)], args := [d] }
  | _ => none }
def fnExactTriInsideRow : OpenClaim := { program := "ytcfmnjkgebopcaa", sum := "f49e6810bde9fa876179522330583a7e8dd90d7fe148b77dbe466fce99880f02", func := "loop.example/closingsticks/laws.FnExactTriInside", spec := "fnExactTriInside", recurses := true, plainKeys := false, apart := false }
def FnExactTriInsideSaid : Prop := fnExactTriInsideRow.holds Try.pinned (OpenSpec.ofChange fnExactTriInsideSpec)

/-- ITS FALSE NEIGHBOUR: 'it returns false'. Refute it at one input. -/
def fnExactTriInsideWrong : ChangeSpec := { name := "fnExactTriInside", fn := fun _ => fun
  | [d] => { results := [.lit (.bool false)], args := [d] }
  | _ => none }
def FnExactTriInsideWrongFalsely : Prop := fnExactTriInsideRow.holds Try.pinned (OpenSpec.ofChange fnExactTriInsideWrong)

/-- 'laws.FnExactTriGrow': WHATEVER THE INPUT: true; the input reads as it did. -/
def fnExactTriGrowSpec : ChangeSpec := { name := "fnExactTriGrow", fn := fun _ => fun
  | [d] => { results := [.lit (.bool true)], args := [d] }
  | _ => none }
def fnExactTriGrowRow : OpenClaim := { program := "ytcfmnjkgebopcaa", sum := "f49e6810bde9fa876179522330583a7e8dd90d7fe148b77dbe466fce99880f02", func := "loop.example/closingsticks/laws.FnExactTriGrow", spec := "fnExactTriGrow", plainKeys := false, apart := false }
def FnExactTriGrowSaid : Prop := fnExactTriGrowRow.holds Try.pinned (OpenSpec.ofChange fnExactTriGrowSpec)

/-- ITS FALSE NEIGHBOUR: 'it returns false'. Refute it at one input. -/
def fnExactTriGrowWrong : ChangeSpec := { name := "fnExactTriGrow", fn := fun _ => fun
  | [d] => { results := [.lit (.bool false)], args := [d] }
  | _ => none }
def FnExactTriGrowWrongFalsely : Prop := fnExactTriGrowRow.holds Try.pinned (OpenSpec.ofChange fnExactTriGrowWrong)

/-- 'laws.FnExactTriHalf': WHATEVER THE INPUT: true; the input reads as it did. -/
def fnExactTriHalfSpec : ChangeSpec := { name := "fnExactTriHalf", fn := fun _ => fun
  | [d] => { results := [.lit (.bool true)], args := [d] }
  | _ => none }
def fnExactTriHalfRow : OpenClaim := { program := "ytcfmnjkgebopcaa", sum := "f49e6810bde9fa876179522330583a7e8dd90d7fe148b77dbe466fce99880f02", func := "loop.example/closingsticks/laws.FnExactTriHalf", spec := "fnExactTriHalf", plainKeys := false, apart := false }
def FnExactTriHalfSaid : Prop := fnExactTriHalfRow.holds Try.pinned (OpenSpec.ofChange fnExactTriHalfSpec)

/-- ITS FALSE NEIGHBOUR: 'it returns false'. Refute it at one input. -/
def fnExactTriHalfWrong : ChangeSpec := { name := "fnExactTriHalf", fn := fun _ => fun
  | [d] => { results := [.lit (.bool false)], args := [d] }
  | _ => none }
def FnExactTriHalfWrongFalsely : Prop := fnExactTriHalfRow.holds Try.pinned (OpenSpec.ofChange fnExactTriHalfWrong)

/- THE SECOND FORM. 'bulk': how many values and letters a reading holds, each counted each time it is reached (what is shared counts as often as it is met; a slice's spare places count too). A statement '..UptoSaid' is the law's where the arguments, and the package variables that the reading takes, are together of bulk at most 1048576: NARROWER than '..Said'. Prove '..Said' where nothing that the law and all that it calls make is longer than what came in: it says more and counts as full. Else prove '..UptoSaid'. A law counts once. -/
mutual
def uptoBulk {H : Type} : DataW H → Nat
  | .lit (.string bytes) => bytes.length + 1
  | .lit _ => 1
  | .nil => 1
  | .ptr d => uptoBulk d + 1
  | .slice elems spare => uptoBulkAll elems + uptoBulkAll spare + 1
  | .agg parts => uptoBulkAll parts + 1
  | .iface _ d => uptoBulk d + 1
  | .map entries => uptoBulkEntries entries + 1
  | .held _ => 1
def uptoBulkAll {H : Type} : List (DataW H) → Nat
  | [] => 0
  | d :: r => uptoBulk d + uptoBulkAll r
def uptoBulkEntries {H : Type} : List (Lit × DataW H) → Nat
  | [] => 0
  | x :: r => uptoBulkEntry x + uptoBulkEntries r
def uptoBulkEntry {H : Type} : Lit × DataW H → Nat
  | (.string bytes, d) => bytes.length + uptoBulk d + 1
  | (_, d) => uptoBulk d + 1
 end
def uptoSmall : (H : Type) → List (DataW H) → Bool := fun _ ds => decide (uptoBulkAll ds ≤ 1048576)
def OpenSpec.upto (s : _root_.Go.ChangeSpec) : _root_.Go.OpenSpec := { _root_.Go.OpenSpec.ofChange s with cond := some uptoSmall }

/-- 'laws.FnSort', WHERE WHAT IT READS IS OF BULK AT MOST 1048576: true; the input reads as it did. -/
def fnSortUptoRow : OpenClaim := { program := "ytcfmnjkgebopcaa", sum := "f49e6810bde9fa876179522330583a7e8dd90d7fe148b77dbe466fce99880f02", func := "loop.example/closingsticks/laws.FnSort", spec := "fnSort", recurses := true, plainKeys := false, apart := false, narrowed := true }
def FnSortUptoSaid : Prop := fnSortUptoRow.holds Try.pinned (OpenSpec.upto fnSortSpec)

/-- 'laws.FnMany', WHERE WHAT IT READS IS OF BULK AT MOST 1048576: true; the input reads as it did. -/
def fnManyUptoRow : OpenClaim := { program := "ytcfmnjkgebopcaa", sum := "f49e6810bde9fa876179522330583a7e8dd90d7fe148b77dbe466fce99880f02", func := "loop.example/closingsticks/laws.FnMany", spec := "fnMany", unfollowed := true, recurses := true, plainKeys := false, apart := false, narrowed := true }
def FnManyUptoSaid : Prop := fnManyUptoRow.holds Try.pinned (OpenSpec.upto fnManySpec)

/-- 'laws.FnWidest', WHERE WHAT IT READS IS OF BULK AT MOST 1048576: true; the input reads as it did. -/
def fnWidestUptoRow : OpenClaim := { program := "ytcfmnjkgebopcaa", sum := "f49e6810bde9fa876179522330583a7e8dd90d7fe148b77dbe466fce99880f02", func := "loop.example/closingsticks/laws.FnWidest", spec := "fnWidest", unfollowed := true, recurses := true, plainKeys := false, apart := false, narrowed := true }
def FnWidestUptoSaid : Prop := fnWidestUptoRow.holds Try.pinned (OpenSpec.upto fnWidestSpec)

/-- 'laws.FnFree', WHERE WHAT IT READS IS OF BULK AT MOST 1048576: true; the input reads as it did. -/
def fnFreeUptoRow : OpenClaim := { program := "ytcfmnjkgebopcaa", sum := "f49e6810bde9fa876179522330583a7e8dd90d7fe148b77dbe466fce99880f02", func := "loop.example/closingsticks/laws.FnFree", spec := "fnFree", unfollowed := true, recurses := true, plainKeys := false, apart := false, narrowed := true }
def FnFreeUptoSaid : Prop := fnFreeUptoRow.holds Try.pinned (OpenSpec.upto fnFreeSpec)

/-- 'laws.FnFreeOr', WHERE WHAT IT READS IS OF BULK AT MOST 1048576: true; the input reads as it did. -/
def fnFreeOrUptoRow : OpenClaim := { program := "ytcfmnjkgebopcaa", sum := "f49e6810bde9fa876179522330583a7e8dd90d7fe148b77dbe466fce99880f02", func := "loop.example/closingsticks/laws.FnFreeOr", spec := "fnFreeOr", unfollowed := true, recurses := true, plainKeys := false, apart := false, narrowed := true }
def FnFreeOrUptoSaid : Prop := fnFreeOrUptoRow.holds Try.pinned (OpenSpec.upto fnFreeOrSpec)

/-- 'laws.FnLongFree', WHERE WHAT IT READS IS OF BULK AT MOST 1048576: true; the input reads as it did. -/
def fnLongFreeUptoRow : OpenClaim := { program := "ytcfmnjkgebopcaa", sum := "f49e6810bde9fa876179522330583a7e8dd90d7fe148b77dbe466fce99880f02", func := "loop.example/closingsticks/laws.FnLongFree", spec := "fnLongFree", unfollowed := true, recurses := true, plainKeys := false, apart := false, narrowed := true }
def FnLongFreeUptoSaid : Prop := fnLongFreeUptoRow.holds Try.pinned (OpenSpec.upto fnLongFreeSpec)

/-- 'laws.FnTryFree', WHERE WHAT IT READS IS OF BULK AT MOST 1048576: true; the input reads as it did. -/
def fnTryFreeUptoRow : OpenClaim := { program := "ytcfmnjkgebopcaa", sum := "f49e6810bde9fa876179522330583a7e8dd90d7fe148b77dbe466fce99880f02", func := "loop.example/closingsticks/laws.FnTryFree", spec := "fnTryFree", unfollowed := true, recurses := true, plainKeys := false, apart := false, narrowed := true }
def FnTryFreeUptoSaid : Prop := fnTryFreeUptoRow.holds Try.pinned (OpenSpec.upto fnTryFreeSpec)

/-- 'laws.FnPut', WHERE WHAT IT READS IS OF BULK AT MOST 1048576: true; the input reads as it did. -/
def fnPutUptoRow : OpenClaim := { program := "ytcfmnjkgebopcaa", sum := "f49e6810bde9fa876179522330583a7e8dd90d7fe148b77dbe466fce99880f02", func := "loop.example/closingsticks/laws.FnPut", spec := "fnPut", unfollowed := true, recurses := true, plainKeys := false, apart := false, narrowed := true }
def FnPutUptoSaid : Prop := fnPutUptoRow.holds Try.pinned (OpenSpec.upto fnPutSpec)

/-- 'laws.FnDrop', WHERE WHAT IT READS IS OF BULK AT MOST 1048576: true; the input reads as it did. -/
def fnDropUptoRow : OpenClaim := { program := "ytcfmnjkgebopcaa", sum := "f49e6810bde9fa876179522330583a7e8dd90d7fe148b77dbe466fce99880f02", func := "loop.example/closingsticks/laws.FnDrop", spec := "fnDrop", recurses := true, plainKeys := false, apart := false, narrowed := true }
def FnDropUptoSaid : Prop := fnDropUptoRow.holds Try.pinned (OpenSpec.upto fnDropSpec)

/-- 'laws.FnTriAll', WHERE WHAT IT READS IS OF BULK AT MOST 1048576: true; the input reads as it did. -/
def fnTriAllUptoRow : OpenClaim := { program := "ytcfmnjkgebopcaa", sum := "f49e6810bde9fa876179522330583a7e8dd90d7fe148b77dbe466fce99880f02", func := "loop.example/closingsticks/laws.FnTriAll", spec := "fnTriAll", unfollowed := true, recurses := true, plainKeys := false, apart := false, narrowed := true }
def FnTriAllUptoSaid : Prop := fnTriAllUptoRow.holds Try.pinned (OpenSpec.upto fnTriAllSpec)

/-- 'laws.FnTriCount', WHERE WHAT IT READS IS OF BULK AT MOST 1048576: true; the input reads as it did. -/
def fnTriCountUptoRow : OpenClaim := { program := "ytcfmnjkgebopcaa", sum := "f49e6810bde9fa876179522330583a7e8dd90d7fe148b77dbe466fce99880f02", func := "loop.example/closingsticks/laws.FnTriCount", spec := "fnTriCount", unfollowed := true, recurses := true, plainKeys := false, apart := false, narrowed := true }
def FnTriCountUptoSaid : Prop := fnTriCountUptoRow.holds Try.pinned (OpenSpec.upto fnTriCountSpec)

/-- 'laws.FnTriRound', WHERE WHAT IT READS IS OF BULK AT MOST 1048576: true; the input reads as it did. -/
def fnTriRoundUptoRow : OpenClaim := { program := "ytcfmnjkgebopcaa", sum := "f49e6810bde9fa876179522330583a7e8dd90d7fe148b77dbe466fce99880f02", func := "loop.example/closingsticks/laws.FnTriRound", spec := "fnTriRound", plainKeys := false, apart := false, narrowed := true }
def FnTriRoundUptoSaid : Prop := fnTriRoundUptoRow.holds Try.pinned (OpenSpec.upto fnTriRoundSpec)

/-- 'laws.FnTriKind', WHERE WHAT IT READS IS OF BULK AT MOST 1048576: true; the input reads as it did. -/
def fnTriKindUptoRow : OpenClaim := { program := "ytcfmnjkgebopcaa", sum := "f49e6810bde9fa876179522330583a7e8dd90d7fe148b77dbe466fce99880f02", func := "loop.example/closingsticks/laws.FnTriKind", spec := "fnTriKind", plainKeys := false, apart := false, narrowed := true }
def FnTriKindUptoSaid : Prop := fnTriKindUptoRow.holds Try.pinned (OpenSpec.upto fnTriKindSpec)

/-- 'laws.FnTriArea', WHERE WHAT IT READS IS OF BULK AT MOST 1048576: true; the input reads as it did. -/
def fnTriAreaUptoRow : OpenClaim := { program := "ytcfmnjkgebopcaa", sum := "f49e6810bde9fa876179522330583a7e8dd90d7fe148b77dbe466fce99880f02", func := "loop.example/closingsticks/laws.FnTriArea", spec := "fnTriArea", plainKeys := false, apart := false, narrowed := true }
def FnTriAreaUptoSaid : Prop := fnTriAreaUptoRow.holds Try.pinned (OpenSpec.upto fnTriAreaSpec)

/-- 'laws.FnTriWhole', WHERE WHAT IT READS IS OF BULK AT MOST 1048576: true; the input reads as it did. -/
def fnTriWholeUptoRow : OpenClaim := { program := "ytcfmnjkgebopcaa", sum := "f49e6810bde9fa876179522330583a7e8dd90d7fe148b77dbe466fce99880f02", func := "loop.example/closingsticks/laws.FnTriWhole", spec := "fnTriWhole", unfollowed := true, recurses := true, plainKeys := false, apart := false, narrowed := true }
def FnTriWholeUptoSaid : Prop := fnTriWholeUptoRow.holds Try.pinned (OpenSpec.upto fnTriWholeSpec)

/-- 'laws.FnTriSame', WHERE WHAT IT READS IS OF BULK AT MOST 1048576: true; the input reads as it did. -/
def fnTriSameUptoRow : OpenClaim := { program := "ytcfmnjkgebopcaa", sum := "f49e6810bde9fa876179522330583a7e8dd90d7fe148b77dbe466fce99880f02", func := "loop.example/closingsticks/laws.FnTriSame", spec := "fnTriSame", plainKeys := false, apart := false, narrowed := true }
def FnTriSameUptoSaid : Prop := fnTriSameUptoRow.holds Try.pinned (OpenSpec.upto fnTriSameSpec)

/-- 'laws.FnTriInside', WHERE WHAT IT READS IS OF BULK AT MOST 1048576: true; the input reads as it did. -/
def fnTriInsideUptoRow : OpenClaim := { program := "ytcfmnjkgebopcaa", sum := "f49e6810bde9fa876179522330583a7e8dd90d7fe148b77dbe466fce99880f02", func := "loop.example/closingsticks/laws.FnTriInside", spec := "fnTriInside", recurses := true, plainKeys := false, apart := false, narrowed := true }
def FnTriInsideUptoSaid : Prop := fnTriInsideUptoRow.holds Try.pinned (OpenSpec.upto fnTriInsideSpec)

/-- 'laws.FnTriGrow', WHERE WHAT IT READS IS OF BULK AT MOST 1048576: true; the input reads as it did. -/
def fnTriGrowUptoRow : OpenClaim := { program := "ytcfmnjkgebopcaa", sum := "f49e6810bde9fa876179522330583a7e8dd90d7fe148b77dbe466fce99880f02", func := "loop.example/closingsticks/laws.FnTriGrow", spec := "fnTriGrow", plainKeys := false, apart := false, narrowed := true }
def FnTriGrowUptoSaid : Prop := fnTriGrowUptoRow.holds Try.pinned (OpenSpec.upto fnTriGrowSpec)

/-- 'laws.FnTriHalf', WHERE WHAT IT READS IS OF BULK AT MOST 1048576: true; the input reads as it did. -/
def fnTriHalfUptoRow : OpenClaim := { program := "ytcfmnjkgebopcaa", sum := "f49e6810bde9fa876179522330583a7e8dd90d7fe148b77dbe466fce99880f02", func := "loop.example/closingsticks/laws.FnTriHalf", spec := "fnTriHalf", plainKeys := false, apart := false, narrowed := true }
def FnTriHalfUptoSaid : Prop := fnTriHalfUptoRow.holds Try.pinned (OpenSpec.upto fnTriHalfSpec)

/-- 'laws.FnTriGrowBack', WHERE WHAT IT READS IS OF BULK AT MOST 1048576: true; the input reads as it did. -/
def fnTriGrowBackUptoRow : OpenClaim := { program := "ytcfmnjkgebopcaa", sum := "f49e6810bde9fa876179522330583a7e8dd90d7fe148b77dbe466fce99880f02", func := "loop.example/closingsticks/laws.FnTriGrowBack", spec := "fnTriGrowBack", recurses := true, plainKeys := false, apart := false, narrowed := true }
def FnTriGrowBackUptoSaid : Prop := fnTriGrowBackUptoRow.holds Try.pinned (OpenSpec.upto fnTriGrowBackSpec)

/-- 'laws.FnExactStickMany', WHERE WHAT IT READS IS OF BULK AT MOST 1048576: true; the input reads as it did. -/
def fnExactStickManyUptoRow : OpenClaim := { program := "ytcfmnjkgebopcaa", sum := "f49e6810bde9fa876179522330583a7e8dd90d7fe148b77dbe466fce99880f02", func := "loop.example/closingsticks/laws.FnExactStickMany", spec := "fnExactStickMany", unfollowed := true, recurses := true, plainKeys := false, apart := false, narrowed := true }
def FnExactStickManyUptoSaid : Prop := fnExactStickManyUptoRow.holds Try.pinned (OpenSpec.upto fnExactStickManySpec)

/-- 'laws.FnExactStickFree', WHERE WHAT IT READS IS OF BULK AT MOST 1048576: true; the input reads as it did. -/
def fnExactStickFreeUptoRow : OpenClaim := { program := "ytcfmnjkgebopcaa", sum := "f49e6810bde9fa876179522330583a7e8dd90d7fe148b77dbe466fce99880f02", func := "loop.example/closingsticks/laws.FnExactStickFree", spec := "fnExactStickFree", unfollowed := true, recurses := true, plainKeys := false, apart := false, narrowed := true }
def FnExactStickFreeUptoSaid : Prop := fnExactStickFreeUptoRow.holds Try.pinned (OpenSpec.upto fnExactStickFreeSpec)

/-- 'laws.FnExactStickTryFree', WHERE WHAT IT READS IS OF BULK AT MOST 1048576: true; the input reads as it did. -/
def fnExactStickTryFreeUptoRow : OpenClaim := { program := "ytcfmnjkgebopcaa", sum := "f49e6810bde9fa876179522330583a7e8dd90d7fe148b77dbe466fce99880f02", func := "loop.example/closingsticks/laws.FnExactStickTryFree", spec := "fnExactStickTryFree", unfollowed := true, recurses := true, plainKeys := false, apart := false, narrowed := true }
def FnExactStickTryFreeUptoSaid : Prop := fnExactStickTryFreeUptoRow.holds Try.pinned (OpenSpec.upto fnExactStickTryFreeSpec)

/-- 'laws.FnExactTriAll', WHERE WHAT IT READS IS OF BULK AT MOST 1048576: true; the input reads as it did. -/
def fnExactTriAllUptoRow : OpenClaim := { program := "ytcfmnjkgebopcaa", sum := "f49e6810bde9fa876179522330583a7e8dd90d7fe148b77dbe466fce99880f02", func := "loop.example/closingsticks/laws.FnExactTriAll", spec := "fnExactTriAll", unfollowed := true, recurses := true, plainKeys := false, apart := false, narrowed := true }
def FnExactTriAllUptoSaid : Prop := fnExactTriAllUptoRow.holds Try.pinned (OpenSpec.upto fnExactTriAllSpec)

/-- 'laws.FnExactTriCount', WHERE WHAT IT READS IS OF BULK AT MOST 1048576: true; the input reads as it did. -/
def fnExactTriCountUptoRow : OpenClaim := { program := "ytcfmnjkgebopcaa", sum := "f49e6810bde9fa876179522330583a7e8dd90d7fe148b77dbe466fce99880f02", func := "loop.example/closingsticks/laws.FnExactTriCount", spec := "fnExactTriCount", recurses := true, plainKeys := false, apart := false, narrowed := true }
def FnExactTriCountUptoSaid : Prop := fnExactTriCountUptoRow.holds Try.pinned (OpenSpec.upto fnExactTriCountSpec)

/-- 'laws.FnExactTriRound', WHERE WHAT IT READS IS OF BULK AT MOST 1048576: true; the input reads as it did. -/
def fnExactTriRoundUptoRow : OpenClaim := { program := "ytcfmnjkgebopcaa", sum := "f49e6810bde9fa876179522330583a7e8dd90d7fe148b77dbe466fce99880f02", func := "loop.example/closingsticks/laws.FnExactTriRound", spec := "fnExactTriRound", plainKeys := false, apart := false, narrowed := true }
def FnExactTriRoundUptoSaid : Prop := fnExactTriRoundUptoRow.holds Try.pinned (OpenSpec.upto fnExactTriRoundSpec)

/-- 'laws.FnExactTriKind', WHERE WHAT IT READS IS OF BULK AT MOST 1048576: true; the input reads as it did. -/
def fnExactTriKindUptoRow : OpenClaim := { program := "ytcfmnjkgebopcaa", sum := "f49e6810bde9fa876179522330583a7e8dd90d7fe148b77dbe466fce99880f02", func := "loop.example/closingsticks/laws.FnExactTriKind", spec := "fnExactTriKind", plainKeys := false, apart := false, narrowed := true }
def FnExactTriKindUptoSaid : Prop := fnExactTriKindUptoRow.holds Try.pinned (OpenSpec.upto fnExactTriKindSpec)

/-- 'laws.FnExactTriArea', WHERE WHAT IT READS IS OF BULK AT MOST 1048576: true; the input reads as it did. -/
def fnExactTriAreaUptoRow : OpenClaim := { program := "ytcfmnjkgebopcaa", sum := "f49e6810bde9fa876179522330583a7e8dd90d7fe148b77dbe466fce99880f02", func := "loop.example/closingsticks/laws.FnExactTriArea", spec := "fnExactTriArea", plainKeys := false, apart := false, narrowed := true }
def FnExactTriAreaUptoSaid : Prop := fnExactTriAreaUptoRow.holds Try.pinned (OpenSpec.upto fnExactTriAreaSpec)

/-- 'laws.FnExactTriWhole', WHERE WHAT IT READS IS OF BULK AT MOST 1048576: true; the input reads as it did. -/
def fnExactTriWholeUptoRow : OpenClaim := { program := "ytcfmnjkgebopcaa", sum := "f49e6810bde9fa876179522330583a7e8dd90d7fe148b77dbe466fce99880f02", func := "loop.example/closingsticks/laws.FnExactTriWhole", spec := "fnExactTriWhole", unfollowed := true, recurses := true, plainKeys := false, apart := false, narrowed := true }
def FnExactTriWholeUptoSaid : Prop := fnExactTriWholeUptoRow.holds Try.pinned (OpenSpec.upto fnExactTriWholeSpec)

/-- 'laws.FnExactTriSame', WHERE WHAT IT READS IS OF BULK AT MOST 1048576: true; the input reads as it did. -/
def fnExactTriSameUptoRow : OpenClaim := { program := "ytcfmnjkgebopcaa", sum := "f49e6810bde9fa876179522330583a7e8dd90d7fe148b77dbe466fce99880f02", func := "loop.example/closingsticks/laws.FnExactTriSame", spec := "fnExactTriSame", plainKeys := false, apart := false, narrowed := true }
def FnExactTriSameUptoSaid : Prop := fnExactTriSameUptoRow.holds Try.pinned (OpenSpec.upto fnExactTriSameSpec)

/-- 'laws.FnExactTriInside', WHERE WHAT IT READS IS OF BULK AT MOST 1048576: true; the input reads as it did. -/
def fnExactTriInsideUptoRow : OpenClaim := { program := "ytcfmnjkgebopcaa", sum := "f49e6810bde9fa876179522330583a7e8dd90d7fe148b77dbe466fce99880f02", func := "loop.example/closingsticks/laws.FnExactTriInside", spec := "fnExactTriInside", recurses := true, plainKeys := false, apart := false, narrowed := true }
def FnExactTriInsideUptoSaid : Prop := fnExactTriInsideUptoRow.holds Try.pinned (OpenSpec.upto fnExactTriInsideSpec)

/-- 'laws.FnExactTriGrow', WHERE WHAT IT READS IS OF BULK AT MOST 1048576: true; the input reads as it did. -/
def fnExactTriGrowUptoRow : OpenClaim := { program := "ytcfmnjkgebopcaa", sum := "f49e6810bde9fa876179522330583a7e8dd90d7fe148b77dbe466fce99880f02", func := "loop.example/closingsticks/laws.FnExactTriGrow", spec := "fnExactTriGrow", plainKeys := false, apart := false, narrowed := true }
def FnExactTriGrowUptoSaid : Prop := fnExactTriGrowUptoRow.holds Try.pinned (OpenSpec.upto fnExactTriGrowSpec)

/-- 'laws.FnExactTriHalf', WHERE WHAT IT READS IS OF BULK AT MOST 1048576: true; the input reads as it did. -/
def fnExactTriHalfUptoRow : OpenClaim := { program := "ytcfmnjkgebopcaa", sum := "f49e6810bde9fa876179522330583a7e8dd90d7fe148b77dbe466fce99880f02", func := "loop.example/closingsticks/laws.FnExactTriHalf", spec := "fnExactTriHalf", plainKeys := false, apart := false, narrowed := true }
def FnExactTriHalfUptoSaid : Prop := fnExactTriHalfUptoRow.holds Try.pinned (OpenSpec.upto fnExactTriHalfSpec)

end Rows
end Go.Proofs.Ytcfmnjkgebopcaa
