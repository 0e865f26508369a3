/-
  No cell of these rows narrows 'for every input' (looked for: loops, veiled, ifaces, maps, wideKeys, modest, calm, conditions, laid).
  DERIVED. THE GIVEN ROWS OF THIS SEAT. 27 by the template 'for every input the law returns true; each argument reads behind the call as it read before'; 0 by the template 'total and deterministic' (their statements: YtaffdppmpfgghaaTotals.lean).
  GIVEN WITH THE SEED: the statements are not yours to turn. If you find one false, say at which input.
  Laid BY PROGRAM, IN A SANDBOX (cutbox-rows.mjs): the forced cells as the released guide's own fill.sh prints them over the translation 04722ab671f13ac2… (all of the seat's roots in one cut). By AI agents, Wed Nov 11 2026. No macro, syntax, notation, axiom, sorry.
-/
import Derived.Test.YtaffdppmpfgghaaChecked
import GoSem.Claim
import GoSem.ClaimJoined
import GoSem.ClaimMapViews
import Derived.JoinedTies
import Derived.KernelRfl
namespace Go.Proofs.Ytaffdppmpfgghaa
/- THE CELL 'sum', in the pinned program and in every row, IS THE sha256 OF THE DUMP (.gsa) THAT YtaffdppmpfgghaaProg.lean LOADS. Nothing in Lean hashes anything: it is a label: what it is worth is what the hold of that sum in a sandbox is worth. -/
noncomputable def Try.pinned : Pinned := { name := "ytaffdppmpfgghaa", sum := "04722ab671f13ac22eb2afbc95949ee703d1e303cc16db8941bd4d0649c479ec", checked := Try.checked }
namespace Rows
def none {H : Type} : Left H := { results := [], args := [] }

/-- 'laws.FnMany': WHATEVER THE INPUT: true; the input reads as it did. -/
def fnManySpec : ChangeSpec := { name := "fnMany", fn := fun _ => fun
  | [d] => { results := [.lit (.bool true)], args := [d] }
  | _ => none }
def fnManyRow : OpenClaim := { program := "ytaffdppmpfgghaa", sum := "04722ab671f13ac22eb2afbc95949ee703d1e303cc16db8941bd4d0649c479ec", func := "loop.example/closingsticks/laws.FnMany", spec := "fnMany", unfollowed := true, recurses := true, apart := false }
def FnManySaid : Prop := fnManyRow.holds Try.pinned (OpenSpec.ofChange fnManySpec)

/-- ITS FALSE NEIGHBOUR: 'it returns false'. Refute it at one input. -/
def fnManyWrong : ChangeSpec := { name := "fnMany", fn := fun _ => fun
  | [d] => { results := [.lit (.bool false)], args := [d] }
  | _ => none }
def FnManyWrongFalsely : Prop := fnManyRow.holds Try.pinned (OpenSpec.ofChange fnManyWrong)

/-- 'laws.FnWidest': WHATEVER THE INPUT: true; the input reads as it did. -/
def fnWidestSpec : ChangeSpec := { name := "fnWidest", fn := fun _ => fun
  | [d] => { results := [.lit (.bool true)], args := [d] }
  | _ => none }
def fnWidestRow : OpenClaim := { program := "ytaffdppmpfgghaa", sum := "04722ab671f13ac22eb2afbc95949ee703d1e303cc16db8941bd4d0649c479ec", func := "loop.example/closingsticks/laws.FnWidest", spec := "fnWidest", unfollowed := true, recurses := true, apart := false }
def FnWidestSaid : Prop := fnWidestRow.holds Try.pinned (OpenSpec.ofChange fnWidestSpec)

/-- ITS FALSE NEIGHBOUR: 'it returns false'. Refute it at one input. -/
def fnWidestWrong : ChangeSpec := { name := "fnWidest", fn := fun _ => fun
  | [d] => { results := [.lit (.bool false)], args := [d] }
  | _ => none }
def FnWidestWrongFalsely : Prop := fnWidestRow.holds Try.pinned (OpenSpec.ofChange fnWidestWrong)

/-- 'laws.FnFree': WHATEVER THE INPUT: true; the input reads as it did. -/
def fnFreeSpec : ChangeSpec := { name := "fnFree", fn := fun _ => fun
  | [d] => { results := [.lit (.bool true)], args := [d] }
  | _ => none }
def fnFreeRow : OpenClaim := { program := "ytaffdppmpfgghaa", sum := "04722ab671f13ac22eb2afbc95949ee703d1e303cc16db8941bd4d0649c479ec", func := "loop.example/closingsticks/laws.FnFree", spec := "fnFree", unfollowed := true, recurses := true, apart := false }
def FnFreeSaid : Prop := fnFreeRow.holds Try.pinned (OpenSpec.ofChange fnFreeSpec)

/-- ITS FALSE NEIGHBOUR: 'it returns false'. Refute it at one input. -/
def fnFreeWrong : ChangeSpec := { name := "fnFree", fn := fun _ => fun
  | [d] => { results := [.lit (.bool false)], args := [d] }
  | _ => none }
def FnFreeWrongFalsely : Prop := fnFreeRow.holds Try.pinned (OpenSpec.ofChange fnFreeWrong)

/-- 'laws.FnFreeOr': WHATEVER THE INPUT: true; the input reads as it did. -/
def fnFreeOrSpec : ChangeSpec := { name := "fnFreeOr", fn := fun _ => fun
  | [d] => { results := [.lit (.bool true)], args := [d] }
  | _ => none }
def fnFreeOrRow : OpenClaim := { program := "ytaffdppmpfgghaa", sum := "04722ab671f13ac22eb2afbc95949ee703d1e303cc16db8941bd4d0649c479ec", func := "loop.example/closingsticks/laws.FnFreeOr", spec := "fnFreeOr", unfollowed := true, recurses := true, apart := false }
def FnFreeOrSaid : Prop := fnFreeOrRow.holds Try.pinned (OpenSpec.ofChange fnFreeOrSpec)

/-- ITS FALSE NEIGHBOUR: 'it returns false'. Refute it at one input. -/
def fnFreeOrWrong : ChangeSpec := { name := "fnFreeOr", fn := fun _ => fun
  | [d] => { results := [.lit (.bool false)], args := [d] }
  | _ => none }
def FnFreeOrWrongFalsely : Prop := fnFreeOrRow.holds Try.pinned (OpenSpec.ofChange fnFreeOrWrong)

/-- 'laws.FnLongFree': WHATEVER THE INPUT: true; the input reads as it did. -/
def fnLongFreeSpec : ChangeSpec := { name := "fnLongFree", fn := fun _ => fun
  | [d] => { results := [.lit (.bool true)], args := [d] }
  | _ => none }
def fnLongFreeRow : OpenClaim := { program := "ytaffdppmpfgghaa", sum := "04722ab671f13ac22eb2afbc95949ee703d1e303cc16db8941bd4d0649c479ec", func := "loop.example/closingsticks/laws.FnLongFree", spec := "fnLongFree", unfollowed := true, recurses := true, apart := false }
def FnLongFreeSaid : Prop := fnLongFreeRow.holds Try.pinned (OpenSpec.ofChange fnLongFreeSpec)

/-- ITS FALSE NEIGHBOUR: 'it returns false'. Refute it at one input. -/
def fnLongFreeWrong : ChangeSpec := { name := "fnLongFree", fn := fun _ => fun
  | [d] => { results := [.lit (.bool false)], args := [d] }
  | _ => none }
def FnLongFreeWrongFalsely : Prop := fnLongFreeRow.holds Try.pinned (OpenSpec.ofChange fnLongFreeWrong)

/-- 'laws.FnTryFree': WHATEVER THE INPUT: true; the input reads as it did. -/
def fnTryFreeSpec : ChangeSpec := { name := "fnTryFree", fn := fun _ => fun
  | [d] => { results := [.lit (.bool true)], args := [d] }
  | _ => none }
def fnTryFreeRow : OpenClaim := { program := "ytaffdppmpfgghaa", sum := "04722ab671f13ac22eb2afbc95949ee703d1e303cc16db8941bd4d0649c479ec", func := "loop.example/closingsticks/laws.FnTryFree", spec := "fnTryFree", unfollowed := true, recurses := true, apart := false }
def FnTryFreeSaid : Prop := fnTryFreeRow.holds Try.pinned (OpenSpec.ofChange fnTryFreeSpec)

/-- ITS FALSE NEIGHBOUR: 'it returns false'. Refute it at one input. -/
def fnTryFreeWrong : ChangeSpec := { name := "fnTryFree", fn := fun _ => fun
  | [d] => { results := [.lit (.bool false)], args := [d] }
  | _ => none }
def FnTryFreeWrongFalsely : Prop := fnTryFreeRow.holds Try.pinned (OpenSpec.ofChange fnTryFreeWrong)

/-- 'laws.FnPut': WHATEVER THE INPUT: true; the input reads as it did. -/
def fnPutSpec : ChangeSpec := { name := "fnPut", fn := fun _ => fun
  | [d] => { results := [.lit (.bool true)], args := [d] }
  | _ => none }
def fnPutRow : OpenClaim := { program := "ytaffdppmpfgghaa", sum := "04722ab671f13ac22eb2afbc95949ee703d1e303cc16db8941bd4d0649c479ec", func := "loop.example/closingsticks/laws.FnPut", spec := "fnPut", unfollowed := true, recurses := true, apart := false }
def FnPutSaid : Prop := fnPutRow.holds Try.pinned (OpenSpec.ofChange fnPutSpec)

/-- ITS FALSE NEIGHBOUR: 'it returns false'. Refute it at one input. -/
def fnPutWrong : ChangeSpec := { name := "fnPut", fn := fun _ => fun
  | [d] => { results := [.lit (.bool false)], args := [d] }
  | _ => none }
def FnPutWrongFalsely : Prop := fnPutRow.holds Try.pinned (OpenSpec.ofChange fnPutWrong)

/-- 'laws.FnPolyMost': WHATEVER THE INPUT: true; the input reads as it did. -/
def fnPolyMostSpec : ChangeSpec := { name := "fnPolyMost", fn := fun _ => fun
  | [d] => { results := [.lit (.bool true)], args := [d] }
  | _ => none }
def fnPolyMostRow : OpenClaim := { program := "ytaffdppmpfgghaa", sum := "04722ab671f13ac22eb2afbc95949ee703d1e303cc16db8941bd4d0649c479ec", func := "loop.example/closingsticks/laws.FnPolyMost", spec := "fnPolyMost", unfollowed := true, recurses := true, apart := false }
def FnPolyMostSaid : Prop := fnPolyMostRow.holds Try.pinned (OpenSpec.ofChange fnPolyMostSpec)

/-- ITS FALSE NEIGHBOUR: 'it returns false'. Refute it at one input. -/
def fnPolyMostWrong : ChangeSpec := { name := "fnPolyMost", fn := fun _ => fun
  | [d] => { results := [.lit (.bool false)], args := [d] }
  | _ => none }
def FnPolyMostWrongFalsely : Prop := fnPolyMostRow.holds Try.pinned (OpenSpec.ofChange fnPolyMostWrong)

/-- 'laws.FnMay': WHATEVER THE INPUT: true; the input reads as it did. -/
def fnMaySpec : ChangeSpec := { name := "fnMay", fn := fun _ => fun
  | [d] => { results := [.lit (.bool true)], args := [d] }
  | _ => none }
def fnMayRow : OpenClaim := { program := "ytaffdppmpfgghaa", sum := "04722ab671f13ac22eb2afbc95949ee703d1e303cc16db8941bd4d0649c479ec", func := "loop.example/closingsticks/laws.FnMay", spec := "fnMay", unfollowed := true, recurses := true, apart := false }
def FnMaySaid : Prop := fnMayRow.holds Try.pinned (OpenSpec.ofChange fnMaySpec)

/-- ITS FALSE NEIGHBOUR: 'it returns false'. Refute it at one input. -/
def fnMayWrong : ChangeSpec := { name := "fnMay", fn := fun _ => fun
  | [d] => { results := [.lit (.bool false)], args := [d] }
  | _ => none }
def FnMayWrongFalsely : Prop := fnMayRow.holds Try.pinned (OpenSpec.ofChange fnMayWrong)

/-- 'laws.FnPartWays': WHATEVER THE INPUT: true; the input reads as it did. -/
def fnPartWaysSpec : ChangeSpec := { name := "fnPartWays", fn := fun _ => fun
  | [d] => { results := [.lit (.bool true)], args := [d] }
  | _ => none }
def fnPartWaysRow : OpenClaim := { program := "ytaffdppmpfgghaa", sum := "04722ab671f13ac22eb2afbc95949ee703d1e303cc16db8941bd4d0649c479ec", func := "loop.example/closingsticks/laws.FnPartWays", spec := "fnPartWays", unfollowed := true, recurses := true, apart := false }
def FnPartWaysSaid : Prop := fnPartWaysRow.holds Try.pinned (OpenSpec.ofChange fnPartWaysSpec)

/-- ITS FALSE NEIGHBOUR: 'it returns false'. Refute it at one input. -/
def fnPartWaysWrong : ChangeSpec := { name := "fnPartWays", fn := fun _ => fun
  | [d] => { results := [.lit (.bool false)], args := [d] }
  | _ => none }
def FnPartWaysWrongFalsely : Prop := fnPartWaysRow.holds Try.pinned (OpenSpec.ofChange fnPartWaysWrong)

/-- 'laws.FnPartMost': WHATEVER THE INPUT: true; the input reads as it did. -/
def fnPartMostSpec : ChangeSpec := { name := "fnPartMost", fn := fun _ => fun
  | [d] => { results := [.lit (.bool true)], args := [d] }
  | _ => none }
def fnPartMostRow : OpenClaim := { program := "ytaffdppmpfgghaa", sum := "04722ab671f13ac22eb2afbc95949ee703d1e303cc16db8941bd4d0649c479ec", func := "loop.example/closingsticks/laws.FnPartMost", spec := "fnPartMost", unfollowed := true, recurses := true, apart := false }
def FnPartMostSaid : Prop := fnPartMostRow.holds Try.pinned (OpenSpec.ofChange fnPartMostSpec)

/-- ITS FALSE NEIGHBOUR: 'it returns false'. Refute it at one input. -/
def fnPartMostWrong : ChangeSpec := { name := "fnPartMost", fn := fun _ => fun
  | [d] => { results := [.lit (.bool false)], args := [d] }
  | _ => none }
def FnPartMostWrongFalsely : Prop := fnPartMostRow.holds Try.pinned (OpenSpec.ofChange fnPartMostWrong)

/-- 'laws.FnPartFirst': WHATEVER THE INPUT: true; the input reads as it did. -/
def fnPartFirstSpec : ChangeSpec := { name := "fnPartFirst", fn := fun _ => fun
  | [d] => { results := [.lit (.bool true)], args := [d] }
  | _ => none }
def fnPartFirstRow : OpenClaim := { program := "ytaffdppmpfgghaa", sum := "04722ab671f13ac22eb2afbc95949ee703d1e303cc16db8941bd4d0649c479ec", func := "loop.example/closingsticks/laws.FnPartFirst", spec := "fnPartFirst", unfollowed := true, recurses := true, apart := false }
def FnPartFirstSaid : Prop := fnPartFirstRow.holds Try.pinned (OpenSpec.ofChange fnPartFirstSpec)

/-- ITS FALSE NEIGHBOUR: 'it returns false'. Refute it at one input. -/
def fnPartFirstWrong : ChangeSpec := { name := "fnPartFirst", fn := fun _ => fun
  | [d] => { results := [.lit (.bool false)], args := [d] }
  | _ => none }
def FnPartFirstWrongFalsely : Prop := fnPartFirstRow.holds Try.pinned (OpenSpec.ofChange fnPartFirstWrong)

/-- 'laws.FnPartIs': WHATEVER THE INPUT: true; the input reads as it did. -/
def fnPartIsSpec : ChangeSpec := { name := "fnPartIs", fn := fun _ => fun
  | [d] => { results := [.lit (.bool true)], args := [d] }
  | _ => none }
def fnPartIsRow : OpenClaim := { program := "ytaffdppmpfgghaa", sum := "04722ab671f13ac22eb2afbc95949ee703d1e303cc16db8941bd4d0649c479ec", func := "loop.example/closingsticks/laws.FnPartIs", spec := "fnPartIs", unfollowed := true, recurses := true, apart := false }
def FnPartIsSaid : Prop := fnPartIsRow.holds Try.pinned (OpenSpec.ofChange fnPartIsSpec)

/-- ITS FALSE NEIGHBOUR: 'it returns false'. Refute it at one input. -/
def fnPartIsWrong : ChangeSpec := { name := "fnPartIs", fn := fun _ => fun
  | [d] => { results := [.lit (.bool false)], args := [d] }
  | _ => none }
def FnPartIsWrongFalsely : Prop := fnPartIsRow.holds Try.pinned (OpenSpec.ofChange fnPartIsWrong)

/-- 'laws.FnPartRound': WHATEVER THE INPUT: true; the input reads as it did. -/
def fnPartRoundSpec : ChangeSpec := { name := "fnPartRound", fn := fun _ => fun
  | [d] => { results := [.lit (.bool true)], args := [d] }
  | _ => none }
def fnPartRoundRow : OpenClaim := { program := "ytaffdppmpfgghaa", sum := "04722ab671f13ac22eb2afbc95949ee703d1e303cc16db8941bd4d0649c479ec", func := "loop.example/closingsticks/laws.FnPartRound", spec := "fnPartRound", unfollowed := true, recurses := true, apart := false }
def FnPartRoundSaid : Prop := fnPartRoundRow.holds Try.pinned (OpenSpec.ofChange fnPartRoundSpec)

/-- ITS FALSE NEIGHBOUR: 'it returns false'. Refute it at one input. -/
def fnPartRoundWrong : ChangeSpec := { name := "fnPartRound", fn := fun _ => fun
  | [d] => { results := [.lit (.bool false)], args := [d] }
  | _ => none }
def FnPartRoundWrongFalsely : Prop := fnPartRoundRow.holds Try.pinned (OpenSpec.ofChange fnPartRoundWrong)

/-- 'laws.FnPartEqual': WHATEVER THE INPUT: true; the input reads as it did. -/
def fnPartEqualSpec : ChangeSpec := { name := "fnPartEqual", fn := fun _ => fun
  | [d] => { results := [.lit (.bool true)], args := [d] }
  | _ => none }
def fnPartEqualRow : OpenClaim := { program := "ytaffdppmpfgghaa", sum := "04722ab671f13ac22eb2afbc95949ee703d1e303cc16db8941bd4d0649c479ec", func := "loop.example/closingsticks/laws.FnPartEqual", spec := "fnPartEqual", unfollowed := true, recurses := true, apart := false }
def FnPartEqualSaid : Prop := fnPartEqualRow.holds Try.pinned (OpenSpec.ofChange fnPartEqualSpec)

/-- ITS FALSE NEIGHBOUR: 'it returns false'. Refute it at one input. -/
def fnPartEqualWrong : ChangeSpec := { name := "fnPartEqual", fn := fun _ => fun
  | [d] => { results := [.lit (.bool false)], args := [d] }
  | _ => none }
def FnPartEqualWrongFalsely : Prop := fnPartEqualRow.holds Try.pinned (OpenSpec.ofChange fnPartEqualWrong)

/-- 'laws.FnPartSort': WHATEVER THE INPUT: true; the input reads as it did. -/
def fnPartSortSpec : ChangeSpec := { name := "fnPartSort", fn := fun _ => fun
  | [d] => { results := [.lit (.bool true)], args := [d] }
  | _ => none }
def fnPartSortRow : OpenClaim := { program := "ytaffdppmpfgghaa", sum := "04722ab671f13ac22eb2afbc95949ee703d1e303cc16db8941bd4d0649c479ec", func := "loop.example/closingsticks/laws.FnPartSort", spec := "fnPartSort", unfollowed := true, recurses := true, apart := false }
def FnPartSortSaid : Prop := fnPartSortRow.holds Try.pinned (OpenSpec.ofChange fnPartSortSpec)

/-- ITS FALSE NEIGHBOUR: 'it returns false'. Refute it at one input. -/
def fnPartSortWrong : ChangeSpec := { name := "fnPartSort", fn := fun _ => fun
  | [d] => { results := [.lit (.bool false)], args := [d] }
  | _ => none }
def FnPartSortWrongFalsely : Prop := fnPartSortRow.holds Try.pinned (OpenSpec.ofChange fnPartSortWrong)

/-- 'laws.FnExactStickMany': WHATEVER THE INPUT: true; the input reads as it did. -/
def fnExactStickManySpec : ChangeSpec := { name := "fnExactStickMany", fn := fun _ => fun
  | [d] => { results := [.lit (.bool true)], args := [d] }
  | _ => none }
def fnExactStickManyRow : OpenClaim := { program := "ytaffdppmpfgghaa", sum := "04722ab671f13ac22eb2afbc95949ee703d1e303cc16db8941bd4d0649c479ec", func := "loop.example/closingsticks/laws.FnExactStickMany", spec := "fnExactStickMany", unfollowed := true, recurses := true, apart := false }
def FnExactStickManySaid : Prop := fnExactStickManyRow.holds Try.pinned (OpenSpec.ofChange fnExactStickManySpec)

/-- ITS FALSE NEIGHBOUR: 'it returns false'. Refute it at one input. -/
def fnExactStickManyWrong : ChangeSpec := { name := "fnExactStickMany", fn := fun _ => fun
  | [d] => { results := [.lit (.bool false)], args := [d] }
  | _ => none }
def FnExactStickManyWrongFalsely : Prop := fnExactStickManyRow.holds Try.pinned (OpenSpec.ofChange fnExactStickManyWrong)

/-- 'laws.FnExactStickFree': WHATEVER THE INPUT: true; the input reads as it did. -/
def fnExactStickFreeSpec : ChangeSpec := { name := "fnExactStickFree", fn := fun _ => fun
  | [d] => { results := [.lit (.bool true)], args := [d] }
  | _ => none }
def fnExactStickFreeRow : OpenClaim := { program := "ytaffdppmpfgghaa", sum := "04722ab671f13ac22eb2afbc95949ee703d1e303cc16db8941bd4d0649c479ec", func := "loop.example/closingsticks/laws.FnExactStickFree", spec := "fnExactStickFree", unfollowed := true, recurses := true, apart := false }
def FnExactStickFreeSaid : Prop := fnExactStickFreeRow.holds Try.pinned (OpenSpec.ofChange fnExactStickFreeSpec)

/-- ITS FALSE NEIGHBOUR: 'it returns false'. Refute it at one input. -/
def fnExactStickFreeWrong : ChangeSpec := { name := "fnExactStickFree", fn := fun _ => fun
  | [d] => { results := [.lit (.bool false)], args := [d] }
  | _ => none }
def FnExactStickFreeWrongFalsely : Prop := fnExactStickFreeRow.holds Try.pinned (OpenSpec.ofChange fnExactStickFreeWrong)

/-- 'laws.FnExactStickTryFree': WHATEVER THE INPUT: true; the input reads as it did. -/
def fnExactStickTryFreeSpec : ChangeSpec := { name := "fnExactStickTryFree", fn := fun _ => fun
  | [d] => { results := [.lit (.bool true)], args := [d] }
  | _ => none }
def fnExactStickTryFreeRow : OpenClaim := { program := "ytaffdppmpfgghaa", sum := "04722ab671f13ac22eb2afbc95949ee703d1e303cc16db8941bd4d0649c479ec", func := "loop.example/closingsticks/laws.FnExactStickTryFree", spec := "fnExactStickTryFree", unfollowed := true, recurses := true, apart := false }
def FnExactStickTryFreeSaid : Prop := fnExactStickTryFreeRow.holds Try.pinned (OpenSpec.ofChange fnExactStickTryFreeSpec)

/-- ITS FALSE NEIGHBOUR: 'it returns false'. Refute it at one input. -/
def fnExactStickTryFreeWrong : ChangeSpec := { name := "fnExactStickTryFree", fn := fun _ => fun
  | [d] => { results := [.lit (.bool false)], args := [d] }
  | _ => none }
def FnExactStickTryFreeWrongFalsely : Prop := fnExactStickTryFreeRow.holds Try.pinned (OpenSpec.ofChange fnExactStickTryFreeWrong)

/-- 'laws.FnExactPartMay': WHATEVER THE INPUT: true; the input reads as it did. -/
def fnExactPartMaySpec : ChangeSpec := { name := "fnExactPartMay", fn := fun _ => fun
  | [d] => { results := [.lit (.bool true)], args := [d] }
  | _ => none }
def fnExactPartMayRow : OpenClaim := { program := "ytaffdppmpfgghaa", sum := "04722ab671f13ac22eb2afbc95949ee703d1e303cc16db8941bd4d0649c479ec", func := "loop.example/closingsticks/laws.FnExactPartMay", spec := "fnExactPartMay", unfollowed := true, recurses := true, apart := false }
def FnExactPartMaySaid : Prop := fnExactPartMayRow.holds Try.pinned (OpenSpec.ofChange fnExactPartMaySpec)

/-- ITS FALSE NEIGHBOUR: 'it returns false'. Refute it at one input. -/
def fnExactPartMayWrong : ChangeSpec := { name := "fnExactPartMay", fn := fun _ => fun
  | [d] => { results := [.lit (.bool false)], args := [d] }
  | _ => none }
def FnExactPartMayWrongFalsely : Prop := fnExactPartMayRow.holds Try.pinned (OpenSpec.ofChange fnExactPartMayWrong)

/-- 'laws.FnExactPartWays': WHATEVER THE INPUT: true; the input reads as it did. -/
def fnExactPartWaysSpec : ChangeSpec := { name := "fnExactPartWays", fn := fun _ => fun
  | [d] => { results := [.lit (.bool true)], args := [d] }
  | _ => none }
def fnExactPartWaysRow : OpenClaim := { program := "ytaffdppmpfgghaa", sum := "04722ab671f13ac22eb2afbc95949ee703d1e303cc16db8941bd4d0649c479ec", func := "loop.example/closingsticks/laws.FnExactPartWays", spec := "fnExactPartWays", unfollowed := true, recurses := true, apart := false }
def FnExactPartWaysSaid : Prop := fnExactPartWaysRow.holds Try.pinned (OpenSpec.ofChange fnExactPartWaysSpec)

/-- ITS FALSE NEIGHBOUR: 'it returns false'. Refute it at one input. -/
def fnExactPartWaysWrong : ChangeSpec := { name := "fnExactPartWays", fn := fun _ => fun
  | [d] => { results := [.lit (.bool false)], args := [d] }
  | _ => none }
def FnExactPartWaysWrongFalsely : Prop := fnExactPartWaysRow.holds Try.pinned (OpenSpec.ofChange fnExactPartWaysWrong)

/-- 'laws.FnExactPartMost': WHATEVER THE INPUT: true; the input reads as it did. -/
def fnExactPartMostSpec : ChangeSpec := { name := "fnExactPartMost", fn := fun _ => fun
  | [d] => { results := [.lit (.bool true)], args := [d] }
  | _ => none }
def fnExactPartMostRow : OpenClaim := { program := "ytaffdppmpfgghaa", sum := "04722ab671f13ac22eb2afbc95949ee703d1e303cc16db8941bd4d0649c479ec", func := "loop.example/closingsticks/laws.FnExactPartMost", spec := "fnExactPartMost", unfollowed := true, recurses := true, apart := false }
def FnExactPartMostSaid : Prop := fnExactPartMostRow.holds Try.pinned (OpenSpec.ofChange fnExactPartMostSpec)

/-- ITS FALSE NEIGHBOUR: 'it returns false'. Refute it at one input. -/
def fnExactPartMostWrong : ChangeSpec := { name := "fnExactPartMost", fn := fun _ => fun
  | [d] => { results := [.lit (.bool false)], args := [d] }
  | _ => none }
def FnExactPartMostWrongFalsely : Prop := fnExactPartMostRow.holds Try.pinned (OpenSpec.ofChange fnExactPartMostWrong)

/-- 'laws.FnExactPartFirst': WHATEVER THE INPUT: true; the input reads as it did. -/
def fnExactPartFirstSpec : ChangeSpec := { name := "fnExactPartFirst", fn := fun _ => fun
  | [d] => { results := [.lit (.bool true)], args := [d] }
  | _ => none }
def fnExactPartFirstRow : OpenClaim := { program := "ytaffdppmpfgghaa", sum := "04722ab671f13ac22eb2afbc95949ee703d1e303cc16db8941bd4d0649c479ec", func := "loop.example/closingsticks/laws.FnExactPartFirst", spec := "fnExactPartFirst", unfollowed := true, recurses := true, apart := false }
def FnExactPartFirstSaid : Prop := fnExactPartFirstRow.holds Try.pinned (OpenSpec.ofChange fnExactPartFirstSpec)

/-- ITS FALSE NEIGHBOUR: 'it returns false'. Refute it at one input. -/
def fnExactPartFirstWrong : ChangeSpec := { name := "fnExactPartFirst", fn := fun _ => fun
  | [d] => { results := [.lit (.bool false)], args := [d] }
  | _ => none }
def FnExactPartFirstWrongFalsely : Prop := fnExactPartFirstRow.holds Try.pinned (OpenSpec.ofChange fnExactPartFirstWrong)

/-- 'laws.FnExactPartIs': WHATEVER THE INPUT: true; the input reads as it did. -/
def fnExactPartIsSpec : ChangeSpec := { name := "fnExactPartIs", fn := fun _ => fun
  | [d1, d2] => { results := [.lit (.bool true)], args := [d1, d2] }
  | _ => none }
def fnExactPartIsRow : OpenClaim := { program := "ytaffdppmpfgghaa", sum := "04722ab671f13ac22eb2afbc95949ee703d1e303cc16db8941bd4d0649c479ec", func := "loop.example/closingsticks/laws.FnExactPartIs", spec := "fnExactPartIs", apart := false }
def FnExactPartIsSaid : Prop := fnExactPartIsRow.holds Try.pinned (OpenSpec.ofChange fnExactPartIsSpec)

/-- ITS FALSE NEIGHBOUR: 'it returns false'. Refute it at one input. -/
def fnExactPartIsWrong : ChangeSpec := { name := "fnExactPartIs", fn := fun _ => fun
  | [d1, d2] => { results := [.lit (.bool false)], args := [d1, d2] }
  | _ => none }
def FnExactPartIsWrongFalsely : Prop := fnExactPartIsRow.holds Try.pinned (OpenSpec.ofChange fnExactPartIsWrong)

/-- 'laws.FnExactPartRound': WHATEVER THE INPUT: true; the input reads as it did. -/
def fnExactPartRoundSpec : ChangeSpec := { name := "fnExactPartRound", fn := fun _ => fun
  | [d] => { results := [.lit (.bool true)], args := [d] }
  | _ => none }
def fnExactPartRoundRow : OpenClaim := { program := "ytaffdppmpfgghaa", sum := "04722ab671f13ac22eb2afbc95949ee703d1e303cc16db8941bd4d0649c479ec", func := "loop.example/closingsticks/laws.FnExactPartRound", spec := "fnExactPartRound", unfollowed := true, recurses := true, apart := false }
def FnExactPartRoundSaid : Prop := fnExactPartRoundRow.holds Try.pinned (OpenSpec.ofChange fnExactPartRoundSpec)

/-- ITS FALSE NEIGHBOUR: 'it returns false'. Refute it at one input. -/
def fnExactPartRoundWrong : ChangeSpec := { name := "fnExactPartRound", fn := fun _ => fun
  | [d] => { results := [.lit (.bool false)], args := [d] }
  | _ => none }
def FnExactPartRoundWrongFalsely : Prop := fnExactPartRoundRow.holds Try.pinned (OpenSpec.ofChange fnExactPartRoundWrong)

/-- 'laws.FnExactPartEqual': WHATEVER THE INPUT: true; the input reads as it did. -/
def fnExactPartEqualSpec : ChangeSpec := { name := "fnExactPartEqual", fn := fun _ => fun
  | [d] => { results := [.lit (.bool true)], args := [d] }
  | _ => none }
def fnExactPartEqualRow : OpenClaim := { program := "ytaffdppmpfgghaa", sum := "04722ab671f13ac22eb2afbc95949ee703d1e303cc16db8941bd4d0649c479ec", func := "loop.example/closingsticks/laws.FnExactPartEqual", spec := "fnExactPartEqual", unfollowed := true, recurses := true, apart := false }
def FnExactPartEqualSaid : Prop := fnExactPartEqualRow.holds Try.pinned (OpenSpec.ofChange fnExactPartEqualSpec)

/-- ITS FALSE NEIGHBOUR: 'it returns false'. Refute it at one input. -/
def fnExactPartEqualWrong : ChangeSpec := { name := "fnExactPartEqual", fn := fun _ => fun
  | [d] => { results := [.lit (.bool false)], args := [d] }
  | _ => none }
def FnExactPartEqualWrongFalsely : Prop := fnExactPartEqualRow.holds Try.pinned (OpenSpec.ofChange fnExactPartEqualWrong)

/-- 'laws.FnExactPartTwo': WHATEVER THE INPUT: true; the input reads as it did. -/
def fnExactPartTwoSpec : ChangeSpec := { name := "fnExactPartTwo", fn := fun _ => fun
  | [d] => { results := [.lit (.bool true)], args := [d] }
  | _ => none }
def fnExactPartTwoRow : OpenClaim := { program := "ytaffdppmpfgghaa", sum := "04722ab671f13ac22eb2afbc95949ee703d1e303cc16db8941bd4d0649c479ec", func := "loop.example/closingsticks/laws.FnExactPartTwo", spec := "fnExactPartTwo", recurses := true, apart := false }
def FnExactPartTwoSaid : Prop := fnExactPartTwoRow.holds Try.pinned (OpenSpec.ofChange fnExactPartTwoSpec)

/-- ITS FALSE NEIGHBOUR: 'it returns false'. Refute it at one input. -/
def fnExactPartTwoWrong : ChangeSpec := { name := "fnExactPartTwo", fn := fun _ => fun
  | [d] => { results := [.lit (.bool false)], args := [d] }
  | _ => none }
def FnExactPartTwoWrongFalsely : Prop := fnExactPartTwoRow.holds Try.pinned (OpenSpec.ofChange fnExactPartTwoWrong)

/- THE SECOND FORM. 'bulk': how many values and letters a reading holds, each counted each time it is reached (what is shared counts as often as it is met; a slice's spare places count too). A statement '..UptoSaid' is the law's where the arguments, and the package variables that the reading takes, are together of bulk at most 1048576: NARROWER than '..Said'. Prove '..Said' where nothing that the law and all that it calls make is longer than what came in: it says more and counts as full. Else prove '..UptoSaid'. A law counts once. -/
mutual
def uptoBulk {H : Type} : DataW H → Nat
  | .lit (.string bytes) => bytes.length + 1
  | .lit _ => 1
  | .nil => 1
  | .ptr d => uptoBulk d + 1
  | .slice elems spare => uptoBulkAll elems + uptoBulkAll spare + 1
  | .agg parts => uptoBulkAll parts + 1
  | .iface _ d => uptoBulk d + 1
  | .map entries => uptoBulkEntries entries + 1
  | .held _ => 1
def uptoBulkAll {H : Type} : List (DataW H) → Nat
  | [] => 0
  | d :: r => uptoBulk d + uptoBulkAll r
def uptoBulkEntries {H : Type} : List (Lit × DataW H) → Nat
  | [] => 0
  | x :: r => uptoBulkEntry x + uptoBulkEntries r
def uptoBulkEntry {H : Type} : Lit × DataW H → Nat
  | (.string bytes, d) => bytes.length + uptoBulk d + 1
  | (_, d) => uptoBulk d + 1
 end
def uptoSmall : (H : Type) → List (DataW H) → Bool := fun _ ds => decide (uptoBulkAll ds ≤ 1048576)
def OpenSpec.upto (s : _root_.Go.ChangeSpec) : _root_.Go.OpenSpec := { _root_.Go.OpenSpec.ofChange s with cond := some uptoSmall }

/-- 'laws.FnMany', WHERE WHAT IT READS IS OF BULK AT MOST 1048576: true; the input reads as it did. -/
def fnManyUptoRow : OpenClaim := { program := "ytaffdppmpfgghaa", sum := "04722ab671f13ac22eb2afbc95949ee703d1e303cc16db8941bd4d0649c479ec", func := "loop.example/closingsticks/laws.FnMany", spec := "fnMany", unfollowed := true, recurses := true, apart := false, narrowed := true }
def FnManyUptoSaid : Prop := fnManyUptoRow.holds Try.pinned (OpenSpec.upto fnManySpec)

/-- 'laws.FnWidest', WHERE WHAT IT READS IS OF BULK AT MOST 1048576: true; the input reads as it did. -/
def fnWidestUptoRow : OpenClaim := { program := "ytaffdppmpfgghaa", sum := "04722ab671f13ac22eb2afbc95949ee703d1e303cc16db8941bd4d0649c479ec", func := "loop.example/closingsticks/laws.FnWidest", spec := "fnWidest", unfollowed := true, recurses := true, apart := false, narrowed := true }
def FnWidestUptoSaid : Prop := fnWidestUptoRow.holds Try.pinned (OpenSpec.upto fnWidestSpec)

/-- 'laws.FnFree', WHERE WHAT IT READS IS OF BULK AT MOST 1048576: true; the input reads as it did. -/
def fnFreeUptoRow : OpenClaim := { program := "ytaffdppmpfgghaa", sum := "04722ab671f13ac22eb2afbc95949ee703d1e303cc16db8941bd4d0649c479ec", func := "loop.example/closingsticks/laws.FnFree", spec := "fnFree", unfollowed := true, recurses := true, apart := false, narrowed := true }
def FnFreeUptoSaid : Prop := fnFreeUptoRow.holds Try.pinned (OpenSpec.upto fnFreeSpec)

/-- 'laws.FnFreeOr', WHERE WHAT IT READS IS OF BULK AT MOST 1048576: true; the input reads as it did. -/
def fnFreeOrUptoRow : OpenClaim := { program := "ytaffdppmpfgghaa", sum := "04722ab671f13ac22eb2afbc95949ee703d1e303cc16db8941bd4d0649c479ec", func := "loop.example/closingsticks/laws.FnFreeOr", spec := "fnFreeOr", unfollowed := true, recurses := true, apart := false, narrowed := true }
def FnFreeOrUptoSaid : Prop := fnFreeOrUptoRow.holds Try.pinned (OpenSpec.upto fnFreeOrSpec)

/-- 'laws.FnLongFree', WHERE WHAT IT READS IS OF BULK AT MOST 1048576: true; the input reads as it did. -/
def fnLongFreeUptoRow : OpenClaim := { program := "ytaffdppmpfgghaa", sum := "04722ab671f13ac22eb2afbc95949ee703d1e303cc16db8941bd4d0649c479ec", func := "loop.example/closingsticks/laws.FnLongFree", spec := "fnLongFree", unfollowed := true, recurses := true, apart := false, narrowed := true }
def FnLongFreeUptoSaid : Prop := fnLongFreeUptoRow.holds Try.pinned (OpenSpec.upto fnLongFreeSpec)

/-- 'laws.FnTryFree', WHERE WHAT IT READS IS OF BULK AT MOST 1048576: true; the input reads as it did. -/
def fnTryFreeUptoRow : OpenClaim := { program := "ytaffdppmpfgghaa", sum := "04722ab671f13ac22eb2afbc95949ee703d1e303cc16db8941bd4d0649c479ec", func := "loop.example/closingsticks/laws.FnTryFree", spec := "fnTryFree", unfollowed := true, recurses := true, apart := false, narrowed := true }
def FnTryFreeUptoSaid : Prop := fnTryFreeUptoRow.holds Try.pinned (OpenSpec.upto fnTryFreeSpec)

/-- 'laws.FnPut', WHERE WHAT IT READS IS OF BULK AT MOST 1048576: true; the input reads as it did. -/
def fnPutUptoRow : OpenClaim := { program := "ytaffdppmpfgghaa", sum := "04722ab671f13ac22eb2afbc95949ee703d1e303cc16db8941bd4d0649c479ec", func := "loop.example/closingsticks/laws.FnPut", spec := "fnPut", unfollowed := true, recurses := true, apart := false, narrowed := true }
def FnPutUptoSaid : Prop := fnPutUptoRow.holds Try.pinned (OpenSpec.upto fnPutSpec)

/-- 'laws.FnPolyMost', WHERE WHAT IT READS IS OF BULK AT MOST 1048576: true; the input reads as it did. -/
def fnPolyMostUptoRow : OpenClaim := { program := "ytaffdppmpfgghaa", sum := "04722ab671f13ac22eb2afbc95949ee703d1e303cc16db8941bd4d0649c479ec", func := "loop.example/closingsticks/laws.FnPolyMost", spec := "fnPolyMost", unfollowed := true, recurses := true, apart := false, narrowed := true }
def FnPolyMostUptoSaid : Prop := fnPolyMostUptoRow.holds Try.pinned (OpenSpec.upto fnPolyMostSpec)

/-- 'laws.FnMay', WHERE WHAT IT READS IS OF BULK AT MOST 1048576: true; the input reads as it did. -/
def fnMayUptoRow : OpenClaim := { program := "ytaffdppmpfgghaa", sum := "04722ab671f13ac22eb2afbc95949ee703d1e303cc16db8941bd4d0649c479ec", func := "loop.example/closingsticks/laws.FnMay", spec := "fnMay", unfollowed := true, recurses := true, apart := false, narrowed := true }
def FnMayUptoSaid : Prop := fnMayUptoRow.holds Try.pinned (OpenSpec.upto fnMaySpec)

/-- 'laws.FnPartWays', WHERE WHAT IT READS IS OF BULK AT MOST 1048576: true; the input reads as it did. -/
def fnPartWaysUptoRow : OpenClaim := { program := "ytaffdppmpfgghaa", sum := "04722ab671f13ac22eb2afbc95949ee703d1e303cc16db8941bd4d0649c479ec", func := "loop.example/closingsticks/laws.FnPartWays", spec := "fnPartWays", unfollowed := true, recurses := true, apart := false, narrowed := true }
def FnPartWaysUptoSaid : Prop := fnPartWaysUptoRow.holds Try.pinned (OpenSpec.upto fnPartWaysSpec)

/-- 'laws.FnPartMost', WHERE WHAT IT READS IS OF BULK AT MOST 1048576: true; the input reads as it did. -/
def fnPartMostUptoRow : OpenClaim := { program := "ytaffdppmpfgghaa", sum := "04722ab671f13ac22eb2afbc95949ee703d1e303cc16db8941bd4d0649c479ec", func := "loop.example/closingsticks/laws.FnPartMost", spec := "fnPartMost", unfollowed := true, recurses := true, apart := false, narrowed := true }
def FnPartMostUptoSaid : Prop := fnPartMostUptoRow.holds Try.pinned (OpenSpec.upto fnPartMostSpec)

/-- 'laws.FnPartFirst', WHERE WHAT IT READS IS OF BULK AT MOST 1048576: true; the input reads as it did. -/
def fnPartFirstUptoRow : OpenClaim := { program := "ytaffdppmpfgghaa", sum := "04722ab671f13ac22eb2afbc95949ee703d1e303cc16db8941bd4d0649c479ec", func := "loop.example/closingsticks/laws.FnPartFirst", spec := "fnPartFirst", unfollowed := true, recurses := true, apart := false, narrowed := true }
def FnPartFirstUptoSaid : Prop := fnPartFirstUptoRow.holds Try.pinned (OpenSpec.upto fnPartFirstSpec)

/-- 'laws.FnPartIs', WHERE WHAT IT READS IS OF BULK AT MOST 1048576: true; the input reads as it did. -/
def fnPartIsUptoRow : OpenClaim := { program := "ytaffdppmpfgghaa", sum := "04722ab671f13ac22eb2afbc95949ee703d1e303cc16db8941bd4d0649c479ec", func := "loop.example/closingsticks/laws.FnPartIs", spec := "fnPartIs", unfollowed := true, recurses := true, apart := false, narrowed := true }
def FnPartIsUptoSaid : Prop := fnPartIsUptoRow.holds Try.pinned (OpenSpec.upto fnPartIsSpec)

/-- 'laws.FnPartRound', WHERE WHAT IT READS IS OF BULK AT MOST 1048576: true; the input reads as it did. -/
def fnPartRoundUptoRow : OpenClaim := { program := "ytaffdppmpfgghaa", sum := "04722ab671f13ac22eb2afbc95949ee703d1e303cc16db8941bd4d0649c479ec", func := "loop.example/closingsticks/laws.FnPartRound", spec := "fnPartRound", unfollowed := true, recurses := true, apart := false, narrowed := true }
def FnPartRoundUptoSaid : Prop := fnPartRoundUptoRow.holds Try.pinned (OpenSpec.upto fnPartRoundSpec)

/-- 'laws.FnPartEqual', WHERE WHAT IT READS IS OF BULK AT MOST 1048576: true; the input reads as it did. -/
def fnPartEqualUptoRow : OpenClaim := { program := "ytaffdppmpfgghaa", sum := "04722ab671f13ac22eb2afbc95949ee703d1e303cc16db8941bd4d0649c479ec", func := "loop.example/closingsticks/laws.FnPartEqual", spec := "fnPartEqual", unfollowed := true, recurses := true, apart := false, narrowed := true }
def FnPartEqualUptoSaid : Prop := fnPartEqualUptoRow.holds Try.pinned (OpenSpec.upto fnPartEqualSpec)

/-- 'laws.FnPartSort', WHERE WHAT IT READS IS OF BULK AT MOST 1048576: true; the input reads as it did. -/
def fnPartSortUptoRow : OpenClaim := { program := "ytaffdppmpfgghaa", sum := "04722ab671f13ac22eb2afbc95949ee703d1e303cc16db8941bd4d0649c479ec", func := "loop.example/closingsticks/laws.FnPartSort", spec := "fnPartSort", unfollowed := true, recurses := true, apart := false, narrowed := true }
def FnPartSortUptoSaid : Prop := fnPartSortUptoRow.holds Try.pinned (OpenSpec.upto fnPartSortSpec)

/-- 'laws.FnExactStickMany', WHERE WHAT IT READS IS OF BULK AT MOST 1048576: true; the input reads as it did. -/
def fnExactStickManyUptoRow : OpenClaim := { program := "ytaffdppmpfgghaa", sum := "04722ab671f13ac22eb2afbc95949ee703d1e303cc16db8941bd4d0649c479ec", func := "loop.example/closingsticks/laws.FnExactStickMany", spec := "fnExactStickMany", unfollowed := true, recurses := true, apart := false, narrowed := true }
def FnExactStickManyUptoSaid : Prop := fnExactStickManyUptoRow.holds Try.pinned (OpenSpec.upto fnExactStickManySpec)

/-- 'laws.FnExactStickFree', WHERE WHAT IT READS IS OF BULK AT MOST 1048576: true; the input reads as it did. -/
def fnExactStickFreeUptoRow : OpenClaim := { program := "ytaffdppmpfgghaa", sum := "04722ab671f13ac22eb2afbc95949ee703d1e303cc16db8941bd4d0649c479ec", func := "loop.example/closingsticks/laws.FnExactStickFree", spec := "fnExactStickFree", unfollowed := true, recurses := true, apart := false, narrowed := true }
def FnExactStickFreeUptoSaid : Prop := fnExactStickFreeUptoRow.holds Try.pinned (OpenSpec.upto fnExactStickFreeSpec)

/-- 'laws.FnExactStickTryFree', WHERE WHAT IT READS IS OF BULK AT MOST 1048576: true; the input reads as it did. -/
def fnExactStickTryFreeUptoRow : OpenClaim := { program := "ytaffdppmpfgghaa", sum := "04722ab671f13ac22eb2afbc95949ee703d1e303cc16db8941bd4d0649c479ec", func := "loop.example/closingsticks/laws.FnExactStickTryFree", spec := "fnExactStickTryFree", unfollowed := true, recurses := true, apart := false, narrowed := true }
def FnExactStickTryFreeUptoSaid : Prop := fnExactStickTryFreeUptoRow.holds Try.pinned (OpenSpec.upto fnExactStickTryFreeSpec)

/-- 'laws.FnExactPartMay', WHERE WHAT IT READS IS OF BULK AT MOST 1048576: true; the input reads as it did. -/
def fnExactPartMayUptoRow : OpenClaim := { program := "ytaffdppmpfgghaa", sum := "04722ab671f13ac22eb2afbc95949ee703d1e303cc16db8941bd4d0649c479ec", func := "loop.example/closingsticks/laws.FnExactPartMay", spec := "fnExactPartMay", unfollowed := true, recurses := true, apart := false, narrowed := true }
def FnExactPartMayUptoSaid : Prop := fnExactPartMayUptoRow.holds Try.pinned (OpenSpec.upto fnExactPartMaySpec)

/-- 'laws.FnExactPartWays', WHERE WHAT IT READS IS OF BULK AT MOST 1048576: true; the input reads as it did. -/
def fnExactPartWaysUptoRow : OpenClaim := { program := "ytaffdppmpfgghaa", sum := "04722ab671f13ac22eb2afbc95949ee703d1e303cc16db8941bd4d0649c479ec", func := "loop.example/closingsticks/laws.FnExactPartWays", spec := "fnExactPartWays", unfollowed := true, recurses := true, apart := false, narrowed := true }
def FnExactPartWaysUptoSaid : Prop := fnExactPartWaysUptoRow.holds Try.pinned (OpenSpec.upto fnExactPartWaysSpec)

/-- 'laws.FnExactPartMost', WHERE WHAT IT READS IS OF BULK AT MOST 1048576: true; the input reads as it did. -/
def fnExactPartMostUptoRow : OpenClaim := { program := "ytaffdppmpfgghaa", sum := "04722ab671f13ac22eb2afbc95949ee703d1e303cc16db8941bd4d0649c479ec", func := "loop.example/closingsticks/laws.FnExactPartMost", spec := "fnExactPartMost", unfollowed := true, recurses := true, apart := false, narrowed := true }
def FnExactPartMostUptoSaid : Prop := fnExactPartMostUptoRow.holds Try.pinned (OpenSpec.upto fnExactPartMostSpec)

/-- 'laws.FnExactPartFirst', WHERE WHAT IT READS IS OF BULK AT MOST 1048576: true; the input reads as it did. -/
def fnExactPartFirstUptoRow : OpenClaim := { program := "ytaffdppmpfgghaa", sum := "04722ab671f13ac22eb2afbc95949ee703d1e303cc16db8941bd4d0649c479ec", func := "loop.example/closingsticks/laws.FnExactPartFirst", spec := "fnExactPartFirst", unfollowed := true, recurses := true, apart := false, narrowed := true }
def FnExactPartFirstUptoSaid : Prop := fnExactPartFirstUptoRow.holds Try.pinned (OpenSpec.upto fnExactPartFirstSpec)

/-- 'laws.FnExactPartIs', WHERE WHAT IT READS IS OF BULK AT MOST 1048576: true; the input reads as it did. -/
def fnExactPartIsUptoRow : OpenClaim := { program := "ytaffdppmpfgghaa", sum := "04722ab671f13ac22eb2afbc95949ee703d1e303cc16db8941bd4d0649c479ec", func := "loop.example/closingsticks/laws.FnExactPartIs", spec := "fnExactPartIs", apart := false, narrowed := true }
def FnExactPartIsUptoSaid : Prop := fnExactPartIsUptoRow.holds Try.pinned (OpenSpec.upto fnExactPartIsSpec)

/-- 'laws.FnExactPartRound', WHERE WHAT IT READS IS OF BULK AT MOST 1048576: true; the input reads as it did. -/
def fnExactPartRoundUptoRow : OpenClaim := { program := "ytaffdppmpfgghaa", sum := "04722ab671f13ac22eb2afbc95949ee703d1e303cc16db8941bd4d0649c479ec", func := "loop.example/closingsticks/laws.FnExactPartRound", spec := "fnExactPartRound", unfollowed := true, recurses := true, apart := false, narrowed := true }
def FnExactPartRoundUptoSaid : Prop := fnExactPartRoundUptoRow.holds Try.pinned (OpenSpec.upto fnExactPartRoundSpec)

/-- 'laws.FnExactPartEqual', WHERE WHAT IT READS IS OF BULK AT MOST 1048576: true; the input reads as it did. -/
def fnExactPartEqualUptoRow : OpenClaim := { program := "ytaffdppmpfgghaa", sum := "04722ab671f13ac22eb2afbc95949ee703d1e303cc16db8941bd4d0649c479ec", func := "loop.example/closingsticks/laws.FnExactPartEqual", spec := "fnExactPartEqual", unfollowed := true, recurses := true, apart := false, narrowed := true }
def FnExactPartEqualUptoSaid : Prop := fnExactPartEqualUptoRow.holds Try.pinned (OpenSpec.upto fnExactPartEqualSpec)

/-- 'laws.FnExactPartTwo', WHERE WHAT IT READS IS OF BULK AT MOST 1048576: true; the input reads as it did. -/
def fnExactPartTwoUptoRow : OpenClaim := { program := "ytaffdppmpfgghaa", sum := "04722ab671f13ac22eb2afbc95949ee703d1e303cc16db8941bd4d0649c479ec", func := "loop.example/closingsticks/laws.FnExactPartTwo", spec := "fnExactPartTwo", recurses := true, apart := false, narrowed := true }
def FnExactPartTwoUptoSaid : Prop := fnExactPartTwoUptoRow.holds Try.pinned (OpenSpec.upto fnExactPartTwoSpec)

end Rows
end Go.Proofs.Ytaffdppmpfgghaa
