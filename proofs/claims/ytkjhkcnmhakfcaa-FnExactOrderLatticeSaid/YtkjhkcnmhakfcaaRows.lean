/-
  No cell of these rows narrows 'for every input' (looked for: loops, veiled, ifaces, maps, wideKeys, modest, calm, conditions, laid).
  DERIVED. THE GIVEN ROWS OF THIS SEAT. 21 by the template 'for every input the law returns true; each argument reads behind the call as it read before'; 0 by the template 'total and deterministic' (their statements: YtkjhkcnmhakfcaaTotals.lean).
  GIVEN WITH THE SEED: the statements are not yours to turn. If you find one false, say at which input.
  Laid BY PROGRAM, IN A SANDBOX (cutbox-rows.mjs): the forced cells as the released guide's own fill.sh prints them over the translation f5274fe70935c1b1… (all of the seat's roots in one cut). By AI agents, Wed Nov 11 2026. No macro, syntax, notation, axiom, sorry.
-/
import Derived.Test.YtkjhkcnmhakfcaaChecked
import GoSem.Claim
import GoSem.ClaimJoined
import GoSem.ClaimMapViews
import Derived.JoinedTies
import Derived.KernelRfl
namespace Go.Proofs.Ytkjhkcnmhakfcaa
/- THE CELL 'sum', in the pinned program and in every row, IS THE sha256 OF THE DUMP (.gsa) THAT YtkjhkcnmhakfcaaProg.lean LOADS. Nothing in Lean hashes anything: it is a label: what it is worth is what the hold of that sum in a sandbox is worth. -/
noncomputable def Try.pinned : Pinned := { name := "ytkjhkcnmhakfcaa", sum := "f5274fe70935c1b19e4ab1bfd34232152f8873720a139cbe8f1fb327ae5c3772", checked := Try.checked }
namespace Rows
def none {H : Type} : Left H := { results := [], args := [] }

/-- 'laws.FnExactPathIn': WHATEVER THE INPUT: true; the input reads as it did. -/
def fnExactPathInSpec : ChangeSpec := { name := "fnExactPathIn", fn := fun _ => fun
  | [d] => { results := [.lit (.bool true)], args := [d] }
  | _ => none }
def fnExactPathInRow : OpenClaim := { program := "ytkjhkcnmhakfcaa", sum := "f5274fe70935c1b19e4ab1bfd34232152f8873720a139cbe8f1fb327ae5c3772", func := "loop.example/closingsticks/laws.FnExactPathIn", spec := "fnExactPathIn", plainKeys := false, apart := false }
def FnExactPathInSaid : Prop := fnExactPathInRow.holds Try.pinned (OpenSpec.ofChange fnExactPathInSpec)

/-- ITS FALSE NEIGHBOUR: 'it returns false'. Refute it at one input. -/
def fnExactPathInWrong : ChangeSpec := { name := "fnExactPathIn", fn := fun _ => fun
  | [d] => { results := [.lit (.bool false)], args := [d] }
  | _ => none }
def FnExactPathInWrongFalsely : Prop := fnExactPathInRow.holds Try.pinned (OpenSpec.ofChange fnExactPathInWrong)

/-- 'laws.FnExactPathCorners': WHATEVER THE INPUT: true; the input reads as it did. -/
def fnExactPathCornersSpec : ChangeSpec := { name := "fnExactPathCorners", fn := fun _ => fun
  | [d] => { results := [.lit (.bool true)], args := [d] }
  | _ => none }
def fnExactPathCornersRow : OpenClaim := { program := "ytkjhkcnmhakfcaa", sum := "f5274fe70935c1b19e4ab1bfd34232152f8873720a139cbe8f1fb327ae5c3772", func := "loop.example/closingsticks/laws.FnExactPathCorners", spec := "fnExactPathCorners", unfollowed := true, recurses := true, plainKeys := false, apart := false }
def FnExactPathCornersSaid : Prop := fnExactPathCornersRow.holds Try.pinned (OpenSpec.ofChange fnExactPathCornersSpec)

/-- ITS FALSE NEIGHBOUR: 'it returns false'. Refute it at one input. -/
def fnExactPathCornersWrong : ChangeSpec := { name := "fnExactPathCorners", fn := fun _ => fun
  | [d] => { results := [.lit (.bool false)], args := [d] }
  | _ => none }
def FnExactPathCornersWrongFalsely : Prop := fnExactPathCornersRow.holds Try.pinned (OpenSpec.ofChange fnExactPathCornersWrong)

/-- 'laws.FnExactPathArea': WHATEVER THE INPUT: true; the input reads as it did. -/
def fnExactPathAreaSpec : ChangeSpec := { name := "fnExactPathArea", fn := fun _ => fun
  | [d] => { results := [.lit (.bool true)], args := [d] }
  | _ => none }
def fnExactPathAreaRow : OpenClaim := { program := "ytkjhkcnmhakfcaa", sum := "f5274fe70935c1b19e4ab1bfd34232152f8873720a139cbe8f1fb327ae5c3772", func := "loop.example/closingsticks/laws.FnExactPathArea", spec := "fnExactPathArea", unfollowed := true, recurses := true, plainKeys := false, apart := false }
def FnExactPathAreaSaid : Prop := fnExactPathAreaRow.holds Try.pinned (OpenSpec.ofChange fnExactPathAreaSpec)

/-- ITS FALSE NEIGHBOUR: 'it returns false'. Refute it at one input. -/
def fnExactPathAreaWrong : ChangeSpec := { name := "fnExactPathArea", fn := fun _ => fun
  | [d] => { results := [.lit (.bool false)], args := [d] }
  | _ => none }
def FnExactPathAreaWrongFalsely : Prop := fnExactPathAreaRow.holds Try.pinned (OpenSpec.ofChange fnExactPathAreaWrong)

/-- 'laws.FnExactPathBack': WHATEVER THE INPUT: true; the input reads as it did. -/
def fnExactPathBackSpec : ChangeSpec := { name := "fnExactPathBack", fn := fun _ => fun
  | [d] => { results := [.lit (.bool true)], args := [d] }
  | _ => none }
def fnExactPathBackRow : OpenClaim := { program := "ytkjhkcnmhakfcaa", sum := "f5274fe70935c1b19e4ab1bfd34232152f8873720a139cbe8f1fb327ae5c3772", func := "loop.example/closingsticks/laws.FnExactPathBack", spec := "fnExactPathBack", unfollowed := true, recurses := true, plainKeys := false, apart := false }
def FnExactPathBackSaid : Prop := fnExactPathBackRow.holds Try.pinned (OpenSpec.ofChange fnExactPathBackSpec)

/-- ITS FALSE NEIGHBOUR: 'it returns false'. Refute it at one input. -/
def fnExactPathBackWrong : ChangeSpec := { name := "fnExactPathBack", fn := fun _ => fun
  | [d] => { results := [.lit (.bool false)], args := [d] }
  | _ => none }
def FnExactPathBackWrongFalsely : Prop := fnExactPathBackRow.holds Try.pinned (OpenSpec.ofChange fnExactPathBackWrong)

/-- 'laws.FnExactPathTurn': WHATEVER THE INPUT: true; the input reads as it did. -/
def fnExactPathTurnSpec : ChangeSpec := { name := "fnExactPathTurn", fn := fun _ => fun
  | [d] => { results := [.lit (.bool true)], args := [d] }
  | _ => none }
def fnExactPathTurnRow : OpenClaim := { program := "ytkjhkcnmhakfcaa", sum := "f5274fe70935c1b19e4ab1bfd34232152f8873720a139cbe8f1fb327ae5c3772", func := "loop.example/closingsticks/laws.FnExactPathTurn", spec := "fnExactPathTurn", unfollowed := true, recurses := true, plainKeys := false, apart := false }
def FnExactPathTurnSaid : Prop := fnExactPathTurnRow.holds Try.pinned (OpenSpec.ofChange fnExactPathTurnSpec)

/-- ITS FALSE NEIGHBOUR: 'it returns false'. Refute it at one input. -/
def fnExactPathTurnWrong : ChangeSpec := { name := "fnExactPathTurn", fn := fun _ => fun
  | [d] => { results := [.lit (.bool false)], args := [d] }
  | _ => none }
def FnExactPathTurnWrongFalsely : Prop := fnExactPathTurnRow.holds Try.pinned (OpenSpec.ofChange fnExactPathTurnWrong)

/-- 'laws.FnExactPathBegin': WHATEVER THE INPUT: true; the input reads as it did. -/
def fnExactPathBeginSpec : ChangeSpec := { name := "fnExactPathBegin", fn := fun _ => fun
  | [d1, d2] => { results := [.lit (.bool true)], args := [d1, d2] }
  | _ => none }
def fnExactPathBeginRow : OpenClaim := { program := "ytkjhkcnmhakfcaa", sum := "f5274fe70935c1b19e4ab1bfd34232152f8873720a139cbe8f1fb327ae5c3772", func := "loop.example/closingsticks/laws.FnExactPathBegin", spec := "fnExactPathBegin", unfollowed := true, recurses := true, plainKeys := false, apart := false }
def FnExactPathBeginSaid : Prop := fnExactPathBeginRow.holds Try.pinned (OpenSpec.ofChange fnExactPathBeginSpec)

/-- ITS FALSE NEIGHBOUR: 'it returns false'. Refute it at one input. -/
def fnExactPathBeginWrong : ChangeSpec := { name := "fnExactPathBegin", fn := fun _ => fun
  | [d1, d2] => { results := [.lit (.bool false)], args := [d1, d2] }
  | _ => none }
def FnExactPathBeginWrongFalsely : Prop := fnExactPathBeginRow.holds Try.pinned (OpenSpec.ofChange fnExactPathBeginWrong)

/-- 'laws.FnExactPathConvex': WHATEVER THE INPUT: true; the input reads as it did. -/
def fnExactPathConvexSpec : ChangeSpec := { name := "fnExactPathConvex", fn := fun _ => fun
  | [d] => { results := [.lit (.bool true)], args := [d] }
  | _ => none }
def fnExactPathConvexRow : OpenClaim := { program := "ytkjhkcnmhakfcaa", sum := "f5274fe70935c1b19e4ab1bfd34232152f8873720a139cbe8f1fb327ae5c3772", func := "loop.example/closingsticks/laws.FnExactPathConvex", spec := "fnExactPathConvex", unfollowed := true, recurses := true, plainKeys := false, apart := false }
def FnExactPathConvexSaid : Prop := fnExactPathConvexRow.holds Try.pinned (OpenSpec.ofChange fnExactPathConvexSpec)

/-- ITS FALSE NEIGHBOUR: 'it returns false'. Refute it at one input. -/
def fnExactPathConvexWrong : ChangeSpec := { name := "fnExactPathConvex", fn := fun _ => fun
  | [d] => { results := [.lit (.bool false)], args := [d] }
  | _ => none }
def FnExactPathConvexWrongFalsely : Prop := fnExactPathConvexRow.holds Try.pinned (OpenSpec.ofChange fnExactPathConvexWrong)

/-- 'laws.FnExactPathBox': WHATEVER THE INPUT: true; the input reads as it did. -/
def fnExactPathBoxSpec : ChangeSpec := { name := "fnExactPathBox", fn := fun _ => fun
  | [d] => { results := [.lit (.bool true)], args := [d] }
  | _ => none }
def fnExactPathBoxRow : OpenClaim := { program := "ytkjhkcnmhakfcaa", sum := "f5274fe70935c1b19e4ab1bfd34232152f8873720a139cbe8f1fb327ae5c3772", func := "loop.example/closingsticks/laws.FnExactPathBox", spec := "fnExactPathBox", unfollowed := true, recurses := true, plainKeys := false, apart := false }
def FnExactPathBoxSaid : Prop := fnExactPathBoxRow.holds Try.pinned (OpenSpec.ofChange fnExactPathBoxSpec)

/-- ITS FALSE NEIGHBOUR: 'it returns false'. Refute it at one input. -/
def fnExactPathBoxWrong : ChangeSpec := { name := "fnExactPathBox", fn := fun _ => fun
  | [d] => { results := [.lit (.bool false)], args := [d] }
  | _ => none }
def FnExactPathBoxWrongFalsely : Prop := fnExactPathBoxRow.holds Try.pinned (OpenSpec.ofChange fnExactPathBoxWrong)

/-- 'laws.FnExactPathRim': WHATEVER THE INPUT: true; the input reads as it did. -/
def fnExactPathRimSpec : ChangeSpec := { name := "fnExactPathRim", fn := fun _ => fun
  | [d] => { results := [.lit (.bool true)], args := [d] }
  | _ => none }
def fnExactPathRimRow : OpenClaim := { program := "ytkjhkcnmhakfcaa", sum := "f5274fe70935c1b19e4ab1bfd34232152f8873720a139cbe8f1fb327ae5c3772", func := "loop.example/closingsticks/laws.FnExactPathRim", spec := "fnExactPathRim", unfollowed := true, recurses := true, plainKeys := false, apart := false }
def FnExactPathRimSaid : Prop := fnExactPathRimRow.holds Try.pinned (OpenSpec.ofChange fnExactPathRimSpec)

/-- ITS FALSE NEIGHBOUR: 'it returns false'. Refute it at one input. -/
def fnExactPathRimWrong : ChangeSpec := { name := "fnExactPathRim", fn := fun _ => fun
  | [d] => { results := [.lit (.bool false)], args := [d] }
  | _ => none }
def FnExactPathRimWrongFalsely : Prop := fnExactPathRimRow.holds Try.pinned (OpenSpec.ofChange fnExactPathRimWrong)

/-- 'laws.FnExactPathInside': WHATEVER THE INPUT: true; the input reads as it did. -/
def fnExactPathInsideSpec : ChangeSpec := { name := "fnExactPathInside", fn := fun _ => fun
  | [d] => { results := [.lit (.bool true)], args := [d] }
  | _ => none }
def fnExactPathInsideRow : OpenClaim := { program := "ytkjhkcnmhakfcaa", sum := "f5274fe70935c1b19e4ab1bfd34232152f8873720a139cbe8f1fb327ae5c3772", func := "loop.example/closingsticks/laws.FnExactPathInside", spec := "fnExactPathInside", unfollowed := true, recurses := true, plainKeys := false, apart := false }
def FnExactPathInsideSaid : Prop := fnExactPathInsideRow.holds Try.pinned (OpenSpec.ofChange fnExactPathInsideSpec)

/-- ITS FALSE NEIGHBOUR: 'it returns false'. Refute it at one input. -/
def fnExactPathInsideWrong : ChangeSpec := { name := "fnExactPathInside", fn := fun _ => fun
  | [d] => { results := [.lit (.bool false)], args := [d] }
  | _ => none }
def FnExactPathInsideWrongFalsely : Prop := fnExactPathInsideRow.holds Try.pinned (OpenSpec.ofChange fnExactPathInsideWrong)

/-- 'laws.FnExactPathInsideAll': WHATEVER THE INPUT: true; the input reads as it did. -/
def fnExactPathInsideAllSpec : ChangeSpec := { name := "fnExactPathInsideAll", fn := fun _ => fun
  | [d] => { results := [.lit (.bool true)], args := [d] }
  | _ => none }
def fnExactPathInsideAllRow : OpenClaim := { program := "ytkjhkcnmhakfcaa", sum := "f5274fe70935c1b19e4ab1bfd34232152f8873720a139cbe8f1fb327ae5c3772", func := "loop.example/closingsticks/laws.FnExactPathInsideAll", spec := "fnExactPathInsideAll", unfollowed := true, recurses := true, plainKeys := false, apart := false }
def FnExactPathInsideAllSaid : Prop := fnExactPathInsideAllRow.holds Try.pinned (OpenSpec.ofChange fnExactPathInsideAllSpec)

/-- ITS FALSE NEIGHBOUR: 'it returns false'. Refute it at one input. -/
def fnExactPathInsideAllWrong : ChangeSpec := { name := "fnExactPathInsideAll", fn := fun _ => fun
  | [d] => { results := [.lit (.bool false)], args := [d] }
  | _ => none }
def FnExactPathInsideAllWrongFalsely : Prop := fnExactPathInsideAllRow.holds Try.pinned (OpenSpec.ofChange fnExactPathInsideAllWrong)

/-- 'laws.FnExactOrderSorted': WHATEVER THE INPUT: true; the input reads as it did. -/
def fnExactOrderSortedSpec : ChangeSpec := { name := "fnExactOrderSorted", fn := fun _ => fun
  | [d] => { results := [.lit (.bool true)], args := [d] }
  | _ => none }
def fnExactOrderSortedRow : OpenClaim := { program := "ytkjhkcnmhakfcaa", sum := "f5274fe70935c1b19e4ab1bfd34232152f8873720a139cbe8f1fb327ae5c3772", func := "loop.example/closingsticks/laws.FnExactOrderSorted", spec := "fnExactOrderSorted", unfollowed := true, recurses := true, plainKeys := false, apart := false }
def FnExactOrderSortedSaid : Prop := fnExactOrderSortedRow.holds Try.pinned (OpenSpec.ofChange fnExactOrderSortedSpec)

/-- ITS FALSE NEIGHBOUR: 'it returns false'. Refute it at one input. -/
def fnExactOrderSortedWrong : ChangeSpec := { name := "fnExactOrderSorted", fn := fun _ => fun
  | [d] => { results := [.lit (.bool false)], args := [d] }
  | _ => none }
def FnExactOrderSortedWrongFalsely : Prop := fnExactOrderSortedRow.holds Try.pinned (OpenSpec.ofChange fnExactOrderSortedWrong)

/-- 'laws.FnExactOrderMost': WHATEVER THE INPUT: true; the input reads as it did. -/
def fnExactOrderMostSpec : ChangeSpec := { name := "fnExactOrderMost", fn := fun _ => fun
  | [d] => { results := [.lit (.bool true)], args := [d] }
  | _ => none }
def fnExactOrderMostRow : OpenClaim := { program := "ytkjhkcnmhakfcaa", sum := "f5274fe70935c1b19e4ab1bfd34232152f8873720a139cbe8f1fb327ae5c3772", func := "loop.example/closingsticks/laws.FnExactOrderMost", spec := "fnExactOrderMost", unfollowed := true, recurses := true, plainKeys := false, apart := false }
def FnExactOrderMostSaid : Prop := fnExactOrderMostRow.holds Try.pinned (OpenSpec.ofChange fnExactOrderMostSpec)

/-- ITS FALSE NEIGHBOUR: 'it returns false'. Refute it at one input. -/
def fnExactOrderMostWrong : ChangeSpec := { name := "fnExactOrderMost", fn := fun _ => fun
  | [d] => { results := [.lit (.bool false)], args := [d] }
  | _ => none }
def FnExactOrderMostWrongFalsely : Prop := fnExactOrderMostRow.holds Try.pinned (OpenSpec.ofChange fnExactOrderMostWrong)

/-- 'laws.FnExactOrderRun': WHATEVER THE INPUT: true; the input reads as it did. -/
def fnExactOrderRunSpec : ChangeSpec := { name := "fnExactOrderRun", fn := fun _ => fun
  | [d1, d2, d3] => { results := [.lit (.bool true)], args := [d1, d2, d3] }
  | _ => none }
def fnExactOrderRunRow : OpenClaim := { program := "ytkjhkcnmhakfcaa", sum := "f5274fe70935c1b19e4ab1bfd34232152f8873720a139cbe8f1fb327ae5c3772", func := "loop.example/closingsticks/laws.FnExactOrderRun", spec := "fnExactOrderRun", plainKeys := false, apart := false }
def FnExactOrderRunSaid : Prop := fnExactOrderRunRow.holds Try.pinned (OpenSpec.ofChange fnExactOrderRunSpec)

/-- ITS FALSE NEIGHBOUR: 'it returns false'. Refute it at one input. -/
def fnExactOrderRunWrong : ChangeSpec := { name := "fnExactOrderRun", fn := fun _ => fun
  | [d1, d2, d3] => { results := [.lit (.bool false)], args := [d1, d2, d3] }
  | _ => none }
def FnExactOrderRunWrongFalsely : Prop := fnExactOrderRunRow.holds Try.pinned (OpenSpec.ofChange fnExactOrderRunWrong)

/-- 'laws.FnExactOrderGain': WHATEVER THE INPUT: true; the input reads as it did. -/
def fnExactOrderGainSpec : ChangeSpec := { name := "fnExactOrderGain", fn := fun _ => fun
  | [d1, d2, d3] => { results := [.lit (.bool true)], args := [d1, d2, d3] }
  | _ => none }
def fnExactOrderGainRow : OpenClaim := { program := "ytkjhkcnmhakfcaa", sum := "f5274fe70935c1b19e4ab1bfd34232152f8873720a139cbe8f1fb327ae5c3772", func := "loop.example/closingsticks/laws.FnExactOrderGain", spec := "fnExactOrderGain", unfollowed := true, recurses := true, plainKeys := false, apart := false }
def FnExactOrderGainSaid : Prop := fnExactOrderGainRow.holds Try.pinned (OpenSpec.ofChange fnExactOrderGainSpec)

/-- ITS FALSE NEIGHBOUR: 'it returns false'. Refute it at one input. -/
def fnExactOrderGainWrong : ChangeSpec := { name := "fnExactOrderGain", fn := fun _ => fun
  | [d1, d2, d3] => { results := [.lit (.bool false)], args := [d1, d2, d3] }
  | _ => none }
def FnExactOrderGainWrongFalsely : Prop := fnExactOrderGainRow.holds Try.pinned (OpenSpec.ofChange fnExactOrderGainWrong)

/-- 'laws.FnExactOrderFewest': WHATEVER THE INPUT: true; the input reads as it did. -/
def fnExactOrderFewestSpec : ChangeSpec := { name := "fnExactOrderFewest", fn := fun _ => fun
  | [d] => { results := [.lit (.bool true)], args := [d] }
  | _ => none }
def fnExactOrderFewestRow : OpenClaim := { program := "ytkjhkcnmhakfcaa", sum := "f5274fe70935c1b19e4ab1bfd34232152f8873720a139cbe8f1fb327ae5c3772", func := "loop.example/closingsticks/laws.FnExactOrderFewest", spec := "fnExactOrderFewest", unfollowed := true, recurses := true, plainKeys := false, apart := false }
def FnExactOrderFewestSaid : Prop := fnExactOrderFewestRow.holds Try.pinned (OpenSpec.ofChange fnExactOrderFewestSpec)

/-- ITS FALSE NEIGHBOUR: 'it returns false'. Refute it at one input. -/
def fnExactOrderFewestWrong : ChangeSpec := { name := "fnExactOrderFewest", fn := fun _ => fun
  | [d] => { results := [.lit (.bool false)], args := [d] }
  | _ => none }
def FnExactOrderFewestWrongFalsely : Prop := fnExactOrderFewestRow.holds Try.pinned (OpenSpec.ofChange fnExactOrderFewestWrong)

/-- 'laws.FnExactOrderLattice': WHATEVER THE INPUT: true; the input reads as it did. -/
def fnExactOrderLatticeSpec : ChangeSpec := { name := "fnExactOrderLattice", fn := fun _ => fun
  | [d] => { results := [.lit (.bool true)], args := [d] }
  | _ => none }
def fnExactOrderLatticeRow : OpenClaim := { program := "ytkjhkcnmhakfcaa", sum := "f5274fe70935c1b19e4ab1bfd34232152f8873720a139cbe8f1fb327ae5c3772", func := "loop.example/closingsticks/laws.FnExactOrderLattice", spec := "fnExactOrderLattice", unfollowed := true, recurses := true, plainKeys := false, apart := false }
def FnExactOrderLatticeSaid : Prop := fnExactOrderLatticeRow.holds Try.pinned (OpenSpec.ofChange fnExactOrderLatticeSpec)

/-- ITS FALSE NEIGHBOUR: 'it returns false'. Refute it at one input. -/
def fnExactOrderLatticeWrong : ChangeSpec := { name := "fnExactOrderLattice", fn := fun _ => fun
  | [d] => { results := [.lit (.bool false)], args := [d] }
  | _ => none }
def FnExactOrderLatticeWrongFalsely : Prop := fnExactOrderLatticeRow.holds Try.pinned (OpenSpec.ofChange fnExactOrderLatticeWrong)

/-- 'laws.FnExactZonoPath': WHATEVER THE INPUT: true; the input reads as it did. -/
def fnExactZonoPathSpec : ChangeSpec := { name := "fnExactZonoPath", fn := fun _ => fun
  | [d] => { results := [.lit (.bool true)], args := [d] }
  | _ => none }
def fnExactZonoPathRow : OpenClaim := { program := "ytkjhkcnmhakfcaa", sum := "f5274fe70935c1b19e4ab1bfd34232152f8873720a139cbe8f1fb327ae5c3772", func := "loop.example/closingsticks/laws.FnExactZonoPath", spec := "fnExactZonoPath", unfollowed := true, recurses := true, plainKeys := false, apart := false }
def FnExactZonoPathSaid : Prop := fnExactZonoPathRow.holds Try.pinned (OpenSpec.ofChange fnExactZonoPathSpec)

/-- ITS FALSE NEIGHBOUR: 'it returns false'. Refute it at one input. -/
def fnExactZonoPathWrong : ChangeSpec := { name := "fnExactZonoPath", fn := fun _ => fun
  | [d] => { results := [.lit (.bool false)], args := [d] }
  | _ => none }
def FnExactZonoPathWrongFalsely : Prop := fnExactZonoPathRow.holds Try.pinned (OpenSpec.ofChange fnExactZonoPathWrong)

/-- 'laws.FnExactZonoArea': WHATEVER THE INPUT: true; the input reads as it did. -/
def fnExactZonoAreaSpec : ChangeSpec := { name := "fnExactZonoArea", fn := fun _ => fun
  | [d] => { results := [.lit (.bool true)], args := [d] }
  | _ => none }
def fnExactZonoAreaRow : OpenClaim := { program := "ytkjhkcnmhakfcaa", sum := "f5274fe70935c1b19e4ab1bfd34232152f8873720a139cbe8f1fb327ae5c3772", func := "loop.example/closingsticks/laws.FnExactZonoArea", spec := "fnExactZonoArea", unfollowed := true, recurses := true, plainKeys := false, apart := false }
def FnExactZonoAreaSaid : Prop := fnExactZonoAreaRow.holds Try.pinned (OpenSpec.ofChange fnExactZonoAreaSpec)

/-- ITS FALSE NEIGHBOUR: 'it returns false'. Refute it at one input. -/
def fnExactZonoAreaWrong : ChangeSpec := { name := "fnExactZonoArea", fn := fun _ => fun
  | [d] => { results := [.lit (.bool false)], args := [d] }
  | _ => none }
def FnExactZonoAreaWrongFalsely : Prop := fnExactZonoAreaRow.holds Try.pinned (OpenSpec.ofChange fnExactZonoAreaWrong)

/-- 'laws.FnExactZonoPieces': WHATEVER THE INPUT: true; the input reads as it did. -/
def fnExactZonoPiecesSpec : ChangeSpec := { name := "fnExactZonoPieces", fn := fun _ => fun
  | [d] => { results := [.lit (.bool true)], args := [d] }
  | _ => none }
def fnExactZonoPiecesRow : OpenClaim := { program := "ytkjhkcnmhakfcaa", sum := "f5274fe70935c1b19e4ab1bfd34232152f8873720a139cbe8f1fb327ae5c3772", func := "loop.example/closingsticks/laws.FnExactZonoPieces", spec := "fnExactZonoPieces", unfollowed := true, recurses := true, plainKeys := false, apart := false }
def FnExactZonoPiecesSaid : Prop := fnExactZonoPiecesRow.holds Try.pinned (OpenSpec.ofChange fnExactZonoPiecesSpec)

/-- ITS FALSE NEIGHBOUR: 'it returns false'. Refute it at one input. -/
def fnExactZonoPiecesWrong : ChangeSpec := { name := "fnExactZonoPieces", fn := fun _ => fun
  | [d] => { results := [.lit (.bool false)], args := [d] }
  | _ => none }
def FnExactZonoPiecesWrongFalsely : Prop := fnExactZonoPiecesRow.holds Try.pinned (OpenSpec.ofChange fnExactZonoPiecesWrong)

/-- 'laws.FnExactZonoInside': WHATEVER THE INPUT: true; the input reads as it did. -/
def fnExactZonoInsideSpec : ChangeSpec := { name := "fnExactZonoInside", fn := fun _ => fun
  | [d] => { results := [.lit (.bool true)], args := [d] }
  | _ => none }
def fnExactZonoInsideRow : OpenClaim := { program := "ytkjhkcnmhakfcaa", sum := "f5274fe70935c1b19e4ab1bfd34232152f8873720a139cbe8f1fb327ae5c3772", func := "loop.example/closingsticks/laws.FnExactZonoInside", spec := "fnExactZonoInside", unfollowed := true, recurses := true, plainKeys := false, apart := false }
def FnExactZonoInsideSaid : Prop := fnExactZonoInsideRow.holds Try.pinned (OpenSpec.ofChange fnExactZonoInsideSpec)

/-- ITS FALSE NEIGHBOUR: 'it returns false'. Refute it at one input. -/
def fnExactZonoInsideWrong : ChangeSpec := { name := "fnExactZonoInside", fn := fun _ => fun
  | [d] => { results := [.lit (.bool false)], args := [d] }
  | _ => none }
def FnExactZonoInsideWrongFalsely : Prop := fnExactZonoInsideRow.holds Try.pinned (OpenSpec.ofChange fnExactZonoInsideWrong)

/- THE SECOND FORM. 'bulk': how many values and letters a reading holds, each counted each time it is reached (what is shared counts as often as it is met; a slice's spare places count too). A statement '..UptoSaid' is the law's where the arguments, and the package variables that the reading takes, are together of bulk at most 1048576: NARROWER than '..Said'. Prove '..Said' where nothing that the law and all that it calls make is longer than what came in: it says more and counts as full. Else prove '..UptoSaid'. A law counts once. -/
mutual
def uptoBulk {H : Type} : DataW H → Nat
  | .lit (.string bytes) => bytes.length + 1
  | .lit _ => 1
  | .nil => 1
  | .ptr d => uptoBulk d + 1
  | .slice elems spare => uptoBulkAll elems + uptoBulkAll spare + 1
  | .agg parts => uptoBulkAll parts + 1
  | .iface _ d => uptoBulk d + 1
  | .map entries => uptoBulkEntries entries + 1
  | .held _ => 1
def uptoBulkAll {H : Type} : List (DataW H) → Nat
  | [] => 0
  | d :: r => uptoBulk d + uptoBulkAll r
def uptoBulkEntries {H : Type} : List (Lit × DataW H) → Nat
  | [] => 0
  | x :: r => uptoBulkEntry x + uptoBulkEntries r
def uptoBulkEntry {H : Type} : Lit × DataW H → Nat
  | (.string bytes, d) => bytes.length + uptoBulk d + 1
  | (_, d) => uptoBulk d + 1
 end
def uptoSmall : (H : Type) → List (DataW H) → Bool := fun _ ds => decide (uptoBulkAll ds ≤ 1048576)
def OpenSpec.upto (s : _root_.Go.ChangeSpec) : _root_.Go.OpenSpec := { _root_.Go.OpenSpec.ofChange s with cond := some uptoSmall }

/-- 'laws.FnExactPathIn', WHERE WHAT IT READS IS OF BULK AT MOST 1048576: true; the input reads as it did. -/
def fnExactPathInUptoRow : OpenClaim := { program := "ytkjhkcnmhakfcaa", sum := "f5274fe70935c1b19e4ab1bfd34232152f8873720a139cbe8f1fb327ae5c3772", func := "loop.example/closingsticks/laws.FnExactPathIn", spec := "fnExactPathIn", plainKeys := false, apart := false, narrowed := true }
def FnExactPathInUptoSaid : Prop := fnExactPathInUptoRow.holds Try.pinned (OpenSpec.upto fnExactPathInSpec)

/-- 'laws.FnExactPathCorners', WHERE WHAT IT READS IS OF BULK AT MOST 1048576: true; the input reads as it did. -/
def fnExactPathCornersUptoRow : OpenClaim := { program := "ytkjhkcnmhakfcaa", sum := "f5274fe70935c1b19e4ab1bfd34232152f8873720a139cbe8f1fb327ae5c3772", func := "loop.example/closingsticks/laws.FnExactPathCorners", spec := "fnExactPathCorners", unfollowed := true, recurses := true, plainKeys := false, apart := false, narrowed := true }
def FnExactPathCornersUptoSaid : Prop := fnExactPathCornersUptoRow.holds Try.pinned (OpenSpec.upto fnExactPathCornersSpec)

/-- 'laws.FnExactPathArea', WHERE WHAT IT READS IS OF BULK AT MOST 1048576: true; the input reads as it did. -/
def fnExactPathAreaUptoRow : OpenClaim := { program := "ytkjhkcnmhakfcaa", sum := "f5274fe70935c1b19e4ab1bfd34232152f8873720a139cbe8f1fb327ae5c3772", func := "loop.example/closingsticks/laws.FnExactPathArea", spec := "fnExactPathArea", unfollowed := true, recurses := true, plainKeys := false, apart := false, narrowed := true }
def FnExactPathAreaUptoSaid : Prop := fnExactPathAreaUptoRow.holds Try.pinned (OpenSpec.upto fnExactPathAreaSpec)

/-- 'laws.FnExactPathBack', WHERE WHAT IT READS IS OF BULK AT MOST 1048576: true; the input reads as it did. -/
def fnExactPathBackUptoRow : OpenClaim := { program := "ytkjhkcnmhakfcaa", sum := "f5274fe70935c1b19e4ab1bfd34232152f8873720a139cbe8f1fb327ae5c3772", func := "loop.example/closingsticks/laws.FnExactPathBack", spec := "fnExactPathBack", unfollowed := true, recurses := true, plainKeys := false, apart := false, narrowed := true }
def FnExactPathBackUptoSaid : Prop := fnExactPathBackUptoRow.holds Try.pinned (OpenSpec.upto fnExactPathBackSpec)

/-- 'laws.FnExactPathTurn', WHERE WHAT IT READS IS OF BULK AT MOST 1048576: true; the input reads as it did. -/
def fnExactPathTurnUptoRow : OpenClaim := { program := "ytkjhkcnmhakfcaa", sum := "f5274fe70935c1b19e4ab1bfd34232152f8873720a139cbe8f1fb327ae5c3772", func := "loop.example/closingsticks/laws.FnExactPathTurn", spec := "fnExactPathTurn", unfollowed := true, recurses := true, plainKeys := false, apart := false, narrowed := true }
def FnExactPathTurnUptoSaid : Prop := fnExactPathTurnUptoRow.holds Try.pinned (OpenSpec.upto fnExactPathTurnSpec)

/-- 'laws.FnExactPathBegin', WHERE WHAT IT READS IS OF BULK AT MOST 1048576: true; the input reads as it did. -/
def fnExactPathBeginUptoRow : OpenClaim := { program := "ytkjhkcnmhakfcaa", sum := "f5274fe70935c1b19e4ab1bfd34232152f8873720a139cbe8f1fb327ae5c3772", func := "loop.example/closingsticks/laws.FnExactPathBegin", spec := "fnExactPathBegin", unfollowed := true, recurses := true, plainKeys := false, apart := false, narrowed := true }
def FnExactPathBeginUptoSaid : Prop := fnExactPathBeginUptoRow.holds Try.pinned (OpenSpec.upto fnExactPathBeginSpec)

/-- 'laws.FnExactPathConvex', WHERE WHAT IT READS IS OF BULK AT MOST 1048576: true; the input reads as it did. -/
def fnExactPathConvexUptoRow : OpenClaim := { program := "ytkjhkcnmhakfcaa", sum := "f5274fe70935c1b19e4ab1bfd34232152f8873720a139cbe8f1fb327ae5c3772", func := "loop.example/closingsticks/laws.FnExactPathConvex", spec := "fnExactPathConvex", unfollowed := true, recurses := true, plainKeys := false, apart := false, narrowed := true }
def FnExactPathConvexUptoSaid : Prop := fnExactPathConvexUptoRow.holds Try.pinned (OpenSpec.upto fnExactPathConvexSpec)

/-- 'laws.FnExactPathBox', WHERE WHAT IT READS IS OF BULK AT MOST 1048576: true; the input reads as it did. -/
def fnExactPathBoxUptoRow : OpenClaim := { program := "ytkjhkcnmhakfcaa", sum := "f5274fe70935c1b19e4ab1bfd34232152f8873720a139cbe8f1fb327ae5c3772", func := "loop.example/closingsticks/laws.FnExactPathBox", spec := "fnExactPathBox", unfollowed := true, recurses := true, plainKeys := false, apart := false, narrowed := true }
def FnExactPathBoxUptoSaid : Prop := fnExactPathBoxUptoRow.holds Try.pinned (OpenSpec.upto fnExactPathBoxSpec)

/-- 'laws.FnExactPathRim', WHERE WHAT IT READS IS OF BULK AT MOST 1048576: true; the input reads as it did. -/
def fnExactPathRimUptoRow : OpenClaim := { program := "ytkjhkcnmhakfcaa", sum := "f5274fe70935c1b19e4ab1bfd34232152f8873720a139cbe8f1fb327ae5c3772", func := "loop.example/closingsticks/laws.FnExactPathRim", spec := "fnExactPathRim", unfollowed := true, recurses := true, plainKeys := false, apart := false, narrowed := true }
def FnExactPathRimUptoSaid : Prop := fnExactPathRimUptoRow.holds Try.pinned (OpenSpec.upto fnExactPathRimSpec)

/-- 'laws.FnExactPathInside', WHERE WHAT IT READS IS OF BULK AT MOST 1048576: true; the input reads as it did. -/
def fnExactPathInsideUptoRow : OpenClaim := { program := "ytkjhkcnmhakfcaa", sum := "f5274fe70935c1b19e4ab1bfd34232152f8873720a139cbe8f1fb327ae5c3772", func := "loop.example/closingsticks/laws.FnExactPathInside", spec := "fnExactPathInside", unfollowed := true, recurses := true, plainKeys := false, apart := false, narrowed := true }
def FnExactPathInsideUptoSaid : Prop := fnExactPathInsideUptoRow.holds Try.pinned (OpenSpec.upto fnExactPathInsideSpec)

/-- 'laws.FnExactPathInsideAll', WHERE WHAT IT READS IS OF BULK AT MOST 1048576: true; the input reads as it did. -/
def fnExactPathInsideAllUptoRow : OpenClaim := { program := "ytkjhkcnmhakfcaa", sum := "f5274fe70935c1b19e4ab1bfd34232152f8873720a139cbe8f1fb327ae5c3772", func := "loop.example/closingsticks/laws.FnExactPathInsideAll", spec := "fnExactPathInsideAll", unfollowed := true, recurses := true, plainKeys := false, apart := false, narrowed := true }
def FnExactPathInsideAllUptoSaid : Prop := fnExactPathInsideAllUptoRow.holds Try.pinned (OpenSpec.upto fnExactPathInsideAllSpec)

/-- 'laws.FnExactOrderSorted', WHERE WHAT IT READS IS OF BULK AT MOST 1048576: true; the input reads as it did. -/
def fnExactOrderSortedUptoRow : OpenClaim := { program := "ytkjhkcnmhakfcaa", sum := "f5274fe70935c1b19e4ab1bfd34232152f8873720a139cbe8f1fb327ae5c3772", func := "loop.example/closingsticks/laws.FnExactOrderSorted", spec := "fnExactOrderSorted", unfollowed := true, recurses := true, plainKeys := false, apart := false, narrowed := true }
def FnExactOrderSortedUptoSaid : Prop := fnExactOrderSortedUptoRow.holds Try.pinned (OpenSpec.upto fnExactOrderSortedSpec)

/-- 'laws.FnExactOrderMost', WHERE WHAT IT READS IS OF BULK AT MOST 1048576: true; the input reads as it did. -/
def fnExactOrderMostUptoRow : OpenClaim := { program := "ytkjhkcnmhakfcaa", sum := "f5274fe70935c1b19e4ab1bfd34232152f8873720a139cbe8f1fb327ae5c3772", func := "loop.example/closingsticks/laws.FnExactOrderMost", spec := "fnExactOrderMost", unfollowed := true, recurses := true, plainKeys := false, apart := false, narrowed := true }
def FnExactOrderMostUptoSaid : Prop := fnExactOrderMostUptoRow.holds Try.pinned (OpenSpec.upto fnExactOrderMostSpec)

/-- 'laws.FnExactOrderRun', WHERE WHAT IT READS IS OF BULK AT MOST 1048576: true; the input reads as it did. -/
def fnExactOrderRunUptoRow : OpenClaim := { program := "ytkjhkcnmhakfcaa", sum := "f5274fe70935c1b19e4ab1bfd34232152f8873720a139cbe8f1fb327ae5c3772", func := "loop.example/closingsticks/laws.FnExactOrderRun", spec := "fnExactOrderRun", plainKeys := false, apart := false, narrowed := true }
def FnExactOrderRunUptoSaid : Prop := fnExactOrderRunUptoRow.holds Try.pinned (OpenSpec.upto fnExactOrderRunSpec)

/-- 'laws.FnExactOrderGain', WHERE WHAT IT READS IS OF BULK AT MOST 1048576: true; the input reads as it did. -/
def fnExactOrderGainUptoRow : OpenClaim := { program := "ytkjhkcnmhakfcaa", sum := "f5274fe70935c1b19e4ab1bfd34232152f8873720a139cbe8f1fb327ae5c3772", func := "loop.example/closingsticks/laws.FnExactOrderGain", spec := "fnExactOrderGain", unfollowed := true, recurses := true, plainKeys := false, apart := false, narrowed := true }
def FnExactOrderGainUptoSaid : Prop := fnExactOrderGainUptoRow.holds Try.pinned (OpenSpec.upto fnExactOrderGainSpec)

/-- 'laws.FnExactOrderFewest', WHERE WHAT IT READS IS OF BULK AT MOST 1048576: true; the input reads as it did. -/
def fnExactOrderFewestUptoRow : OpenClaim := { program := "ytkjhkcnmhakfcaa", sum := "f5274fe70935c1b19e4ab1bfd34232152f8873720a139cbe8f1fb327ae5c3772", func := "loop.example/closingsticks/laws.FnExactOrderFewest", spec := "fnExactOrderFewest", unfollowed := true, recurses := true, plainKeys := false, apart := false, narrowed := true }
def FnExactOrderFewestUptoSaid : Prop := fnExactOrderFewestUptoRow.holds Try.pinned (OpenSpec.upto fnExactOrderFewestSpec)

/-- 'laws.FnExactOrderLattice', WHERE WHAT IT READS IS OF BULK AT MOST 1048576: true; the input reads as it did. -/
def fnExactOrderLatticeUptoRow : OpenClaim := { program := "ytkjhkcnmhakfcaa", sum := "f5274fe70935c1b19e4ab1bfd34232152f8873720a139cbe8f1fb327ae5c3772", func := "loop.example/closingsticks/laws.FnExactOrderLattice", spec := "fnExactOrderLattice", unfollowed := true, recurses := true, plainKeys := false, apart := false, narrowed := true }
def FnExactOrderLatticeUptoSaid : Prop := fnExactOrderLatticeUptoRow.holds Try.pinned (OpenSpec.upto fnExactOrderLatticeSpec)

/-- 'laws.FnExactZonoPath', WHERE WHAT IT READS IS OF BULK AT MOST 1048576: true; the input reads as it did. -/
def fnExactZonoPathUptoRow : OpenClaim := { program := "ytkjhkcnmhakfcaa", sum := "f5274fe70935c1b19e4ab1bfd34232152f8873720a139cbe8f1fb327ae5c3772", func := "loop.example/closingsticks/laws.FnExactZonoPath", spec := "fnExactZonoPath", unfollowed := true, recurses := true, plainKeys := false, apart := false, narrowed := true }
def FnExactZonoPathUptoSaid : Prop := fnExactZonoPathUptoRow.holds Try.pinned (OpenSpec.upto fnExactZonoPathSpec)

/-- 'laws.FnExactZonoArea', WHERE WHAT IT READS IS OF BULK AT MOST 1048576: true; the input reads as it did. -/
def fnExactZonoAreaUptoRow : OpenClaim := { program := "ytkjhkcnmhakfcaa", sum := "f5274fe70935c1b19e4ab1bfd34232152f8873720a139cbe8f1fb327ae5c3772", func := "loop.example/closingsticks/laws.FnExactZonoArea", spec := "fnExactZonoArea", unfollowed := true, recurses := true, plainKeys := false, apart := false, narrowed := true }
def FnExactZonoAreaUptoSaid : Prop := fnExactZonoAreaUptoRow.holds Try.pinned (OpenSpec.upto fnExactZonoAreaSpec)

/-- 'laws.FnExactZonoPieces', WHERE WHAT IT READS IS OF BULK AT MOST 1048576: true; the input reads as it did. -/
def fnExactZonoPiecesUptoRow : OpenClaim := { program := "ytkjhkcnmhakfcaa", sum := "f5274fe70935c1b19e4ab1bfd34232152f8873720a139cbe8f1fb327ae5c3772", func := "loop.example/closingsticks/laws.FnExactZonoPieces", spec := "fnExactZonoPieces", unfollowed := true, recurses := true, plainKeys := false, apart := false, narrowed := true }
def FnExactZonoPiecesUptoSaid : Prop := fnExactZonoPiecesUptoRow.holds Try.pinned (OpenSpec.upto fnExactZonoPiecesSpec)

/-- 'laws.FnExactZonoInside', WHERE WHAT IT READS IS OF BULK AT MOST 1048576: true; the input reads as it did. -/
def fnExactZonoInsideUptoRow : OpenClaim := { program := "ytkjhkcnmhakfcaa", sum := "f5274fe70935c1b19e4ab1bfd34232152f8873720a139cbe8f1fb327ae5c3772", func := "loop.example/closingsticks/laws.FnExactZonoInside", spec := "fnExactZonoInside", unfollowed := true, recurses := true, plainKeys := false, apart := false, narrowed := true }
def FnExactZonoInsideUptoSaid : Prop := fnExactZonoInsideUptoRow.holds Try.pinned (OpenSpec.upto fnExactZonoInsideSpec)

end Rows
end Go.Proofs.Ytkjhkcnmhakfcaa
