/-
  No cell of these rows narrows 'for every input' (looked for: loops, veiled, ifaces, maps, wideKeys, modest, calm, conditions, laid).
  DERIVED. THE GIVEN ROWS OF THIS SEAT. 25 by the template 'for every input the law returns true; each argument reads behind the call as it read before'; 0 by the template 'total and deterministic' (their statements: YthpgenkdiokpeaaTotals.lean).
  GIVEN WITH THE SEED: the statements are not yours to turn. If you find one false, say at which input.
  Laid BY PROGRAM, IN A SANDBOX (cutbox-rows.mjs): the forced cells as the released guide's own fill.sh prints them over the translation 84352673a9ab5fa3… (all of the seat's roots in one cut). By AI agents, Wed Nov 11 2026. No macro, syntax, notation, axiom, sorry.
-/
import Derived.Test.YthpgenkdiokpeaaChecked
import GoSem.Claim
import GoSem.ClaimJoined
import GoSem.ClaimMapViews
import Derived.JoinedTies
import Derived.KernelRfl
namespace Go.Proofs.Ythpgenkdiokpeaa
/- THE CELL 'sum', in the pinned program and in every row, IS THE sha256 OF THE DUMP (.gsa) THAT YthpgenkdiokpeaaProg.lean LOADS. Nothing in Lean hashes anything: it is a label: what it is worth is what the hold of that sum in a sandbox is worth. -/
noncomputable def Try.pinned : Pinned := { name := "ythpgenkdiokpeaa", sum := "84352673a9ab5fa335c87487b1f3d7fd634c745531e9e9684a76bb20743d3a4a", checked := Try.checked }
namespace Rows
def none {H : Type} : Left H := { results := [], args := [] }

/-- 'laws.FnPath': WHATEVER THE INPUT: true; the input reads as it did. -/
def fnPathSpec : ChangeSpec := { name := "fnPath", fn := fun _ => fun
  | [d] => { results := [.lit (.bool true)], args := [d] }
  | _ => none }
def fnPathRow : OpenClaim := { program := "ythpgenkdiokpeaa", sum := "84352673a9ab5fa335c87487b1f3d7fd634c745531e9e9684a76bb20743d3a4a", func := "loop.example/closingsticks/laws.FnPath", spec := "fnPath", unfollowed := true, recurses := true, plainKeys := false, apart := false }
def FnPathSaid : Prop := fnPathRow.holds Try.pinned (OpenSpec.ofChange fnPathSpec)

/-- ITS FALSE NEIGHBOUR: 'it returns false'. Refute it at one input. -/
def fnPathWrong : ChangeSpec := { name := "fnPath", fn := fun _ => fun
  | [d] => { results := [.lit (.bool false)], args := [d] }
  | _ => none }
def FnPathWrongFalsely : Prop := fnPathRow.holds Try.pinned (OpenSpec.ofChange fnPathWrong)

/-- 'laws.FnCorners': WHATEVER THE INPUT: true; the input reads as it did. -/
def fnCornersSpec : ChangeSpec := { name := "fnCorners", fn := fun _ => fun
  | [d] => { results := [.lit (.bool true)], args := [d] }
  | _ => none }
def fnCornersRow : OpenClaim := { program := "ythpgenkdiokpeaa", sum := "84352673a9ab5fa335c87487b1f3d7fd634c745531e9e9684a76bb20743d3a4a", func := "loop.example/closingsticks/laws.FnCorners", spec := "fnCorners", unfollowed := true, recurses := true, plainKeys := false, apart := false }
def FnCornersSaid : Prop := fnCornersRow.holds Try.pinned (OpenSpec.ofChange fnCornersSpec)

/-- ITS FALSE NEIGHBOUR: 'it returns false'. Refute it at one input. -/
def fnCornersWrong : ChangeSpec := { name := "fnCorners", fn := fun _ => fun
  | [d] => { results := [.lit (.bool false)], args := [d] }
  | _ => none }
def FnCornersWrongFalsely : Prop := fnCornersRow.holds Try.pinned (OpenSpec.ofChange fnCornersWrong)

/-- 'laws.FnArea': WHATEVER THE INPUT: true; the input reads as it did. -/
def fnAreaSpec : ChangeSpec := { name := "fnArea", fn := fun _ => fun
  | [d] => { results := [.lit (.bool true)], args := [d] }
  | _ => none }
def fnAreaRow : OpenClaim := { program := "ythpgenkdiokpeaa", sum := "84352673a9ab5fa335c87487b1f3d7fd634c745531e9e9684a76bb20743d3a4a", func := "loop.example/closingsticks/laws.FnArea", spec := "fnArea", unfollowed := true, recurses := true, plainKeys := false, apart := false }
def FnAreaSaid : Prop := fnAreaRow.holds Try.pinned (OpenSpec.ofChange fnAreaSpec)

/-- ITS FALSE NEIGHBOUR: 'it returns false'. Refute it at one input. -/
def fnAreaWrong : ChangeSpec := { name := "fnArea", fn := fun _ => fun
  | [d] => { results := [.lit (.bool false)], args := [d] }
  | _ => none }
def FnAreaWrongFalsely : Prop := fnAreaRow.holds Try.pinned (OpenSpec.ofChange fnAreaWrong)

/-- 'laws.FnPathBack': WHATEVER THE INPUT: true; the input reads as it did. -/
def fnPathBackSpec : ChangeSpec := { name := "fnPathBack", fn := fun _ => fun
  | [d] => { results := [.lit (.bool true)], args := [d] }
  | _ => none }
def fnPathBackRow : OpenClaim := { program := "ythpgenkdiokpeaa", sum := "84352673a9ab5fa335c87487b1f3d7fd634c745531e9e9684a76bb20743d3a4a", func := "loop.example/closingsticks/laws.FnPathBack", spec := "fnPathBack", unfollowed := true, recurses := true, plainKeys := false, apart := false }
def FnPathBackSaid : Prop := fnPathBackRow.holds Try.pinned (OpenSpec.ofChange fnPathBackSpec)

/-- ITS FALSE NEIGHBOUR: 'it returns false'. Refute it at one input. -/
def fnPathBackWrong : ChangeSpec := { name := "fnPathBack", fn := fun _ => fun
  | [d] => { results := [.lit (.bool false)], args := [d] }
  | _ => none }
def FnPathBackWrongFalsely : Prop := fnPathBackRow.holds Try.pinned (OpenSpec.ofChange fnPathBackWrong)

/-- 'laws.FnPathTurn': WHATEVER THE INPUT: true; the input reads as it did. -/
def fnPathTurnSpec : ChangeSpec := { name := "fnPathTurn", fn := fun _ => fun
  | [d] => { results := [.lit (.bool true)], args := [d] }
  | _ => none }
def fnPathTurnRow : OpenClaim := { program := "ythpgenkdiokpeaa", sum := "84352673a9ab5fa335c87487b1f3d7fd634c745531e9e9684a76bb20743d3a4a", func := "loop.example/closingsticks/laws.FnPathTurn", spec := "fnPathTurn", unfollowed := true, recurses := true, plainKeys := false, apart := false }
def FnPathTurnSaid : Prop := fnPathTurnRow.holds Try.pinned (OpenSpec.ofChange fnPathTurnSpec)

/-- ITS FALSE NEIGHBOUR: 'it returns false'. Refute it at one input. -/
def fnPathTurnWrong : ChangeSpec := { name := "fnPathTurn", fn := fun _ => fun
  | [d] => { results := [.lit (.bool false)], args := [d] }
  | _ => none }
def FnPathTurnWrongFalsely : Prop := fnPathTurnRow.holds Try.pinned (OpenSpec.ofChange fnPathTurnWrong)

/-- 'laws.FnBegin': WHATEVER THE INPUT: true; the input reads as it did. -/
def fnBeginSpec : ChangeSpec := { name := "fnBegin", fn := fun _ => fun
  | [d] => { results := [.lit (.bool true)], args := [d] }
  | _ => none }
def fnBeginRow : OpenClaim := { program := "ythpgenkdiokpeaa", sum := "84352673a9ab5fa335c87487b1f3d7fd634c745531e9e9684a76bb20743d3a4a", func := "loop.example/closingsticks/laws.FnBegin", spec := "fnBegin", unfollowed := true, recurses := true, plainKeys := false, apart := false }
def FnBeginSaid : Prop := fnBeginRow.holds Try.pinned (OpenSpec.ofChange fnBeginSpec)

/-- ITS FALSE NEIGHBOUR: 'it returns false'. Refute it at one input. -/
def fnBeginWrong : ChangeSpec := { name := "fnBegin", fn := fun _ => fun
  | [d] => { results := [.lit (.bool false)], args := [d] }
  | _ => none }
def FnBeginWrongFalsely : Prop := fnBeginRow.holds Try.pinned (OpenSpec.ofChange fnBeginWrong)

/-- 'laws.FnConvex': WHATEVER THE INPUT: true; the input reads as it did. -/
def fnConvexSpec : ChangeSpec := { name := "fnConvex", fn := fun _ => fun
  | [d] => { results := [.lit (.bool true)], args := [d] }
  | _ => none }
def fnConvexRow : OpenClaim := { program := "ythpgenkdiokpeaa", sum := "84352673a9ab5fa335c87487b1f3d7fd634c745531e9e9684a76bb20743d3a4a", func := "loop.example/closingsticks/laws.FnConvex", spec := "fnConvex", unfollowed := true, recurses := true, plainKeys := false, apart := false }
def FnConvexSaid : Prop := fnConvexRow.holds Try.pinned (OpenSpec.ofChange fnConvexSpec)

/-- ITS FALSE NEIGHBOUR: 'it returns false'. Refute it at one input. -/
def fnConvexWrong : ChangeSpec := { name := "fnConvex", fn := fun _ => fun
  | [d] => { results := [.lit (.bool false)], args := [d] }
  | _ => none }
def FnConvexWrongFalsely : Prop := fnConvexRow.holds Try.pinned (OpenSpec.ofChange fnConvexWrong)

/-- 'laws.FnBox': WHATEVER THE INPUT: true; the input reads as it did. -/
def fnBoxSpec : ChangeSpec := { name := "fnBox", fn := fun _ => fun
  | [d] => { results := [.lit (.bool true)], args := [d] }
  | _ => none }
def fnBoxRow : OpenClaim := { program := "ythpgenkdiokpeaa", sum := "84352673a9ab5fa335c87487b1f3d7fd634c745531e9e9684a76bb20743d3a4a", func := "loop.example/closingsticks/laws.FnBox", spec := "fnBox", unfollowed := true, recurses := true, plainKeys := false, apart := false }
def FnBoxSaid : Prop := fnBoxRow.holds Try.pinned (OpenSpec.ofChange fnBoxSpec)

/-- ITS FALSE NEIGHBOUR: 'it returns false'. Refute it at one input. -/
def fnBoxWrong : ChangeSpec := { name := "fnBox", fn := fun _ => fun
  | [d] => { results := [.lit (.bool false)], args := [d] }
  | _ => none }
def FnBoxWrongFalsely : Prop := fnBoxRow.holds Try.pinned (OpenSpec.ofChange fnBoxWrong)

/-- 'laws.FnRim': WHATEVER THE INPUT: true; the input reads as it did. -/
def fnRimSpec : ChangeSpec := { name := "fnRim", fn := fun _ => fun
  | [d] => { results := [.lit (.bool true)], args := [d] }
  | _ => none }
def fnRimRow : OpenClaim := { program := "ythpgenkdiokpeaa", sum := "84352673a9ab5fa335c87487b1f3d7fd634c745531e9e9684a76bb20743d3a4a", func := "loop.example/closingsticks/laws.FnRim", spec := "fnRim", unfollowed := true, recurses := true, plainKeys := false, apart := false }
def FnRimSaid : Prop := fnRimRow.holds Try.pinned (OpenSpec.ofChange fnRimSpec)

/-- ITS FALSE NEIGHBOUR: 'it returns false'. Refute it at one input. -/
def fnRimWrong : ChangeSpec := { name := "fnRim", fn := fun _ => fun
  | [d] => { results := [.lit (.bool false)], args := [d] }
  | _ => none }
def FnRimWrongFalsely : Prop := fnRimRow.holds Try.pinned (OpenSpec.ofChange fnRimWrong)

/-- 'laws.FnInside': WHATEVER THE INPUT: true; the input reads as it did. -/
def fnInsideSpec : ChangeSpec := { name := "fnInside", fn := fun _ => fun
  | [d] => { results := [.lit (.bool true)], args := [d] }
  | _ => none }
def fnInsideRow : OpenClaim := { program := "ythpgenkdiokpeaa", sum := "84352673a9ab5fa335c87487b1f3d7fd634c745531e9e9684a76bb20743d3a4a", func := "loop.example/closingsticks/laws.FnInside", spec := "fnInside", unfollowed := true, recurses := true, plainKeys := false, apart := false }
def FnInsideSaid : Prop := fnInsideRow.holds Try.pinned (OpenSpec.ofChange fnInsideSpec)

/-- ITS FALSE NEIGHBOUR: 'it returns false'. Refute it at one input. -/
def fnInsideWrong : ChangeSpec := { name := "fnInside", fn := fun _ => fun
  | [d] => { results := [.lit (.bool false)], args := [d] }
  | _ => none }
def FnInsideWrongFalsely : Prop := fnInsideRow.holds Try.pinned (OpenSpec.ofChange fnInsideWrong)

/-- 'laws.FnInsideAll': WHATEVER THE INPUT: true; the input reads as it did. -/
def fnInsideAllSpec : ChangeSpec := { name := "fnInsideAll", fn := fun _ => fun
  | [d] => { results := [.lit (.bool true)], args := [d] }
  | _ => none }
def fnInsideAllRow : OpenClaim := { program := "ythpgenkdiokpeaa", sum := "84352673a9ab5fa335c87487b1f3d7fd634c745531e9e9684a76bb20743d3a4a", func := "loop.example/closingsticks/laws.FnInsideAll", spec := "fnInsideAll", unfollowed := true, recurses := true, plainKeys := false, apart := false }
def FnInsideAllSaid : Prop := fnInsideAllRow.holds Try.pinned (OpenSpec.ofChange fnInsideAllSpec)

/-- ITS FALSE NEIGHBOUR: 'it returns false'. Refute it at one input. -/
def fnInsideAllWrong : ChangeSpec := { name := "fnInsideAll", fn := fun _ => fun
  | [d] => { results := [.lit (.bool false)], args := [d] }
  | _ => none }
def FnInsideAllWrongFalsely : Prop := fnInsideAllRow.holds Try.pinned (OpenSpec.ofChange fnInsideAllWrong)

/-- 'laws.FnSorted': WHATEVER THE INPUT: true; the input reads as it did. -/
def fnSortedSpec : ChangeSpec := { name := "fnSorted", fn := fun _ => fun
  | [d] => { results := [.lit (.bool true)], args := [d] }
  | _ => none }
def fnSortedRow : OpenClaim := { program := "ythpgenkdiokpeaa", sum := "84352673a9ab5fa335c87487b1f3d7fd634c745531e9e9684a76bb20743d3a4a", func := "loop.example/closingsticks/laws.FnSorted", spec := "fnSorted", unfollowed := true, recurses := true, plainKeys := false, apart := false }
def FnSortedSaid : Prop := fnSortedRow.holds Try.pinned (OpenSpec.ofChange fnSortedSpec)

/-- ITS FALSE NEIGHBOUR: 'it returns false'. Refute it at one input. -/
def fnSortedWrong : ChangeSpec := { name := "fnSorted", fn := fun _ => fun
  | [d] => { results := [.lit (.bool false)], args := [d] }
  | _ => none }
def FnSortedWrongFalsely : Prop := fnSortedRow.holds Try.pinned (OpenSpec.ofChange fnSortedWrong)

/-- 'laws.FnMost': WHATEVER THE INPUT: true; the input reads as it did. -/
def fnMostSpec : ChangeSpec := { name := "fnMost", fn := fun _ => fun
  | [d] => { results := [.lit (.bool true)], args := [d] }
  | _ => none }
def fnMostRow : OpenClaim := { program := "ythpgenkdiokpeaa", sum := "84352673a9ab5fa335c87487b1f3d7fd634c745531e9e9684a76bb20743d3a4a", func := "loop.example/closingsticks/laws.FnMost", spec := "fnMost", unfollowed := true, recurses := true, plainKeys := false, apart := false }
def FnMostSaid : Prop := fnMostRow.holds Try.pinned (OpenSpec.ofChange fnMostSpec)

/-- ITS FALSE NEIGHBOUR: 'it returns false'. Refute it at one input. -/
def fnMostWrong : ChangeSpec := { name := "fnMost", fn := fun _ => fun
  | [d] => { results := [.lit (.bool false)], args := [d] }
  | _ => none }
def FnMostWrongFalsely : Prop := fnMostRow.holds Try.pinned (OpenSpec.ofChange fnMostWrong)

/-- 'laws.FnRun': WHATEVER THE INPUT: true; the input reads as it did. -/
def fnRunSpec : ChangeSpec := { name := "fnRun", fn := fun _ => fun
  | [d] => { results := [.lit (.bool true)], args := [d] }
  | _ => none }
def fnRunRow : OpenClaim := { program := "ythpgenkdiokpeaa", sum := "84352673a9ab5fa335c87487b1f3d7fd634c745531e9e9684a76bb20743d3a4a", func := "loop.example/closingsticks/laws.FnRun", spec := "fnRun", unfollowed := true, recurses := true, plainKeys := false, apart := false }
def FnRunSaid : Prop := fnRunRow.holds Try.pinned (OpenSpec.ofChange fnRunSpec)

/-- ITS FALSE NEIGHBOUR: 'it returns false'. Refute it at one input. -/
def fnRunWrong : ChangeSpec := { name := "fnRun", fn := fun _ => fun
  | [d] => { results := [.lit (.bool false)], args := [d] }
  | _ => none }
def FnRunWrongFalsely : Prop := fnRunRow.holds Try.pinned (OpenSpec.ofChange fnRunWrong)

/-- 'laws.FnGain': WHATEVER THE INPUT: true; the input reads as it did. -/
def fnGainSpec : ChangeSpec := { name := "fnGain", fn := fun _ => fun
  | [d] => { results := [.lit (.bool true)], args := [d] }
  | _ => none }
def fnGainRow : OpenClaim := { program := "ythpgenkdiokpeaa", sum := "84352673a9ab5fa335c87487b1f3d7fd634c745531e9e9684a76bb20743d3a4a", func := "loop.example/closingsticks/laws.FnGain", spec := "fnGain", unfollowed := true, recurses := true, plainKeys := false, apart := false }
def FnGainSaid : Prop := fnGainRow.holds Try.pinned (OpenSpec.ofChange fnGainSpec)

/-- ITS FALSE NEIGHBOUR: 'it returns false'. Refute it at one input. -/
def fnGainWrong : ChangeSpec := { name := "fnGain", fn := fun _ => fun
  | [d] => { results := [.lit (.bool false)], args := [d] }
  | _ => none }
def FnGainWrongFalsely : Prop := fnGainRow.holds Try.pinned (OpenSpec.ofChange fnGainWrong)

/-- 'laws.FnFewest': WHATEVER THE INPUT: true; the input reads as it did. -/
def fnFewestSpec : ChangeSpec := { name := "fnFewest", fn := fun _ => fun
  | [d] => { results := [.lit (.bool true)], args := [d] }
  | _ => none }
def fnFewestRow : OpenClaim := { program := "ythpgenkdiokpeaa", sum := "84352673a9ab5fa335c87487b1f3d7fd634c745531e9e9684a76bb20743d3a4a", func := "loop.example/closingsticks/laws.FnFewest", spec := "fnFewest", unfollowed := true, recurses := true, plainKeys := false, apart := false }
def FnFewestSaid : Prop := fnFewestRow.holds Try.pinned (OpenSpec.ofChange fnFewestSpec)

/-- ITS FALSE NEIGHBOUR: 'it returns false'. Refute it at one input. -/
def fnFewestWrong : ChangeSpec := { name := "fnFewest", fn := fun _ => fun
  | [d] => { results := [.lit (.bool false)], args := [d] }
  | _ => none }
def FnFewestWrongFalsely : Prop := fnFewestRow.holds Try.pinned (OpenSpec.ofChange fnFewestWrong)

/-- 'laws.FnOrderLattice': WHATEVER THE INPUT: true; the input reads as it did. -/
def fnOrderLatticeSpec : ChangeSpec := { name := "fnOrderLattice", fn := fun _ => fun
  | [d] => { results := [.lit (.bool true)], args := [d] }
  | _ => none }
def fnOrderLatticeRow : OpenClaim := { program := "ythpgenkdiokpeaa", sum := "84352673a9ab5fa335c87487b1f3d7fd634c745531e9e9684a76bb20743d3a4a", func := "loop.example/closingsticks/laws.FnOrderLattice", spec := "fnOrderLattice", unfollowed := true, recurses := true, plainKeys := false, apart := false }
def FnOrderLatticeSaid : Prop := fnOrderLatticeRow.holds Try.pinned (OpenSpec.ofChange fnOrderLatticeSpec)

/-- ITS FALSE NEIGHBOUR: 'it returns false'. Refute it at one input. -/
def fnOrderLatticeWrong : ChangeSpec := { name := "fnOrderLattice", fn := fun _ => fun
  | [d] => { results := [.lit (.bool false)], args := [d] }
  | _ => none }
def FnOrderLatticeWrongFalsely : Prop := fnOrderLatticeRow.holds Try.pinned (OpenSpec.ofChange fnOrderLatticeWrong)

/-- 'laws.FnZonoPath': WHATEVER THE INPUT: true; the input reads as it did. -/
def fnZonoPathSpec : ChangeSpec := { name := "fnZonoPath", fn := fun _ => fun
  | [d] => { results := [.lit (.bool true)], args := [d] }
  | _ => none }
def fnZonoPathRow : OpenClaim := { program := "ythpgenkdiokpeaa", sum := "84352673a9ab5fa335c87487b1f3d7fd634c745531e9e9684a76bb20743d3a4a", func := "loop.example/closingsticks/laws.FnZonoPath", spec := "fnZonoPath", unfollowed := true, recurses := true, plainKeys := false, apart := false }
def FnZonoPathSaid : Prop := fnZonoPathRow.holds Try.pinned (OpenSpec.ofChange fnZonoPathSpec)

/-- ITS FALSE NEIGHBOUR: 'it returns false'. Refute it at one input. -/
def fnZonoPathWrong : ChangeSpec := { name := "fnZonoPath", fn := fun _ => fun
  | [d] => { results := [.lit (.bool false)], args := [d] }
  | _ => none }
def FnZonoPathWrongFalsely : Prop := fnZonoPathRow.holds Try.pinned (OpenSpec.ofChange fnZonoPathWrong)

/-- 'laws.FnZonoArea': WHATEVER THE INPUT: true; the input reads as it did. -/
def fnZonoAreaSpec : ChangeSpec := { name := "fnZonoArea", fn := fun _ => fun
  | [d] => { results := [.lit (.bool true)], args := [d] }
  | _ => none }
def fnZonoAreaRow : OpenClaim := { program := "ythpgenkdiokpeaa", sum := "84352673a9ab5fa335c87487b1f3d7fd634c745531e9e9684a76bb20743d3a4a", func := "loop.example/closingsticks/laws.FnZonoArea", spec := "fnZonoArea", unfollowed := true, recurses := true, plainKeys := false, apart := false }
def FnZonoAreaSaid : Prop := fnZonoAreaRow.holds Try.pinned (OpenSpec.ofChange fnZonoAreaSpec)

/-- ITS FALSE NEIGHBOUR: 'it returns false'. Refute it at one input. -/
def fnZonoAreaWrong : ChangeSpec := { name := "fnZonoArea", fn := fun _ => fun
  | [d] => { results := [.lit (.bool false)], args := [d] }
  | _ => none }
def FnZonoAreaWrongFalsely : Prop := fnZonoAreaRow.holds Try.pinned (OpenSpec.ofChange fnZonoAreaWrong)

/-- 'laws.FnPieces': WHATEVER THE INPUT: true; the input reads as it did. -/
def fnPiecesSpec : ChangeSpec := { name := "fnPieces", fn := fun _ => fun
  | [d] => { results := [.lit (.bool true)], args := [d] }
  | _ => none }
def fnPiecesRow : OpenClaim := { program := "ythpgenkdiokpeaa", sum := "84352673a9ab5fa335c87487b1f3d7fd634c745531e9e9684a76bb20743d3a4a", func := "loop.example/closingsticks/laws.FnPieces", spec := "fnPieces", unfollowed := true, recurses := true, plainKeys := false, apart := false }
def FnPiecesSaid : Prop := fnPiecesRow.holds Try.pinned (OpenSpec.ofChange fnPiecesSpec)

/-- ITS FALSE NEIGHBOUR: 'it returns false'. Refute it at one input. -/
def fnPiecesWrong : ChangeSpec := { name := "fnPieces", fn := fun _ => fun
  | [d] => { results := [.lit (.bool false)], args := [d] }
  | _ => none }
def FnPiecesWrongFalsely : Prop := fnPiecesRow.holds Try.pinned (OpenSpec.ofChange fnPiecesWrong)

/-- 'laws.FnZonoInside': WHATEVER THE INPUT: true; the input reads as it did. -/
def fnZonoInsideSpec : ChangeSpec := { name := "fnZonoInside", fn := fun _ => fun
  | [d] => { results := [.lit (.bool true)], args := [d] }
  | _ => none }
def fnZonoInsideRow : OpenClaim := { program := "ythpgenkdiokpeaa", sum := "84352673a9ab5fa335c87487b1f3d7fd634c745531e9e9684a76bb20743d3a4a", func := "loop.example/closingsticks/laws.FnZonoInside", spec := "fnZonoInside", unfollowed := true, recurses := true, plainKeys := false, apart := false }
def FnZonoInsideSaid : Prop := fnZonoInsideRow.holds Try.pinned (OpenSpec.ofChange fnZonoInsideSpec)

/-- ITS FALSE NEIGHBOUR: 'it returns false'. Refute it at one input. -/
def fnZonoInsideWrong : ChangeSpec := { name := "fnZonoInside", fn := fun _ => fun
  | [d] => { results := [.lit (.bool false)], args := [d] }
  | _ => none }
def FnZonoInsideWrongFalsely : Prop := fnZonoInsideRow.holds Try.pinned (OpenSpec.ofChange fnZonoInsideWrong)

/-- 'laws.FnExactPathBox': WHATEVER THE INPUT: true; the input reads as it did. -/
def fnExactPathBoxSpec : ChangeSpec := { name := "fnExactPathBox", fn := fun _ => fun
  | [d] => { results := [.lit (.bool true)], args := [d] }
  | _ => none }
def fnExactPathBoxRow : OpenClaim := { program := "ythpgenkdiokpeaa", sum := "84352673a9ab5fa335c87487b1f3d7fd634c745531e9e9684a76bb20743d3a4a", func := "loop.example/closingsticks/laws.FnExactPathBox", spec := "fnExactPathBox", unfollowed := true, recurses := true, plainKeys := false, apart := false }
def FnExactPathBoxSaid : Prop := fnExactPathBoxRow.holds Try.pinned (OpenSpec.ofChange fnExactPathBoxSpec)

/-- ITS FALSE NEIGHBOUR: 'it returns false'. Refute it at one input. -/
def fnExactPathBoxWrong : ChangeSpec := { name := "fnExactPathBox", fn := fun _ => fun
  | [d] => { results := [.lit (.bool false)], args := [d] }
  | _ => none }
def FnExactPathBoxWrongFalsely : Prop := fnExactPathBoxRow.holds Try.pinned (OpenSpec.ofChange fnExactPathBoxWrong)

/-- 'laws.FnExactPathInsideAll': WHATEVER THE INPUT: true; the input reads as it did. -/
def fnExactPathInsideAllSpec : ChangeSpec := { name := "fnExactPathInsideAll", fn := fun _ => fun
  | [d] => { results := [.lit (.bool true)], args := [d] }
  | _ => none }
def fnExactPathInsideAllRow : OpenClaim := { program := "ythpgenkdiokpeaa", sum := "84352673a9ab5fa335c87487b1f3d7fd634c745531e9e9684a76bb20743d3a4a", func := "loop.example/closingsticks/laws.FnExactPathInsideAll", spec := "fnExactPathInsideAll", unfollowed := true, recurses := true, plainKeys := false, apart := false }
def FnExactPathInsideAllSaid : Prop := fnExactPathInsideAllRow.holds Try.pinned (OpenSpec.ofChange fnExactPathInsideAllSpec)

/-- ITS FALSE NEIGHBOUR: 'it returns false'. Refute it at one input. -/
def fnExactPathInsideAllWrong : ChangeSpec := { name := "fnExactPathInsideAll", fn := fun _ => fun
  | [d] => { results := [.lit (.bool false)], args := [d] }
  | _ => none }
def FnExactPathInsideAllWrongFalsely : Prop := fnExactPathInsideAllRow.holds Try.pinned (OpenSpec.ofChange fnExactPathInsideAllWrong)

/-- 'laws.FnExactOrderMost': WHATEVER THE INPUT: true; the input reads as it did. -/
def fnExactOrderMostSpec : ChangeSpec := { name := "fnExactOrderMost", fn := fun _ => fun
  | [d] => { results := [.lit (.bool true)], args := [d] }
  | _ => none }
def fnExactOrderMostRow : OpenClaim := { program := "ythpgenkdiokpeaa", sum := "84352673a9ab5fa335c87487b1f3d7fd634c745531e9e9684a76bb20743d3a4a", func := "loop.example/closingsticks/laws.FnExactOrderMost", spec := "fnExactOrderMost", unfollowed := true, recurses := true, plainKeys := false, apart := false }
def FnExactOrderMostSaid : Prop := fnExactOrderMostRow.holds Try.pinned (OpenSpec.ofChange fnExactOrderMostSpec)

/-- ITS FALSE NEIGHBOUR: 'it returns false'. Refute it at one input. -/
def fnExactOrderMostWrong : ChangeSpec := { name := "fnExactOrderMost", fn := fun _ => fun
  | [d] => { results := [.lit (.bool false)], args := [d] }
  | _ => none }
def FnExactOrderMostWrongFalsely : Prop := fnExactOrderMostRow.holds Try.pinned (OpenSpec.ofChange fnExactOrderMostWrong)

/-- 'laws.FnExactOrderFewest': WHATEVER THE INPUT: true; the input reads as it did. -/
def fnExactOrderFewestSpec : ChangeSpec := { name := "fnExactOrderFewest", fn := fun _ => fun
  | [d] => { results := [.lit (.bool true)], args := [d] }
  | _ => none }
def fnExactOrderFewestRow : OpenClaim := { program := "ythpgenkdiokpeaa", sum := "84352673a9ab5fa335c87487b1f3d7fd634c745531e9e9684a76bb20743d3a4a", func := "loop.example/closingsticks/laws.FnExactOrderFewest", spec := "fnExactOrderFewest", unfollowed := true, recurses := true, plainKeys := false, apart := false }
def FnExactOrderFewestSaid : Prop := fnExactOrderFewestRow.holds Try.pinned (OpenSpec.ofChange fnExactOrderFewestSpec)

/-- ITS FALSE NEIGHBOUR: 'it returns false'. Refute it at one input. -/
def fnExactOrderFewestWrong : ChangeSpec := { name := "fnExactOrderFewest", fn := fun _ => fun
  | [d] => { results := [.lit (.bool false)], args := [d] }
  | _ => none }
def FnExactOrderFewestWrongFalsely : Prop := fnExactOrderFewestRow.holds Try.pinned (OpenSpec.ofChange fnExactOrderFewestWrong)

/- THE SECOND FORM. 'bulk': how many values and letters a reading holds, each counted each time it is reached (what is shared counts as often as it is met; a slice's spare places count too). A statement '..UptoSaid' is the law's where the arguments, and the package variables that the reading takes, are together of bulk at most 1048576: NARROWER than '..Said'. Prove '..Said' where nothing that the law and all that it calls make is longer than what came in: it says more and counts as full. Else prove '..UptoSaid'. A law counts once. -/
mutual
def uptoBulk {H : Type} : DataW H → Nat
  | .lit (.string bytes) => bytes.length + 1
  | .lit _ => 1
  | .nil => 1
  | .ptr d => uptoBulk d + 1
  | .slice elems spare => uptoBulkAll elems + uptoBulkAll spare + 1
  | .agg parts => uptoBulkAll parts + 1
  | .iface _ d => uptoBulk d + 1
  | .map entries => uptoBulkEntries entries + 1
  | .held _ => 1
def uptoBulkAll {H : Type} : List (DataW H) → Nat
  | [] => 0
  | d :: r => uptoBulk d + uptoBulkAll r
def uptoBulkEntries {H : Type} : List (Lit × DataW H) → Nat
  | [] => 0
  | x :: r => uptoBulkEntry x + uptoBulkEntries r
def uptoBulkEntry {H : Type} : Lit × DataW H → Nat
  | (.string bytes, d) => bytes.length + uptoBulk d + 1
  | (_, d) => uptoBulk d + 1
 end
def uptoSmall : (H : Type) → List (DataW H) → Bool := fun _ ds => decide (uptoBulkAll ds ≤ 1048576)
def OpenSpec.upto (s : _root_.Go.ChangeSpec) : _root_.Go.OpenSpec := { _root_.Go.OpenSpec.ofChange s with cond := some uptoSmall }

/-- 'laws.FnPath', WHERE WHAT IT READS IS OF BULK AT MOST 1048576: true; the input reads as it did. -/
def fnPathUptoRow : OpenClaim := { program := "ythpgenkdiokpeaa", sum := "84352673a9ab5fa335c87487b1f3d7fd634c745531e9e9684a76bb20743d3a4a", func := "loop.example/closingsticks/laws.FnPath", spec := "fnPath", unfollowed := true, recurses := true, plainKeys := false, apart := false, narrowed := true }
def FnPathUptoSaid : Prop := fnPathUptoRow.holds Try.pinned (OpenSpec.upto fnPathSpec)

/-- 'laws.FnCorners', WHERE WHAT IT READS IS OF BULK AT MOST 1048576: true; the input reads as it did. -/
def fnCornersUptoRow : OpenClaim := { program := "ythpgenkdiokpeaa", sum := "84352673a9ab5fa335c87487b1f3d7fd634c745531e9e9684a76bb20743d3a4a", func := "loop.example/closingsticks/laws.FnCorners", spec := "fnCorners", unfollowed := true, recurses := true, plainKeys := false, apart := false, narrowed := true }
def FnCornersUptoSaid : Prop := fnCornersUptoRow.holds Try.pinned (OpenSpec.upto fnCornersSpec)

/-- 'laws.FnArea', WHERE WHAT IT READS IS OF BULK AT MOST 1048576: true; the input reads as it did. -/
def fnAreaUptoRow : OpenClaim := { program := "ythpgenkdiokpeaa", sum := "84352673a9ab5fa335c87487b1f3d7fd634c745531e9e9684a76bb20743d3a4a", func := "loop.example/closingsticks/laws.FnArea", spec := "fnArea", unfollowed := true, recurses := true, plainKeys := false, apart := false, narrowed := true }
def FnAreaUptoSaid : Prop := fnAreaUptoRow.holds Try.pinned (OpenSpec.upto fnAreaSpec)

/-- 'laws.FnPathBack', WHERE WHAT IT READS IS OF BULK AT MOST 1048576: true; the input reads as it did. -/
def fnPathBackUptoRow : OpenClaim := { program := "ythpgenkdiokpeaa", sum := "84352673a9ab5fa335c87487b1f3d7fd634c745531e9e9684a76bb20743d3a4a", func := "loop.example/closingsticks/laws.FnPathBack", spec := "fnPathBack", unfollowed := true, recurses := true, plainKeys := false, apart := false, narrowed := true }
def FnPathBackUptoSaid : Prop := fnPathBackUptoRow.holds Try.pinned (OpenSpec.upto fnPathBackSpec)

/-- 'laws.FnPathTurn', WHERE WHAT IT READS IS OF BULK AT MOST 1048576: true; the input reads as it did. -/
def fnPathTurnUptoRow : OpenClaim := { program := "ythpgenkdiokpeaa", sum := "84352673a9ab5fa335c87487b1f3d7fd634c745531e9e9684a76bb20743d3a4a", func := "loop.example/closingsticks/laws.FnPathTurn", spec := "fnPathTurn", unfollowed := true, recurses := true, plainKeys := false, apart := false, narrowed := true }
def FnPathTurnUptoSaid : Prop := fnPathTurnUptoRow.holds Try.pinned (OpenSpec.upto fnPathTurnSpec)

/-- 'laws.FnBegin', WHERE WHAT IT READS IS OF BULK AT MOST 1048576: true; the input reads as it did. -/
def fnBeginUptoRow : OpenClaim := { program := "ythpgenkdiokpeaa", sum := "84352673a9ab5fa335c87487b1f3d7fd634c745531e9e9684a76bb20743d3a4a", func := "loop.example/closingsticks/laws.FnBegin", spec := "fnBegin", unfollowed := true, recurses := true, plainKeys := false, apart := false, narrowed := true }
def FnBeginUptoSaid : Prop := fnBeginUptoRow.holds Try.pinned (OpenSpec.upto fnBeginSpec)

/-- 'laws.FnConvex', WHERE WHAT IT READS IS OF BULK AT MOST 1048576: true; the input reads as it did. -/
def fnConvexUptoRow : OpenClaim := { program := "ythpgenkdiokpeaa", sum := "84352673a9ab5fa335c87487b1f3d7fd634c745531e9e9684a76bb20743d3a4a", func := "loop.example/closingsticks/laws.FnConvex", spec := "fnConvex", unfollowed := true, recurses := true, plainKeys := false, apart := false, narrowed := true }
def FnConvexUptoSaid : Prop := fnConvexUptoRow.holds Try.pinned (OpenSpec.upto fnConvexSpec)

/-- 'laws.FnBox', WHERE WHAT IT READS IS OF BULK AT MOST 1048576: true; the input reads as it did. -/
def fnBoxUptoRow : OpenClaim := { program := "ythpgenkdiokpeaa", sum := "84352673a9ab5fa335c87487b1f3d7fd634c745531e9e9684a76bb20743d3a4a", func := "loop.example/closingsticks/laws.FnBox", spec := "fnBox", unfollowed := true, recurses := true, plainKeys := false, apart := false, narrowed := true }
def FnBoxUptoSaid : Prop := fnBoxUptoRow.holds Try.pinned (OpenSpec.upto fnBoxSpec)

/-- 'laws.FnRim', WHERE WHAT IT READS IS OF BULK AT MOST 1048576: true; the input reads as it did. -/
def fnRimUptoRow : OpenClaim := { program := "ythpgenkdiokpeaa", sum := "84352673a9ab5fa335c87487b1f3d7fd634c745531e9e9684a76bb20743d3a4a", func := "loop.example/closingsticks/laws.FnRim", spec := "fnRim", unfollowed := true, recurses := true, plainKeys := false, apart := false, narrowed := true }
def FnRimUptoSaid : Prop := fnRimUptoRow.holds Try.pinned (OpenSpec.upto fnRimSpec)

/-- 'laws.FnInside', WHERE WHAT IT READS IS OF BULK AT MOST 1048576: true; the input reads as it did. -/
def fnInsideUptoRow : OpenClaim := { program := "ythpgenkdiokpeaa", sum := "84352673a9ab5fa335c87487b1f3d7fd634c745531e9e9684a76bb20743d3a4a", func := "loop.example/closingsticks/laws.FnInside", spec := "fnInside", unfollowed := true, recurses := true, plainKeys := false, apart := false, narrowed := true }
def FnInsideUptoSaid : Prop := fnInsideUptoRow.holds Try.pinned (OpenSpec.upto fnInsideSpec)

/-- 'laws.FnInsideAll', WHERE WHAT IT READS IS OF BULK AT MOST 1048576: true; the input reads as it did. -/
def fnInsideAllUptoRow : OpenClaim := { program := "ythpgenkdiokpeaa", sum := "84352673a9ab5fa335c87487b1f3d7fd634c745531e9e9684a76bb20743d3a4a", func := "loop.example/closingsticks/laws.FnInsideAll", spec := "fnInsideAll", unfollowed := true, recurses := true, plainKeys := false, apart := false, narrowed := true }
def FnInsideAllUptoSaid : Prop := fnInsideAllUptoRow.holds Try.pinned (OpenSpec.upto fnInsideAllSpec)

/-- 'laws.FnSorted', WHERE WHAT IT READS IS OF BULK AT MOST 1048576: true; the input reads as it did. -/
def fnSortedUptoRow : OpenClaim := { program := "ythpgenkdiokpeaa", sum := "84352673a9ab5fa335c87487b1f3d7fd634c745531e9e9684a76bb20743d3a4a", func := "loop.example/closingsticks/laws.FnSorted", spec := "fnSorted", unfollowed := true, recurses := true, plainKeys := false, apart := false, narrowed := true }
def FnSortedUptoSaid : Prop := fnSortedUptoRow.holds Try.pinned (OpenSpec.upto fnSortedSpec)

/-- 'laws.FnMost', WHERE WHAT IT READS IS OF BULK AT MOST 1048576: true; the input reads as it did. -/
def fnMostUptoRow : OpenClaim := { program := "ythpgenkdiokpeaa", sum := "84352673a9ab5fa335c87487b1f3d7fd634c745531e9e9684a76bb20743d3a4a", func := "loop.example/closingsticks/laws.FnMost", spec := "fnMost", unfollowed := true, recurses := true, plainKeys := false, apart := false, narrowed := true }
def FnMostUptoSaid : Prop := fnMostUptoRow.holds Try.pinned (OpenSpec.upto fnMostSpec)

/-- 'laws.FnRun', WHERE WHAT IT READS IS OF BULK AT MOST 1048576: true; the input reads as it did. -/
def fnRunUptoRow : OpenClaim := { program := "ythpgenkdiokpeaa", sum := "84352673a9ab5fa335c87487b1f3d7fd634c745531e9e9684a76bb20743d3a4a", func := "loop.example/closingsticks/laws.FnRun", spec := "fnRun", unfollowed := true, recurses := true, plainKeys := false, apart := false, narrowed := true }
def FnRunUptoSaid : Prop := fnRunUptoRow.holds Try.pinned (OpenSpec.upto fnRunSpec)

/-- 'laws.FnGain', WHERE WHAT IT READS IS OF BULK AT MOST 1048576: true; the input reads as it did. -/
def fnGainUptoRow : OpenClaim := { program := "ythpgenkdiokpeaa", sum := "84352673a9ab5fa335c87487b1f3d7fd634c745531e9e9684a76bb20743d3a4a", func := "loop.example/closingsticks/laws.FnGain", spec := "fnGain", unfollowed := true, recurses := true, plainKeys := false, apart := false, narrowed := true }
def FnGainUptoSaid : Prop := fnGainUptoRow.holds Try.pinned (OpenSpec.upto fnGainSpec)

/-- 'laws.FnFewest', WHERE WHAT IT READS IS OF BULK AT MOST 1048576: true; the input reads as it did. -/
def fnFewestUptoRow : OpenClaim := { program := "ythpgenkdiokpeaa", sum := "84352673a9ab5fa335c87487b1f3d7fd634c745531e9e9684a76bb20743d3a4a", func := "loop.example/closingsticks/laws.FnFewest", spec := "fnFewest", unfollowed := true, recurses := true, plainKeys := false, apart := false, narrowed := true }
def FnFewestUptoSaid : Prop := fnFewestUptoRow.holds Try.pinned (OpenSpec.upto fnFewestSpec)

/-- 'laws.FnOrderLattice', WHERE WHAT IT READS IS OF BULK AT MOST 1048576: true; the input reads as it did. -/
def fnOrderLatticeUptoRow : OpenClaim := { program := "ythpgenkdiokpeaa", sum := "84352673a9ab5fa335c87487b1f3d7fd634c745531e9e9684a76bb20743d3a4a", func := "loop.example/closingsticks/laws.FnOrderLattice", spec := "fnOrderLattice", unfollowed := true, recurses := true, plainKeys := false, apart := false, narrowed := true }
def FnOrderLatticeUptoSaid : Prop := fnOrderLatticeUptoRow.holds Try.pinned (OpenSpec.upto fnOrderLatticeSpec)

/-- 'laws.FnZonoPath', WHERE WHAT IT READS IS OF BULK AT MOST 1048576: true; the input reads as it did. -/
def fnZonoPathUptoRow : OpenClaim := { program := "ythpgenkdiokpeaa", sum := "84352673a9ab5fa335c87487b1f3d7fd634c745531e9e9684a76bb20743d3a4a", func := "loop.example/closingsticks/laws.FnZonoPath", spec := "fnZonoPath", unfollowed := true, recurses := true, plainKeys := false, apart := false, narrowed := true }
def FnZonoPathUptoSaid : Prop := fnZonoPathUptoRow.holds Try.pinned (OpenSpec.upto fnZonoPathSpec)

/-- 'laws.FnZonoArea', WHERE WHAT IT READS IS OF BULK AT MOST 1048576: true; the input reads as it did. -/
def fnZonoAreaUptoRow : OpenClaim := { program := "ythpgenkdiokpeaa", sum := "84352673a9ab5fa335c87487b1f3d7fd634c745531e9e9684a76bb20743d3a4a", func := "loop.example/closingsticks/laws.FnZonoArea", spec := "fnZonoArea", unfollowed := true, recurses := true, plainKeys := false, apart := false, narrowed := true }
def FnZonoAreaUptoSaid : Prop := fnZonoAreaUptoRow.holds Try.pinned (OpenSpec.upto fnZonoAreaSpec)

/-- 'laws.FnPieces', WHERE WHAT IT READS IS OF BULK AT MOST 1048576: true; the input reads as it did. -/
def fnPiecesUptoRow : OpenClaim := { program := "ythpgenkdiokpeaa", sum := "84352673a9ab5fa335c87487b1f3d7fd634c745531e9e9684a76bb20743d3a4a", func := "loop.example/closingsticks/laws.FnPieces", spec := "fnPieces", unfollowed := true, recurses := true, plainKeys := false, apart := false, narrowed := true }
def FnPiecesUptoSaid : Prop := fnPiecesUptoRow.holds Try.pinned (OpenSpec.upto fnPiecesSpec)

/-- 'laws.FnZonoInside', WHERE WHAT IT READS IS OF BULK AT MOST 1048576: true; the input reads as it did. -/
def fnZonoInsideUptoRow : OpenClaim := { program := "ythpgenkdiokpeaa", sum := "84352673a9ab5fa335c87487b1f3d7fd634c745531e9e9684a76bb20743d3a4a", func := "loop.example/closingsticks/laws.FnZonoInside", spec := "fnZonoInside", unfollowed := true, recurses := true, plainKeys := false, apart := false, narrowed := true }
def FnZonoInsideUptoSaid : Prop := fnZonoInsideUptoRow.holds Try.pinned (OpenSpec.upto fnZonoInsideSpec)

/-- 'laws.FnExactPathBox', WHERE WHAT IT READS IS OF BULK AT MOST 1048576: true; the input reads as it did. -/
def fnExactPathBoxUptoRow : OpenClaim := { program := "ythpgenkdiokpeaa", sum := "84352673a9ab5fa335c87487b1f3d7fd634c745531e9e9684a76bb20743d3a4a", func := "loop.example/closingsticks/laws.FnExactPathBox", spec := "fnExactPathBox", unfollowed := true, recurses := true, plainKeys := false, apart := false, narrowed := true }
def FnExactPathBoxUptoSaid : Prop := fnExactPathBoxUptoRow.holds Try.pinned (OpenSpec.upto fnExactPathBoxSpec)

/-- 'laws.FnExactPathInsideAll', WHERE WHAT IT READS IS OF BULK AT MOST 1048576: true; the input reads as it did. -/
def fnExactPathInsideAllUptoRow : OpenClaim := { program := "ythpgenkdiokpeaa", sum := "84352673a9ab5fa335c87487b1f3d7fd634c745531e9e9684a76bb20743d3a4a", func := "loop.example/closingsticks/laws.FnExactPathInsideAll", spec := "fnExactPathInsideAll", unfollowed := true, recurses := true, plainKeys := false, apart := false, narrowed := true }
def FnExactPathInsideAllUptoSaid : Prop := fnExactPathInsideAllUptoRow.holds Try.pinned (OpenSpec.upto fnExactPathInsideAllSpec)

/-- 'laws.FnExactOrderMost', WHERE WHAT IT READS IS OF BULK AT MOST 1048576: true; the input reads as it did. -/
def fnExactOrderMostUptoRow : OpenClaim := { program := "ythpgenkdiokpeaa", sum := "84352673a9ab5fa335c87487b1f3d7fd634c745531e9e9684a76bb20743d3a4a", func := "loop.example/closingsticks/laws.FnExactOrderMost", spec := "fnExactOrderMost", unfollowed := true, recurses := true, plainKeys := false, apart := false, narrowed := true }
def FnExactOrderMostUptoSaid : Prop := fnExactOrderMostUptoRow.holds Try.pinned (OpenSpec.upto fnExactOrderMostSpec)

/-- 'laws.FnExactOrderFewest', WHERE WHAT IT READS IS OF BULK AT MOST 1048576: true; the input reads as it did. -/
def fnExactOrderFewestUptoRow : OpenClaim := { program := "ythpgenkdiokpeaa", sum := "84352673a9ab5fa335c87487b1f3d7fd634c745531e9e9684a76bb20743d3a4a", func := "loop.example/closingsticks/laws.FnExactOrderFewest", spec := "fnExactOrderFewest", unfollowed := true, recurses := true, plainKeys := false, apart := false, narrowed := true }
def FnExactOrderFewestUptoSaid : Prop := fnExactOrderFewestUptoRow.holds Try.pinned (OpenSpec.upto fnExactOrderFewestSpec)

end Rows
end Go.Proofs.Ythpgenkdiokpeaa
