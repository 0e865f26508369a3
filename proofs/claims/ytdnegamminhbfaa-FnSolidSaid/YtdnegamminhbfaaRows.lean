/-
  No cell of these rows narrows 'for every input' (looked for: loops, veiled, ifaces, maps, wideKeys, modest, calm, conditions, laid).
  DERIVED. THE GIVEN ROWS OF THIS SEAT. 23 by the template 'for every input the law returns true; each argument reads behind the call as it read before'; 0 by the template 'total and deterministic' (their statements: YtdnegamminhbfaaTotals.lean).
  GIVEN WITH THE SEED: the statements are not yours to turn. If you find one false, say at which input.
  Laid BY PROGRAM, IN A SANDBOX (cutbox-rows.mjs): the forced cells as the released guide's own fill.sh prints them over the translation 4d5ff66e7cb1d9c7… (all of the seat's roots in one cut). By AI agents, Wed Nov 11 2026. No macro, syntax, notation, axiom, sorry.
-/
import Derived.Test.YtdnegamminhbfaaChecked
import GoSem.Claim
import GoSem.ClaimJoined
import GoSem.ClaimMapViews
import Derived.JoinedTies
import Derived.KernelRfl
namespace Go.Proofs.Ytdnegamminhbfaa
/- THE CELL 'sum', in the pinned program and in every row, IS THE sha256 OF THE DUMP (.gsa) THAT YtdnegamminhbfaaProg.lean LOADS. Nothing in Lean hashes anything: it is a label: what it is worth is what the hold of that sum in a sandbox is worth. -/
noncomputable def Try.pinned : Pinned := { name := "ytdnegamminhbfaa", sum := "4d5ff66e7cb1d9c71f1510120212f8efaf86b5a25e144615f9c21274311001c8", checked := Try.checked }
namespace Rows
def none {H : Type} : Left H := { results := [], args := [] }

/-- 'laws.FnMost': WHATEVER THE INPUT: true; the input reads as it did. -/
def fnMostSpec : ChangeSpec := { name := "fnMost", fn := fun _ => fun
  | [d] => { results := [.lit (.bool true)], args := [d] }
  | _ => none }
def fnMostRow : OpenClaim := { program := "ytdnegamminhbfaa", sum := "4d5ff66e7cb1d9c71f1510120212f8efaf86b5a25e144615f9c21274311001c8", func := "loop.example/closingsticks/laws.FnMost", spec := "fnMost", unfollowed := true, recurses := true, apart := false }
def FnMostSaid : Prop := fnMostRow.holds Try.pinned (OpenSpec.ofChange fnMostSpec)

/-- ITS FALSE NEIGHBOUR: 'it returns false'. Refute it at one input. -/
def fnMostWrong : ChangeSpec := { name := "fnMost", fn := fun _ => fun
  | [d] => { results := [.lit (.bool false)], args := [d] }
  | _ => none }
def FnMostWrongFalsely : Prop := fnMostRow.holds Try.pinned (OpenSpec.ofChange fnMostWrong)

/-- 'laws.FnOrderLattice': WHATEVER THE INPUT: true; the input reads as it did. -/
def fnOrderLatticeSpec : ChangeSpec := { name := "fnOrderLattice", fn := fun _ => fun
  | [d] => { results := [.lit (.bool true)], args := [d] }
  | _ => none }
def fnOrderLatticeRow : OpenClaim := { program := "ytdnegamminhbfaa", sum := "4d5ff66e7cb1d9c71f1510120212f8efaf86b5a25e144615f9c21274311001c8", func := "loop.example/closingsticks/laws.FnOrderLattice", spec := "fnOrderLattice", unfollowed := true, recurses := true, apart := false }
def FnOrderLatticeSaid : Prop := fnOrderLatticeRow.holds Try.pinned (OpenSpec.ofChange fnOrderLatticeSpec)

/-- ITS FALSE NEIGHBOUR: 'it returns false'. Refute it at one input. -/
def fnOrderLatticeWrong : ChangeSpec := { name := "fnOrderLattice", fn := fun _ => fun
  | [d] => { results := [.lit (.bool false)], args := [d] }
  | _ => none }
def FnOrderLatticeWrongFalsely : Prop := fnOrderLatticeRow.holds Try.pinned (OpenSpec.ofChange fnOrderLatticeWrong)

/-- 'laws.FnSolid': WHATEVER THE INPUT: true; the input reads as it did. -/
def fnSolidSpec : ChangeSpec := { name := "fnSolid", fn := fun _ => fun
  | [d] => { results := [.lit (.bool true)], args := [d] }
  | _ => none }
def fnSolidRow : OpenClaim := { program := "ytdnegamminhbfaa", sum := "4d5ff66e7cb1d9c71f1510120212f8efaf86b5a25e144615f9c21274311001c8", func := "loop.example/closingsticks/laws.FnSolid", spec := "fnSolid", apart := false }
def FnSolidSaid : Prop := fnSolidRow.holds Try.pinned (OpenSpec.ofChange fnSolidSpec)

/-- ITS FALSE NEIGHBOUR: 'it returns false'. Refute it at one input. -/
def fnSolidWrong : ChangeSpec := { name := "fnSolid", fn := fun _ => fun
  | [d] => { results := [.lit (.bool false)], args := [d] }
  | _ => none }
def FnSolidWrongFalsely : Prop := fnSolidRow.holds Try.pinned (OpenSpec.ofChange fnSolidWrong)

/-- 'laws.FnNumber': WHATEVER THE INPUT: true; the input reads as it did. -/
def fnNumberSpec : ChangeSpec := { name := "fnNumber", fn := fun _ => fun
  | [d] => { results := [.lit (.bool true)], args := [d] }
  | _ => none }
def fnNumberRow : OpenClaim := { program := "ytdnegamminhbfaa", sum := "4d5ff66e7cb1d9c71f1510120212f8efaf86b5a25e144615f9c21274311001c8", func := "loop.example/closingsticks/laws.FnNumber", spec := "fnNumber", apart := false }
def FnNumberSaid : Prop := fnNumberRow.holds Try.pinned (OpenSpec.ofChange fnNumberSpec)

/-- ITS FALSE NEIGHBOUR: 'it returns false'. Refute it at one input. -/
def fnNumberWrong : ChangeSpec := { name := "fnNumber", fn := fun _ => fun
  | [d] => { results := [.lit (.bool false)], args := [d] }
  | _ => none }
def FnNumberWrongFalsely : Prop := fnNumberRow.holds Try.pinned (OpenSpec.ofChange fnNumberWrong)

/-- 'laws.FnEqual': WHATEVER THE INPUT: true; the input reads as it did. -/
def fnEqualSpec : ChangeSpec := { name := "fnEqual", fn := fun _ => fun
  | [d] => { results := [.lit (.bool true)], args := [d] }
  | _ => none }
def fnEqualRow : OpenClaim := { program := "ytdnegamminhbfaa", sum := "4d5ff66e7cb1d9c71f1510120212f8efaf86b5a25e144615f9c21274311001c8", func := "loop.example/closingsticks/laws.FnEqual", spec := "fnEqual", unfollowed := true, recurses := true, apart := false }
def FnEqualSaid : Prop := fnEqualRow.holds Try.pinned (OpenSpec.ofChange fnEqualSpec)

/-- ITS FALSE NEIGHBOUR: 'it returns false'. Refute it at one input. -/
def fnEqualWrong : ChangeSpec := { name := "fnEqual", fn := fun _ => fun
  | [d] => { results := [.lit (.bool false)], args := [d] }
  | _ => none }
def FnEqualWrongFalsely : Prop := fnEqualRow.holds Try.pinned (OpenSpec.ofChange fnEqualWrong)

/-- 'laws.FnFaces': WHATEVER THE INPUT: true; the input reads as it did. -/
def fnFacesSpec : ChangeSpec := { name := "fnFaces", fn := fun _ => fun
  | [d] => { results := [.lit (.bool true)], args := [d] }
  | _ => none }
def fnFacesRow : OpenClaim := { program := "ytdnegamminhbfaa", sum := "4d5ff66e7cb1d9c71f1510120212f8efaf86b5a25e144615f9c21274311001c8", func := "loop.example/closingsticks/laws.FnFaces", spec := "fnFaces", unfollowed := true, recurses := true, apart := false }
def FnFacesSaid : Prop := fnFacesRow.holds Try.pinned (OpenSpec.ofChange fnFacesSpec)

/-- ITS FALSE NEIGHBOUR: 'it returns false'. Refute it at one input. -/
def fnFacesWrong : ChangeSpec := { name := "fnFaces", fn := fun _ => fun
  | [d] => { results := [.lit (.bool false)], args := [d] }
  | _ => none }
def FnFacesWrongFalsely : Prop := fnFacesRow.holds Try.pinned (OpenSpec.ofChange fnFacesWrong)

/-- 'laws.FnStands': WHATEVER THE INPUT: true; the input reads as it did. -/
def fnStandsSpec : ChangeSpec := { name := "fnStands", fn := fun _ => fun
  | [d] => { results := [.lit (.bool true)], args := [d] }
  | _ => none }
def fnStandsRow : OpenClaim := { program := "ytdnegamminhbfaa", sum := "4d5ff66e7cb1d9c71f1510120212f8efaf86b5a25e144615f9c21274311001c8", func := "loop.example/closingsticks/laws.FnStands", spec := "fnStands", unfollowed := true, recurses := true, apart := false }
def FnStandsSaid : Prop := fnStandsRow.holds Try.pinned (OpenSpec.ofChange fnStandsSpec)

/-- ITS FALSE NEIGHBOUR: 'it returns false'. Refute it at one input. -/
def fnStandsWrong : ChangeSpec := { name := "fnStands", fn := fun _ => fun
  | [d] => { results := [.lit (.bool false)], args := [d] }
  | _ => none }
def FnStandsWrongFalsely : Prop := fnStandsRow.holds Try.pinned (OpenSpec.ofChange fnStandsWrong)

/-- 'laws.FnNamed': WHATEVER THE INPUT: true; the input reads as it did. -/
def fnNamedSpec : ChangeSpec := { name := "fnNamed", fn := fun _ => fun
  | [d] => { results := [.lit (.bool true)], args := [d] }
  | _ => none }
def fnNamedRow : OpenClaim := { program := "ytdnegamminhbfaa", sum := "4d5ff66e7cb1d9c71f1510120212f8efaf86b5a25e144615f9c21274311001c8", func := "loop.example/closingsticks/laws.FnNamed", spec := "fnNamed", unfollowed := true, recurses := true, apart := false }
def FnNamedSaid : Prop := fnNamedRow.holds Try.pinned (OpenSpec.ofChange fnNamedSpec)

/-- ITS FALSE NEIGHBOUR: 'it returns false'. Refute it at one input. -/
def fnNamedWrong : ChangeSpec := { name := "fnNamed", fn := fun _ => fun
  | [d] => { results := [.lit (.bool false)], args := [d] }
  | _ => none }
def FnNamedWrongFalsely : Prop := fnNamedRow.holds Try.pinned (OpenSpec.ofChange fnNamedWrong)

/-- 'laws.FnSolidFirst': WHATEVER THE INPUT: true; the input reads as it did. -/
def fnSolidFirstSpec : ChangeSpec := { name := "fnSolidFirst", fn := fun _ => fun
  | [d] => { results := [.lit (.bool true)], args := [d] }
  | _ => none }
def fnSolidFirstRow : OpenClaim := { program := "ytdnegamminhbfaa", sum := "4d5ff66e7cb1d9c71f1510120212f8efaf86b5a25e144615f9c21274311001c8", func := "loop.example/closingsticks/laws.FnSolidFirst", spec := "fnSolidFirst", unfollowed := true, recurses := true, apart := false }
def FnSolidFirstSaid : Prop := fnSolidFirstRow.holds Try.pinned (OpenSpec.ofChange fnSolidFirstSpec)

/-- ITS FALSE NEIGHBOUR: 'it returns false'. Refute it at one input. -/
def fnSolidFirstWrong : ChangeSpec := { name := "fnSolidFirst", fn := fun _ => fun
  | [d] => { results := [.lit (.bool false)], args := [d] }
  | _ => none }
def FnSolidFirstWrongFalsely : Prop := fnSolidFirstRow.holds Try.pinned (OpenSpec.ofChange fnSolidFirstWrong)

/-- 'laws.FnSolidSame': WHATEVER THE INPUT: true; the input reads as it did. -/
def fnSolidSameSpec : ChangeSpec := { name := "fnSolidSame", fn := fun _ => fun
  | [d] => { results := [.lit (.bool true)], args := [d] }
  | _ => none }
def fnSolidSameRow : OpenClaim := { program := "ytdnegamminhbfaa", sum := "4d5ff66e7cb1d9c71f1510120212f8efaf86b5a25e144615f9c21274311001c8", func := "loop.example/closingsticks/laws.FnSolidSame", spec := "fnSolidSame", unfollowed := true, recurses := true, apart := false }
def FnSolidSameSaid : Prop := fnSolidSameRow.holds Try.pinned (OpenSpec.ofChange fnSolidSameSpec)

/-- ITS FALSE NEIGHBOUR: 'it returns false'. Refute it at one input. -/
def fnSolidSameWrong : ChangeSpec := { name := "fnSolidSame", fn := fun _ => fun
  | [d] => { results := [.lit (.bool false)], args := [d] }
  | _ => none }
def FnSolidSameWrongFalsely : Prop := fnSolidSameRow.holds Try.pinned (OpenSpec.ofChange fnSolidSameWrong)

/-- 'laws.FnSolidCount': WHATEVER THE INPUT: true; the input reads as it did. -/
def fnSolidCountSpec : ChangeSpec := { name := "fnSolidCount", fn := fun _ => fun
  | [d] => { results := [.lit (.bool true)], args := [d] }
  | _ => none }
def fnSolidCountRow : OpenClaim := { program := "ytdnegamminhbfaa", sum := "4d5ff66e7cb1d9c71f1510120212f8efaf86b5a25e144615f9c21274311001c8", func := "loop.example/closingsticks/laws.FnSolidCount", spec := "fnSolidCount", unfollowed := true, recurses := true, apart := false }
def FnSolidCountSaid : Prop := fnSolidCountRow.holds Try.pinned (OpenSpec.ofChange fnSolidCountSpec)

/-- ITS FALSE NEIGHBOUR: 'it returns false'. Refute it at one input. -/
def fnSolidCountWrong : ChangeSpec := { name := "fnSolidCount", fn := fun _ => fun
  | [d] => { results := [.lit (.bool false)], args := [d] }
  | _ => none }
def FnSolidCountWrongFalsely : Prop := fnSolidCountRow.holds Try.pinned (OpenSpec.ofChange fnSolidCountWrong)

/-- 'laws.FnSolidLeast': WHATEVER THE INPUT: true; the input reads as it did. -/
def fnSolidLeastSpec : ChangeSpec := { name := "fnSolidLeast", fn := fun _ => fun
  | [d] => { results := [.lit (.bool true)], args := [d] }
  | _ => none }
def fnSolidLeastRow : OpenClaim := { program := "ytdnegamminhbfaa", sum := "4d5ff66e7cb1d9c71f1510120212f8efaf86b5a25e144615f9c21274311001c8", func := "loop.example/closingsticks/laws.FnSolidLeast", spec := "fnSolidLeast", apart := false }
def FnSolidLeastSaid : Prop := fnSolidLeastRow.holds Try.pinned (OpenSpec.ofChange fnSolidLeastSpec)

/-- ITS FALSE NEIGHBOUR: 'it returns false'. Refute it at one input. -/
def fnSolidLeastWrong : ChangeSpec := { name := "fnSolidLeast", fn := fun _ => fun
  | [d] => { results := [.lit (.bool false)], args := [d] }
  | _ => none }
def FnSolidLeastWrongFalsely : Prop := fnSolidLeastRow.holds Try.pinned (OpenSpec.ofChange fnSolidLeastWrong)

/-- 'laws.FnExactOrderMost': WHATEVER THE INPUT: true; the input reads as it did. -/
def fnExactOrderMostSpec : ChangeSpec := { name := "fnExactOrderMost", fn := fun _ => fun
  | [d] => { results := [.lit (.bool true)], args := [d] }
  | _ => none }
def fnExactOrderMostRow : OpenClaim := { program := "ytdnegamminhbfaa", sum := "4d5ff66e7cb1d9c71f1510120212f8efaf86b5a25e144615f9c21274311001c8", func := "loop.example/closingsticks/laws.FnExactOrderMost", spec := "fnExactOrderMost", unfollowed := true, recurses := true, apart := false }
def FnExactOrderMostSaid : Prop := fnExactOrderMostRow.holds Try.pinned (OpenSpec.ofChange fnExactOrderMostSpec)

/-- ITS FALSE NEIGHBOUR: 'it returns false'. Refute it at one input. -/
def fnExactOrderMostWrong : ChangeSpec := { name := "fnExactOrderMost", fn := fun _ => fun
  | [d] => { results := [.lit (.bool false)], args := [d] }
  | _ => none }
def FnExactOrderMostWrongFalsely : Prop := fnExactOrderMostRow.holds Try.pinned (OpenSpec.ofChange fnExactOrderMostWrong)

/-- 'laws.FnExactOrderLattice': WHATEVER THE INPUT: true; the input reads as it did. -/
def fnExactOrderLatticeSpec : ChangeSpec := { name := "fnExactOrderLattice", fn := fun _ => fun
  | [d] => { results := [.lit (.bool true)], args := [d] }
  | _ => none }
def fnExactOrderLatticeRow : OpenClaim := { program := "ytdnegamminhbfaa", sum := "4d5ff66e7cb1d9c71f1510120212f8efaf86b5a25e144615f9c21274311001c8", func := "loop.example/closingsticks/laws.FnExactOrderLattice", spec := "fnExactOrderLattice", unfollowed := true, recurses := true, apart := false }
def FnExactOrderLatticeSaid : Prop := fnExactOrderLatticeRow.holds Try.pinned (OpenSpec.ofChange fnExactOrderLatticeSpec)

/-- ITS FALSE NEIGHBOUR: 'it returns false'. Refute it at one input. -/
def fnExactOrderLatticeWrong : ChangeSpec := { name := "fnExactOrderLattice", fn := fun _ => fun
  | [d] => { results := [.lit (.bool false)], args := [d] }
  | _ => none }
def FnExactOrderLatticeWrongFalsely : Prop := fnExactOrderLatticeRow.holds Try.pinned (OpenSpec.ofChange fnExactOrderLatticeWrong)

/-- 'laws.FnExactSolidIn': WHATEVER THE INPUT: true; the input reads as it did. -/
def fnExactSolidInSpec : ChangeSpec := { name := "fnExactSolidIn", fn := fun _ => fun
  | [d] => { results := [.lit (.bool true)], args := [d] }
  | _ => none }
def fnExactSolidInRow : OpenClaim := { program := "ytdnegamminhbfaa", sum := "4d5ff66e7cb1d9c71f1510120212f8efaf86b5a25e144615f9c21274311001c8", func := "loop.example/closingsticks/laws.FnExactSolidIn", spec := "fnExactSolidIn", apart := false }
def FnExactSolidInSaid : Prop := fnExactSolidInRow.holds Try.pinned (OpenSpec.ofChange fnExactSolidInSpec)

/-- ITS FALSE NEIGHBOUR: 'it returns false'. Refute it at one input. -/
def fnExactSolidInWrong : ChangeSpec := { name := "fnExactSolidIn", fn := fun _ => fun
  | [d] => { results := [.lit (.bool false)], args := [d] }
  | _ => none }
def FnExactSolidInWrongFalsely : Prop := fnExactSolidInRow.holds Try.pinned (OpenSpec.ofChange fnExactSolidInWrong)

/-- 'laws.FnExactSolidNumber': WHATEVER THE INPUT: true; the input reads as it did. -/
def fnExactSolidNumberSpec : ChangeSpec := { name := "fnExactSolidNumber", fn := fun _ => fun
  | [d] => { results := [.lit (.bool true)], args := [d] }
  | _ => none }
def fnExactSolidNumberRow : OpenClaim := { program := "ytdnegamminhbfaa", sum := "4d5ff66e7cb1d9c71f1510120212f8efaf86b5a25e144615f9c21274311001c8", func := "loop.example/closingsticks/laws.FnExactSolidNumber", spec := "fnExactSolidNumber", apart := false }
def FnExactSolidNumberSaid : Prop := fnExactSolidNumberRow.holds Try.pinned (OpenSpec.ofChange fnExactSolidNumberSpec)

/-- ITS FALSE NEIGHBOUR: 'it returns false'. Refute it at one input. -/
def fnExactSolidNumberWrong : ChangeSpec := { name := "fnExactSolidNumber", fn := fun _ => fun
  | [d] => { results := [.lit (.bool false)], args := [d] }
  | _ => none }
def FnExactSolidNumberWrongFalsely : Prop := fnExactSolidNumberRow.holds Try.pinned (OpenSpec.ofChange fnExactSolidNumberWrong)

/-- 'laws.FnExactSolidFaces': WHATEVER THE INPUT: true; the input reads as it did. -/
def fnExactSolidFacesSpec : ChangeSpec := { name := "fnExactSolidFaces", fn := fun _ => fun
  | [d] => { results := [.lit (.bool true)], args := [d] }
  | _ => none }
def fnExactSolidFacesRow : OpenClaim := { program := "ytdnegamminhbfaa", sum := "4d5ff66e7cb1d9c71f1510120212f8efaf86b5a25e144615f9c21274311001c8", func := "loop.example/closingsticks/laws.FnExactSolidFaces", spec := "fnExactSolidFaces", apart := false }
def FnExactSolidFacesSaid : Prop := fnExactSolidFacesRow.holds Try.pinned (OpenSpec.ofChange fnExactSolidFacesSpec)

/-- ITS FALSE NEIGHBOUR: 'it returns false'. Refute it at one input. -/
def fnExactSolidFacesWrong : ChangeSpec := { name := "fnExactSolidFaces", fn := fun _ => fun
  | [d] => { results := [.lit (.bool false)], args := [d] }
  | _ => none }
def FnExactSolidFacesWrongFalsely : Prop := fnExactSolidFacesRow.holds Try.pinned (OpenSpec.ofChange fnExactSolidFacesWrong)

/-- 'laws.FnExactSolidStands': WHATEVER THE INPUT: true; the input reads as it did. -/
def fnExactSolidStandsSpec : ChangeSpec := { name := "fnExactSolidStands", fn := fun _ => fun
  | [d] => { results := [.lit (.bool true)], args := [d] }
  | _ => none }
def fnExactSolidStandsRow : OpenClaim := { program := "ytdnegamminhbfaa", sum := "4d5ff66e7cb1d9c71f1510120212f8efaf86b5a25e144615f9c21274311001c8", func := "loop.example/closingsticks/laws.FnExactSolidStands", spec := "fnExactSolidStands", apart := false }
def FnExactSolidStandsSaid : Prop := fnExactSolidStandsRow.holds Try.pinned (OpenSpec.ofChange fnExactSolidStandsSpec)

/-- ITS FALSE NEIGHBOUR: 'it returns false'. Refute it at one input. -/
def fnExactSolidStandsWrong : ChangeSpec := { name := "fnExactSolidStands", fn := fun _ => fun
  | [d] => { results := [.lit (.bool false)], args := [d] }
  | _ => none }
def FnExactSolidStandsWrongFalsely : Prop := fnExactSolidStandsRow.holds Try.pinned (OpenSpec.ofChange fnExactSolidStandsWrong)

/-- 'laws.FnExactSolidNamed': WHATEVER THE INPUT: true; the input reads as it did. -/
def fnExactSolidNamedSpec : ChangeSpec := { name := "fnExactSolidNamed", fn := fun _ => fun
  | [d1, d2] => { results := [.lit (.bool true)], args := [d1, d2] }
  | _ => none }
def fnExactSolidNamedRow : OpenClaim := { program := "ytdnegamminhbfaa", sum := "4d5ff66e7cb1d9c71f1510120212f8efaf86b5a25e144615f9c21274311001c8", func := "loop.example/closingsticks/laws.FnExactSolidNamed", spec := "fnExactSolidNamed", apart := false }
def FnExactSolidNamedSaid : Prop := fnExactSolidNamedRow.holds Try.pinned (OpenSpec.ofChange fnExactSolidNamedSpec)

/-- ITS FALSE NEIGHBOUR: 'it returns false'. Refute it at one input. -/
def fnExactSolidNamedWrong : ChangeSpec := { name := "fnExactSolidNamed", fn := fun _ => fun
  | [d1, d2] => { results := [.lit (.bool false)], args := [d1, d2] }
  | _ => none }
def FnExactSolidNamedWrongFalsely : Prop := fnExactSolidNamedRow.holds Try.pinned (OpenSpec.ofChange fnExactSolidNamedWrong)

/-- 'laws.FnExactSolidFirst': WHATEVER THE INPUT: true; the input reads as it did. -/
def fnExactSolidFirstSpec : ChangeSpec := { name := "fnExactSolidFirst", fn := fun _ => fun
  | [d] => { results := [.lit (.bool true)], args := [d] }
  | _ => none }
def fnExactSolidFirstRow : OpenClaim := { program := "ytdnegamminhbfaa", sum := "4d5ff66e7cb1d9c71f1510120212f8efaf86b5a25e144615f9c21274311001c8", func := "loop.example/closingsticks/laws.FnExactSolidFirst", spec := "fnExactSolidFirst", unfollowed := true, recurses := true, apart := false }
def FnExactSolidFirstSaid : Prop := fnExactSolidFirstRow.holds Try.pinned (OpenSpec.ofChange fnExactSolidFirstSpec)

/-- ITS FALSE NEIGHBOUR: 'it returns false'. Refute it at one input. -/
def fnExactSolidFirstWrong : ChangeSpec := { name := "fnExactSolidFirst", fn := fun _ => fun
  | [d] => { results := [.lit (.bool false)], args := [d] }
  | _ => none }
def FnExactSolidFirstWrongFalsely : Prop := fnExactSolidFirstRow.holds Try.pinned (OpenSpec.ofChange fnExactSolidFirstWrong)

/-- 'laws.FnExactSolidSame': WHATEVER THE INPUT: true; the input reads as it did. -/
def fnExactSolidSameSpec : ChangeSpec := { name := "fnExactSolidSame", fn := fun _ => fun
  | [d1, d2] => { results := [.lit (.bool true)], args := [d1, d2] }
  | _ => none }
def fnExactSolidSameRow : OpenClaim := { program := "ytdnegamminhbfaa", sum := "4d5ff66e7cb1d9c71f1510120212f8efaf86b5a25e144615f9c21274311001c8", func := "loop.example/closingsticks/laws.FnExactSolidSame", spec := "fnExactSolidSame", unfollowed := true, recurses := true, apart := false }
def FnExactSolidSameSaid : Prop := fnExactSolidSameRow.holds Try.pinned (OpenSpec.ofChange fnExactSolidSameSpec)

/-- ITS FALSE NEIGHBOUR: 'it returns false'. Refute it at one input. -/
def fnExactSolidSameWrong : ChangeSpec := { name := "fnExactSolidSame", fn := fun _ => fun
  | [d1, d2] => { results := [.lit (.bool false)], args := [d1, d2] }
  | _ => none }
def FnExactSolidSameWrongFalsely : Prop := fnExactSolidSameRow.holds Try.pinned (OpenSpec.ofChange fnExactSolidSameWrong)

/-- 'laws.FnExactSolidCount': WHATEVER THE INPUT: true; the input reads as it did. -/
def fnExactSolidCountSpec : ChangeSpec := { name := "fnExactSolidCount", fn := fun _ => fun
  | [d] => { results := [.lit (.bool true)], args := [d] }
  | _ => none }
def fnExactSolidCountRow : OpenClaim := { program := "ytdnegamminhbfaa", sum := "4d5ff66e7cb1d9c71f1510120212f8efaf86b5a25e144615f9c21274311001c8", func := "loop.example/closingsticks/laws.FnExactSolidCount", spec := "fnExactSolidCount", unfollowed := true, recurses := true, apart := false }
def FnExactSolidCountSaid : Prop := fnExactSolidCountRow.holds Try.pinned (OpenSpec.ofChange fnExactSolidCountSpec)

/-- ITS FALSE NEIGHBOUR: 'it returns false'. Refute it at one input. -/
def fnExactSolidCountWrong : ChangeSpec := { name := "fnExactSolidCount", fn := fun _ => fun
  | [d] => { results := [.lit (.bool false)], args := [d] }
  | _ => none }
def FnExactSolidCountWrongFalsely : Prop := fnExactSolidCountRow.holds Try.pinned (OpenSpec.ofChange fnExactSolidCountWrong)

/-- 'laws.FnExactSolidLeast': WHATEVER THE INPUT: true; the input reads as it did. -/
def fnExactSolidLeastSpec : ChangeSpec := { name := "fnExactSolidLeast", fn := fun _ => fun
  | [d1, d2] => { results := [.lit (.bool true)], args := [d1, d2] }
  | _ => none }
def fnExactSolidLeastRow : OpenClaim := { program := "ytdnegamminhbfaa", sum := "4d5ff66e7cb1d9c71f1510120212f8efaf86b5a25e144615f9c21274311001c8", func := "loop.example/closingsticks/laws.FnExactSolidLeast", spec := "fnExactSolidLeast", apart := false }
def FnExactSolidLeastSaid : Prop := fnExactSolidLeastRow.holds Try.pinned (OpenSpec.ofChange fnExactSolidLeastSpec)

/-- ITS FALSE NEIGHBOUR: 'it returns false'. Refute it at one input. -/
def fnExactSolidLeastWrong : ChangeSpec := { name := "fnExactSolidLeast", fn := fun _ => fun
  | [d1, d2] => { results := [.lit (.bool false)], args := [d1, d2] }
  | _ => none }
def FnExactSolidLeastWrongFalsely : Prop := fnExactSolidLeastRow.holds Try.pinned (OpenSpec.ofChange fnExactSolidLeastWrong)

/- THE SECOND FORM. 'bulk': how many values and letters a reading holds, each counted each time it is reached (what is shared counts as often as it is met; a slice's spare places count too). A statement '..UptoSaid' is the law's where the arguments, and the package variables that the reading takes, are together of bulk at most 1048576: NARROWER than '..Said'. Prove '..Said' where nothing that the law and all that it calls make is longer than what came in: it says more and counts as full. Else prove '..UptoSaid'. A law counts once. -/
mutual
def uptoBulk {H : Type} : DataW H → Nat
  | .lit (.string bytes) => bytes.length + 1
  | .lit _ => 1
  | .nil => 1
  | .ptr d => uptoBulk d + 1
  | .slice elems spare => uptoBulkAll elems + uptoBulkAll spare + 1
  | .agg parts => uptoBulkAll parts + 1
  | .iface _ d => uptoBulk d + 1
  | .map entries => uptoBulkEntries entries + 1
  | .held _ => 1
def uptoBulkAll {H : Type} : List (DataW H) → Nat
  | [] => 0
  | d :: r => uptoBulk d + uptoBulkAll r
def uptoBulkEntries {H : Type} : List (Lit × DataW H) → Nat
  | [] => 0
  | x :: r => uptoBulkEntry x + uptoBulkEntries r
def uptoBulkEntry {H : Type} : Lit × DataW H → Nat
  | (.string bytes, d) => bytes.length + uptoBulk d + 1
  | (_, d) => uptoBulk d + 1
 end
def uptoSmall : (H : Type) → List (DataW H) → Bool := fun _ ds => decide (uptoBulkAll ds ≤ 1048576)
def OpenSpec.upto (s : _root_.Go.ChangeSpec) : _root_.Go.OpenSpec := { _root_.Go.OpenSpec.ofChange s with cond := some uptoSmall }

/-- 'laws.FnMost', WHERE WHAT IT READS IS OF BULK AT MOST 1048576: true; the input reads as it did. -/
def fnMostUptoRow : OpenClaim := { program := "ytdnegamminhbfaa", sum := "4d5ff66e7cb1d9c71f1510120212f8efaf86b5a25e144615f9c21274311001c8", func := "loop.example/closingsticks/laws.FnMost", spec := "fnMost", unfollowed := true, recurses := true, apart := false, narrowed := true }
def FnMostUptoSaid : Prop := fnMostUptoRow.holds Try.pinned (OpenSpec.upto fnMostSpec)

/-- 'laws.FnOrderLattice', WHERE WHAT IT READS IS OF BULK AT MOST 1048576: true; the input reads as it did. -/
def fnOrderLatticeUptoRow : OpenClaim := { program := "ytdnegamminhbfaa", sum := "4d5ff66e7cb1d9c71f1510120212f8efaf86b5a25e144615f9c21274311001c8", func := "loop.example/closingsticks/laws.FnOrderLattice", spec := "fnOrderLattice", unfollowed := true, recurses := true, apart := false, narrowed := true }
def FnOrderLatticeUptoSaid : Prop := fnOrderLatticeUptoRow.holds Try.pinned (OpenSpec.upto fnOrderLatticeSpec)

/-- 'laws.FnSolid', WHERE WHAT IT READS IS OF BULK AT MOST 1048576: true; the input reads as it did. -/
def fnSolidUptoRow : OpenClaim := { program := "ytdnegamminhbfaa", sum := "4d5ff66e7cb1d9c71f1510120212f8efaf86b5a25e144615f9c21274311001c8", func := "loop.example/closingsticks/laws.FnSolid", spec := "fnSolid", apart := false, narrowed := true }
def FnSolidUptoSaid : Prop := fnSolidUptoRow.holds Try.pinned (OpenSpec.upto fnSolidSpec)

/-- 'laws.FnNumber', WHERE WHAT IT READS IS OF BULK AT MOST 1048576: true; the input reads as it did. -/
def fnNumberUptoRow : OpenClaim := { program := "ytdnegamminhbfaa", sum := "4d5ff66e7cb1d9c71f1510120212f8efaf86b5a25e144615f9c21274311001c8", func := "loop.example/closingsticks/laws.FnNumber", spec := "fnNumber", apart := false, narrowed := true }
def FnNumberUptoSaid : Prop := fnNumberUptoRow.holds Try.pinned (OpenSpec.upto fnNumberSpec)

/-- 'laws.FnEqual', WHERE WHAT IT READS IS OF BULK AT MOST 1048576: true; the input reads as it did. -/
def fnEqualUptoRow : OpenClaim := { program := "ytdnegamminhbfaa", sum := "4d5ff66e7cb1d9c71f1510120212f8efaf86b5a25e144615f9c21274311001c8", func := "loop.example/closingsticks/laws.FnEqual", spec := "fnEqual", unfollowed := true, recurses := true, apart := false, narrowed := true }
def FnEqualUptoSaid : Prop := fnEqualUptoRow.holds Try.pinned (OpenSpec.upto fnEqualSpec)

/-- 'laws.FnFaces', WHERE WHAT IT READS IS OF BULK AT MOST 1048576: true; the input reads as it did. -/
def fnFacesUptoRow : OpenClaim := { program := "ytdnegamminhbfaa", sum := "4d5ff66e7cb1d9c71f1510120212f8efaf86b5a25e144615f9c21274311001c8", func := "loop.example/closingsticks/laws.FnFaces", spec := "fnFaces", unfollowed := true, recurses := true, apart := false, narrowed := true }
def FnFacesUptoSaid : Prop := fnFacesUptoRow.holds Try.pinned (OpenSpec.upto fnFacesSpec)

/-- 'laws.FnStands', WHERE WHAT IT READS IS OF BULK AT MOST 1048576: true; the input reads as it did. -/
def fnStandsUptoRow : OpenClaim := { program := "ytdnegamminhbfaa", sum := "4d5ff66e7cb1d9c71f1510120212f8efaf86b5a25e144615f9c21274311001c8", func := "loop.example/closingsticks/laws.FnStands", spec := "fnStands", unfollowed := true, recurses := true, apart := false, narrowed := true }
def FnStandsUptoSaid : Prop := fnStandsUptoRow.holds Try.pinned (OpenSpec.upto fnStandsSpec)

/-- 'laws.FnNamed', WHERE WHAT IT READS IS OF BULK AT MOST 1048576: true; the input reads as it did. -/
def fnNamedUptoRow : OpenClaim := { program := "ytdnegamminhbfaa", sum := "4d5ff66e7cb1d9c71f1510120212f8efaf86b5a25e144615f9c21274311001c8", func := "loop.example/closingsticks/laws.FnNamed", spec := "fnNamed", unfollowed := true, recurses := true, apart := false, narrowed := true }
def FnNamedUptoSaid : Prop := fnNamedUptoRow.holds Try.pinned (OpenSpec.upto fnNamedSpec)

/-- 'laws.FnSolidFirst', WHERE WHAT IT READS IS OF BULK AT MOST 1048576: true; the input reads as it did. -/
def fnSolidFirstUptoRow : OpenClaim := { program := "ytdnegamminhbfaa", sum := "4d5ff66e7cb1d9c71f1510120212f8efaf86b5a25e144615f9c21274311001c8", func := "loop.example/closingsticks/laws.FnSolidFirst", spec := "fnSolidFirst", unfollowed := true, recurses := true, apart := false, narrowed := true }
def FnSolidFirstUptoSaid : Prop := fnSolidFirstUptoRow.holds Try.pinned (OpenSpec.upto fnSolidFirstSpec)

/-- 'laws.FnSolidSame', WHERE WHAT IT READS IS OF BULK AT MOST 1048576: true; the input reads as it did. -/
def fnSolidSameUptoRow : OpenClaim := { program := "ytdnegamminhbfaa", sum := "4d5ff66e7cb1d9c71f1510120212f8efaf86b5a25e144615f9c21274311001c8", func := "loop.example/closingsticks/laws.FnSolidSame", spec := "fnSolidSame", unfollowed := true, recurses := true, apart := false, narrowed := true }
def FnSolidSameUptoSaid : Prop := fnSolidSameUptoRow.holds Try.pinned (OpenSpec.upto fnSolidSameSpec)

/-- 'laws.FnSolidCount', WHERE WHAT IT READS IS OF BULK AT MOST 1048576: true; the input reads as it did. -/
def fnSolidCountUptoRow : OpenClaim := { program := "ytdnegamminhbfaa", sum := "4d5ff66e7cb1d9c71f1510120212f8efaf86b5a25e144615f9c21274311001c8", func := "loop.example/closingsticks/laws.FnSolidCount", spec := "fnSolidCount", unfollowed := true, recurses := true, apart := false, narrowed := true }
def FnSolidCountUptoSaid : Prop := fnSolidCountUptoRow.holds Try.pinned (OpenSpec.upto fnSolidCountSpec)

/-- 'laws.FnSolidLeast', WHERE WHAT IT READS IS OF BULK AT MOST 1048576: true; the input reads as it did. -/
def fnSolidLeastUptoRow : OpenClaim := { program := "ytdnegamminhbfaa", sum := "4d5ff66e7cb1d9c71f1510120212f8efaf86b5a25e144615f9c21274311001c8", func := "loop.example/closingsticks/laws.FnSolidLeast", spec := "fnSolidLeast", apart := false, narrowed := true }
def FnSolidLeastUptoSaid : Prop := fnSolidLeastUptoRow.holds Try.pinned (OpenSpec.upto fnSolidLeastSpec)

/-- 'laws.FnExactOrderMost', WHERE WHAT IT READS IS OF BULK AT MOST 1048576: true; the input reads as it did. -/
def fnExactOrderMostUptoRow : OpenClaim := { program := "ytdnegamminhbfaa", sum := "4d5ff66e7cb1d9c71f1510120212f8efaf86b5a25e144615f9c21274311001c8", func := "loop.example/closingsticks/laws.FnExactOrderMost", spec := "fnExactOrderMost", unfollowed := true, recurses := true, apart := false, narrowed := true }
def FnExactOrderMostUptoSaid : Prop := fnExactOrderMostUptoRow.holds Try.pinned (OpenSpec.upto fnExactOrderMostSpec)

/-- 'laws.FnExactOrderLattice', WHERE WHAT IT READS IS OF BULK AT MOST 1048576: true; the input reads as it did. -/
def fnExactOrderLatticeUptoRow : OpenClaim := { program := "ytdnegamminhbfaa", sum := "4d5ff66e7cb1d9c71f1510120212f8efaf86b5a25e144615f9c21274311001c8", func := "loop.example/closingsticks/laws.FnExactOrderLattice", spec := "fnExactOrderLattice", unfollowed := true, recurses := true, apart := false, narrowed := true }
def FnExactOrderLatticeUptoSaid : Prop := fnExactOrderLatticeUptoRow.holds Try.pinned (OpenSpec.upto fnExactOrderLatticeSpec)

/-- 'laws.FnExactSolidIn', WHERE WHAT IT READS IS OF BULK AT MOST 1048576: true; the input reads as it did. -/
def fnExactSolidInUptoRow : OpenClaim := { program := "ytdnegamminhbfaa", sum := "4d5ff66e7cb1d9c71f1510120212f8efaf86b5a25e144615f9c21274311001c8", func := "loop.example/closingsticks/laws.FnExactSolidIn", spec := "fnExactSolidIn", apart := false, narrowed := true }
def FnExactSolidInUptoSaid : Prop := fnExactSolidInUptoRow.holds Try.pinned (OpenSpec.upto fnExactSolidInSpec)

/-- 'laws.FnExactSolidNumber', WHERE WHAT IT READS IS OF BULK AT MOST 1048576: true; the input reads as it did. -/
def fnExactSolidNumberUptoRow : OpenClaim := { program := "ytdnegamminhbfaa", sum := "4d5ff66e7cb1d9c71f1510120212f8efaf86b5a25e144615f9c21274311001c8", func := "loop.example/closingsticks/laws.FnExactSolidNumber", spec := "fnExactSolidNumber", apart := false, narrowed := true }
def FnExactSolidNumberUptoSaid : Prop := fnExactSolidNumberUptoRow.holds Try.pinned (OpenSpec.upto fnExactSolidNumberSpec)

/-- 'laws.FnExactSolidFaces', WHERE WHAT IT READS IS OF BULK AT MOST 1048576: true; the input reads as it did. -/
def fnExactSolidFacesUptoRow : OpenClaim := { program := "ytdnegamminhbfaa", sum := "4d5ff66e7cb1d9c71f1510120212f8efaf86b5a25e144615f9c21274311001c8", func := "loop.example/closingsticks/laws.FnExactSolidFaces", spec := "fnExactSolidFaces", apart := false, narrowed := true }
def FnExactSolidFacesUptoSaid : Prop := fnExactSolidFacesUptoRow.holds Try.pinned (OpenSpec.upto fnExactSolidFacesSpec)

/-- 'laws.FnExactSolidStands', WHERE WHAT IT READS IS OF BULK AT MOST 1048576: true; the input reads as it did. -/
def fnExactSolidStandsUptoRow : OpenClaim := { program := "ytdnegamminhbfaa", sum := "4d5ff66e7cb1d9c71f1510120212f8efaf86b5a25e144615f9c21274311001c8", func := "loop.example/closingsticks/laws.FnExactSolidStands", spec := "fnExactSolidStands", apart := false, narrowed := true }
def FnExactSolidStandsUptoSaid : Prop := fnExactSolidStandsUptoRow.holds Try.pinned (OpenSpec.upto fnExactSolidStandsSpec)

/-- 'laws.FnExactSolidNamed', WHERE WHAT IT READS IS OF BULK AT MOST 1048576: true; the input reads as it did. -/
def fnExactSolidNamedUptoRow : OpenClaim := { program := "ytdnegamminhbfaa", sum := "4d5ff66e7cb1d9c71f1510120212f8efaf86b5a25e144615f9c21274311001c8", func := "loop.example/closingsticks/laws.FnExactSolidNamed", spec := "fnExactSolidNamed", apart := false, narrowed := true }
def FnExactSolidNamedUptoSaid : Prop := fnExactSolidNamedUptoRow.holds Try.pinned (OpenSpec.upto fnExactSolidNamedSpec)

/-- 'laws.FnExactSolidFirst', WHERE WHAT IT READS IS OF BULK AT MOST 1048576: true; the input reads as it did. -/
def fnExactSolidFirstUptoRow : OpenClaim := { program := "ytdnegamminhbfaa", sum := "4d5ff66e7cb1d9c71f1510120212f8efaf86b5a25e144615f9c21274311001c8", func := "loop.example/closingsticks/laws.FnExactSolidFirst", spec := "fnExactSolidFirst", unfollowed := true, recurses := true, apart := false, narrowed := true }
def FnExactSolidFirstUptoSaid : Prop := fnExactSolidFirstUptoRow.holds Try.pinned (OpenSpec.upto fnExactSolidFirstSpec)

/-- 'laws.FnExactSolidSame', WHERE WHAT IT READS IS OF BULK AT MOST 1048576: true; the input reads as it did. -/
def fnExactSolidSameUptoRow : OpenClaim := { program := "ytdnegamminhbfaa", sum := "4d5ff66e7cb1d9c71f1510120212f8efaf86b5a25e144615f9c21274311001c8", func := "loop.example/closingsticks/laws.FnExactSolidSame", spec := "fnExactSolidSame", unfollowed := true, recurses := true, apart := false, narrowed := true }
def FnExactSolidSameUptoSaid : Prop := fnExactSolidSameUptoRow.holds Try.pinned (OpenSpec.upto fnExactSolidSameSpec)

/-- 'laws.FnExactSolidCount', WHERE WHAT IT READS IS OF BULK AT MOST 1048576: true; the input reads as it did. -/
def fnExactSolidCountUptoRow : OpenClaim := { program := "ytdnegamminhbfaa", sum := "4d5ff66e7cb1d9c71f1510120212f8efaf86b5a25e144615f9c21274311001c8", func := "loop.example/closingsticks/laws.FnExactSolidCount", spec := "fnExactSolidCount", unfollowed := true, recurses := true, apart := false, narrowed := true }
def FnExactSolidCountUptoSaid : Prop := fnExactSolidCountUptoRow.holds Try.pinned (OpenSpec.upto fnExactSolidCountSpec)

/-- 'laws.FnExactSolidLeast', WHERE WHAT IT READS IS OF BULK AT MOST 1048576: true; the input reads as it did. -/
def fnExactSolidLeastUptoRow : OpenClaim := { program := "ytdnegamminhbfaa", sum := "4d5ff66e7cb1d9c71f1510120212f8efaf86b5a25e144615f9c21274311001c8", func := "loop.example/closingsticks/laws.FnExactSolidLeast", spec := "fnExactSolidLeast", apart := false, narrowed := true }
def FnExactSolidLeastUptoSaid : Prop := fnExactSolidLeastUptoRow.holds Try.pinned (OpenSpec.upto fnExactSolidLeastSpec)

end Rows
end Go.Proofs.Ytdnegamminhbfaa
