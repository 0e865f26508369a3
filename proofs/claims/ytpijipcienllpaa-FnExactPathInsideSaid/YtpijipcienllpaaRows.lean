/-
  No cell of these rows narrows 'for every input' (looked for: loops, veiled, ifaces, maps, wideKeys, modest, calm, conditions, laid).
  DERIVED. THE GIVEN ROWS OF THIS SEAT. 22 by the template 'for every input the law returns true; each argument reads behind the call as it read before'; 0 by the template 'total and deterministic' (their statements: YtpijipcienllpaaTotals.lean).
  GIVEN WITH THE SEED: the statements are not yours to turn. If you find one false, say at which input.
  Laid BY PROGRAM, IN A SANDBOX (cutbox-rows.mjs): the forced cells as the released guide's own fill.sh prints them over the translation 6d6a49ba13a8ac55… (all of the seat's roots in one cut). By AI agents, Wed Nov 11 2026. No macro, syntax, notation, axiom, sorry.
-/
import Derived.Test.YtpijipcienllpaaChecked
import GoSem.Claim
import GoSem.ClaimJoined
import GoSem.ClaimMapViews
import Derived.JoinedTies
import Derived.KernelRfl
namespace Go.Proofs.Ytpijipcienllpaa
/- THE CELL 'sum', in the pinned program and in every row, IS THE sha256 OF THE DUMP (.gsa) THAT YtpijipcienllpaaProg.lean LOADS. Nothing in Lean hashes anything: it is a label: what it is worth is what the hold of that sum in a sandbox is worth. -/
noncomputable def Try.pinned : Pinned := { name := "ytpijipcienllpaa", sum := "6d6a49ba13a8ac557e3545654036aad46553d8d80e11ac8a622e381eca830921", checked := Try.checked }
namespace Rows
def none {H : Type} : Left H := { results := [], args := [] }

/-- 'laws.FnPath': WHATEVER THE INPUT: true; the input reads as it did. -/
def fnPathSpec : ChangeSpec := { name := "fnPath", fn := fun _ => fun
  | [d] => { results := [.lit (.bool true)], args := [d] }
  | _ => none }
def fnPathRow : OpenClaim := { program := "ytpijipcienllpaa", sum := "6d6a49ba13a8ac557e3545654036aad46553d8d80e11ac8a622e381eca830921", func := "loop.example/closingsticks/laws.FnPath", spec := "fnPath", unfollowed := true, recurses := true, apart := false }
def FnPathSaid : Prop := fnPathRow.holds Try.pinned (OpenSpec.ofChange fnPathSpec)

/-- ITS FALSE NEIGHBOUR: 'it returns false'. Refute it at one input. -/
def fnPathWrong : ChangeSpec := { name := "fnPath", fn := fun _ => fun
  | [d] => { results := [.lit (.bool false)], args := [d] }
  | _ => none }
def FnPathWrongFalsely : Prop := fnPathRow.holds Try.pinned (OpenSpec.ofChange fnPathWrong)

/-- 'laws.FnCorners': WHATEVER THE INPUT: true; the input reads as it did. -/
def fnCornersSpec : ChangeSpec := { name := "fnCorners", fn := fun _ => fun
  | [d] => { results := [.lit (.bool true)], args := [d] }
  | _ => none }
def fnCornersRow : OpenClaim := { program := "ytpijipcienllpaa", sum := "6d6a49ba13a8ac557e3545654036aad46553d8d80e11ac8a622e381eca830921", func := "loop.example/closingsticks/laws.FnCorners", spec := "fnCorners", unfollowed := true, recurses := true, apart := false }
def FnCornersSaid : Prop := fnCornersRow.holds Try.pinned (OpenSpec.ofChange fnCornersSpec)

/-- ITS FALSE NEIGHBOUR: 'it returns false'. Refute it at one input. -/
def fnCornersWrong : ChangeSpec := { name := "fnCorners", fn := fun _ => fun
  | [d] => { results := [.lit (.bool false)], args := [d] }
  | _ => none }
def FnCornersWrongFalsely : Prop := fnCornersRow.holds Try.pinned (OpenSpec.ofChange fnCornersWrong)

/-- 'laws.FnArea': WHATEVER THE INPUT: true; the input reads as it did. -/
def fnAreaSpec : ChangeSpec := { name := "fnArea", fn := fun _ => fun
  | [d] => { results := [.lit (.bool true)], args := [d] }
  | _ => none }
def fnAreaRow : OpenClaim := { program := "ytpijipcienllpaa", sum := "6d6a49ba13a8ac557e3545654036aad46553d8d80e11ac8a622e381eca830921", func := "loop.example/closingsticks/laws.FnArea", spec := "fnArea", unfollowed := true, recurses := true, apart := false }
def FnAreaSaid : Prop := fnAreaRow.holds Try.pinned (OpenSpec.ofChange fnAreaSpec)

/-- ITS FALSE NEIGHBOUR: 'it returns false'. Refute it at one input. -/
def fnAreaWrong : ChangeSpec := { name := "fnArea", fn := fun _ => fun
  | [d] => { results := [.lit (.bool false)], args := [d] }
  | _ => none }
def FnAreaWrongFalsely : Prop := fnAreaRow.holds Try.pinned (OpenSpec.ofChange fnAreaWrong)

/-- 'laws.FnPathBack': WHATEVER THE INPUT: true; the input reads as it did. -/
def fnPathBackSpec : ChangeSpec := { name := "fnPathBack", fn := fun _ => fun
  | [d] => { results := [.lit (.bool true)], args := [d] }
  | _ => none }
def fnPathBackRow : OpenClaim := { program := "ytpijipcienllpaa", sum := "6d6a49ba13a8ac557e3545654036aad46553d8d80e11ac8a622e381eca830921", func := "loop.example/closingsticks/laws.FnPathBack", spec := "fnPathBack", unfollowed := true, recurses := true, apart := false }
def FnPathBackSaid : Prop := fnPathBackRow.holds Try.pinned (OpenSpec.ofChange fnPathBackSpec)

/-- ITS FALSE NEIGHBOUR: 'it returns false'. Refute it at one input. -/
def fnPathBackWrong : ChangeSpec := { name := "fnPathBack", fn := fun _ => fun
  | [d] => { results := [.lit (.bool false)], args := [d] }
  | _ => none }
def FnPathBackWrongFalsely : Prop := fnPathBackRow.holds Try.pinned (OpenSpec.ofChange fnPathBackWrong)

/-- 'laws.FnPathTurn': WHATEVER THE INPUT: true; the input reads as it did. -/
def fnPathTurnSpec : ChangeSpec := { name := "fnPathTurn", fn := fun _ => fun
  | [d] => { results := [.lit (.bool true)], args := [d] }
  | _ => none }
def fnPathTurnRow : OpenClaim := { program := "ytpijipcienllpaa", sum := "6d6a49ba13a8ac557e3545654036aad46553d8d80e11ac8a622e381eca830921", func := "loop.example/closingsticks/laws.FnPathTurn", spec := "fnPathTurn", unfollowed := true, recurses := true, apart := false }
def FnPathTurnSaid : Prop := fnPathTurnRow.holds Try.pinned (OpenSpec.ofChange fnPathTurnSpec)

/-- ITS FALSE NEIGHBOUR: 'it returns false'. Refute it at one input. -/
def fnPathTurnWrong : ChangeSpec := { name := "fnPathTurn", fn := fun _ => fun
  | [d] => { results := [.lit (.bool false)], args := [d] }
  | _ => none }
def FnPathTurnWrongFalsely : Prop := fnPathTurnRow.holds Try.pinned (OpenSpec.ofChange fnPathTurnWrong)

/-- 'laws.FnBegin': WHATEVER THE INPUT: true; the input reads as it did. -/
def fnBeginSpec : ChangeSpec := { name := "fnBegin", fn := fun _ => fun
  | [d] => { results := [.lit (.bool true)], args := [d] }
  | _ => none }
def fnBeginRow : OpenClaim := { program := "ytpijipcienllpaa", sum := "6d6a49ba13a8ac557e3545654036aad46553d8d80e11ac8a622e381eca830921", func := "loop.example/closingsticks/laws.FnBegin", spec := "fnBegin", unfollowed := true, recurses := true, apart := false }
def FnBeginSaid : Prop := fnBeginRow.holds Try.pinned (OpenSpec.ofChange fnBeginSpec)

/-- ITS FALSE NEIGHBOUR: 'it returns false'. Refute it at one input. -/
def fnBeginWrong : ChangeSpec := { name := "fnBegin", fn := fun _ => fun
  | [d] => { results := [.lit (.bool false)], args := [d] }
  | _ => none }
def FnBeginWrongFalsely : Prop := fnBeginRow.holds Try.pinned (OpenSpec.ofChange fnBeginWrong)

/-- 'laws.FnConvex': WHATEVER THE INPUT: true; the input reads as it did. -/
def fnConvexSpec : ChangeSpec := { name := "fnConvex", fn := fun _ => fun
  | [d] => { results := [.lit (.bool true)], args := [d] }
  | _ => none }
def fnConvexRow : OpenClaim := { program := "ytpijipcienllpaa", sum := "6d6a49ba13a8ac557e3545654036aad46553d8d80e11ac8a622e381eca830921", func := "loop.example/closingsticks/laws.FnConvex", spec := "fnConvex", unfollowed := true, recurses := true, apart := false }
def FnConvexSaid : Prop := fnConvexRow.holds Try.pinned (OpenSpec.ofChange fnConvexSpec)

/-- ITS FALSE NEIGHBOUR: 'it returns false'. Refute it at one input. -/
def fnConvexWrong : ChangeSpec := { name := "fnConvex", fn := fun _ => fun
  | [d] => { results := [.lit (.bool false)], args := [d] }
  | _ => none }
def FnConvexWrongFalsely : Prop := fnConvexRow.holds Try.pinned (OpenSpec.ofChange fnConvexWrong)

/-- 'laws.FnBox': WHATEVER THE INPUT: true; the input reads as it did. -/
def fnBoxSpec : ChangeSpec := { name := "fnBox", fn := fun _ => fun
  | [d] => { results := [.lit (.bool true)], args := [d] }
  | _ => none }
def fnBoxRow : OpenClaim := { program := "ytpijipcienllpaa", sum := "6d6a49ba13a8ac557e3545654036aad46553d8d80e11ac8a622e381eca830921", func := "loop.example/closingsticks/laws.FnBox", spec := "fnBox", unfollowed := true, recurses := true, apart := false }
def FnBoxSaid : Prop := fnBoxRow.holds Try.pinned (OpenSpec.ofChange fnBoxSpec)

/-- ITS FALSE NEIGHBOUR: 'it returns false'. Refute it at one input. -/
def fnBoxWrong : ChangeSpec := { name := "fnBox", fn := fun _ => fun
  | [d] => { results := [.lit (.bool false)], args := [d] }
  | _ => none }
def FnBoxWrongFalsely : Prop := fnBoxRow.holds Try.pinned (OpenSpec.ofChange fnBoxWrong)

/-- 'laws.FnRim': WHATEVER THE INPUT: true; the input reads as it did. -/
def fnRimSpec : ChangeSpec := { name := "fnRim", fn := fun _ => fun
  | [d] => { results := [.lit (.bool true)], args := [d] }
  | _ => none }
def fnRimRow : OpenClaim := { program := "ytpijipcienllpaa", sum := "6d6a49ba13a8ac557e3545654036aad46553d8d80e11ac8a622e381eca830921", func := "loop.example/closingsticks/laws.FnRim", spec := "fnRim", unfollowed := true, recurses := true, apart := false }
def FnRimSaid : Prop := fnRimRow.holds Try.pinned (OpenSpec.ofChange fnRimSpec)

/-- ITS FALSE NEIGHBOUR: 'it returns false'. Refute it at one input. -/
def fnRimWrong : ChangeSpec := { name := "fnRim", fn := fun _ => fun
  | [d] => { results := [.lit (.bool false)], args := [d] }
  | _ => none }
def FnRimWrongFalsely : Prop := fnRimRow.holds Try.pinned (OpenSpec.ofChange fnRimWrong)

/-- 'laws.FnInside': WHATEVER THE INPUT: true; the input reads as it did. -/
def fnInsideSpec : ChangeSpec := { name := "fnInside", fn := fun _ => fun
  | [d] => { results := [.lit (.bool true)], args := [d] }
  | _ => none }
def fnInsideRow : OpenClaim := { program := "ytpijipcienllpaa", sum := "6d6a49ba13a8ac557e3545654036aad46553d8d80e11ac8a622e381eca830921", func := "loop.example/closingsticks/laws.FnInside", spec := "fnInside", unfollowed := true, recurses := true, apart := false }
def FnInsideSaid : Prop := fnInsideRow.holds Try.pinned (OpenSpec.ofChange fnInsideSpec)

/-- ITS FALSE NEIGHBOUR: 'it returns false'. Refute it at one input. -/
def fnInsideWrong : ChangeSpec := { name := "fnInside", fn := fun _ => fun
  | [d] => { results := [.lit (.bool false)], args := [d] }
  | _ => none }
def FnInsideWrongFalsely : Prop := fnInsideRow.holds Try.pinned (OpenSpec.ofChange fnInsideWrong)

/-- 'laws.FnInsideAll': WHATEVER THE INPUT: true; the input reads as it did. -/
def fnInsideAllSpec : ChangeSpec := { name := "fnInsideAll", fn := fun _ => fun
  | [d] => { results := [.lit (.bool true)], args := [d] }
  | _ => none }
def fnInsideAllRow : OpenClaim := { program := "ytpijipcienllpaa", sum := "6d6a49ba13a8ac557e3545654036aad46553d8d80e11ac8a622e381eca830921", func := "loop.example/closingsticks/laws.FnInsideAll", spec := "fnInsideAll", unfollowed := true, recurses := true, apart := false }
def FnInsideAllSaid : Prop := fnInsideAllRow.holds Try.pinned (OpenSpec.ofChange fnInsideAllSpec)

/-- ITS FALSE NEIGHBOUR: 'it returns false'. Refute it at one input. -/
def fnInsideAllWrong : ChangeSpec := { name := "fnInsideAll", fn := fun _ => fun
  | [d] => { results := [.lit (.bool false)], args := [d] }
  | _ => none }
def FnInsideAllWrongFalsely : Prop := fnInsideAllRow.holds Try.pinned (OpenSpec.ofChange fnInsideAllWrong)

/-- 'laws.FnExactPathIn': WHATEVER THE INPUT: true; the input reads as it did. -/
def fnExactPathInSpec : ChangeSpec := { name := "fnExactPathIn", fn := fun _ => fun
  | [d] => { results := [.lit (.bool true)], args := [d] }
  | _ => none }
def fnExactPathInRow : OpenClaim := { program := "ytpijipcienllpaa", sum := "6d6a49ba13a8ac557e3545654036aad46553d8d80e11ac8a622e381eca830921", func := "loop.example/closingsticks/laws.FnExactPathIn", spec := "fnExactPathIn", apart := false }
def FnExactPathInSaid : Prop := fnExactPathInRow.holds Try.pinned (OpenSpec.ofChange fnExactPathInSpec)

/-- ITS FALSE NEIGHBOUR: 'it returns false'. Refute it at one input. -/
def fnExactPathInWrong : ChangeSpec := { name := "fnExactPathIn", fn := fun _ => fun
  | [d] => { results := [.lit (.bool false)], args := [d] }
  | _ => none }
def FnExactPathInWrongFalsely : Prop := fnExactPathInRow.holds Try.pinned (OpenSpec.ofChange fnExactPathInWrong)

/-- 'laws.FnExactPathCorners': WHATEVER THE INPUT: true; the input reads as it did. -/
def fnExactPathCornersSpec : ChangeSpec := { name := "fnExactPathCorners", fn := fun _ => fun
  | [d] => { results := [.lit (.bool true)], args := [d] }
  | _ => none }
def fnExactPathCornersRow : OpenClaim := { program := "ytpijipcienllpaa", sum := "6d6a49ba13a8ac557e3545654036aad46553d8d80e11ac8a622e381eca830921", func := "loop.example/closingsticks/laws.FnExactPathCorners", spec := "fnExactPathCorners", unfollowed := true, recurses := true, apart := false }
def FnExactPathCornersSaid : Prop := fnExactPathCornersRow.holds Try.pinned (OpenSpec.ofChange fnExactPathCornersSpec)

/-- ITS FALSE NEIGHBOUR: 'it returns false'. Refute it at one input. -/
def fnExactPathCornersWrong : ChangeSpec := { name := "fnExactPathCorners", fn := fun _ => fun
  | [d] => { results := [.lit (.bool false)], args := [d] }
  | _ => none }
def FnExactPathCornersWrongFalsely : Prop := fnExactPathCornersRow.holds Try.pinned (OpenSpec.ofChange fnExactPathCornersWrong)

/-- 'laws.FnExactPathArea': WHATEVER THE INPUT: true; the input reads as it did. -/
def fnExactPathAreaSpec : ChangeSpec := { name := "fnExactPathArea", fn := fun _ => fun
  | [d] => { results := [.lit (.bool true)], args := [d] }
  | _ => none }
def fnExactPathAreaRow : OpenClaim := { program := "ytpijipcienllpaa", sum := "6d6a49ba13a8ac557e3545654036aad46553d8d80e11ac8a622e381eca830921", func := "loop.example/closingsticks/laws.FnExactPathArea", spec := "fnExactPathArea", unfollowed := true, recurses := true, apart := false }
def FnExactPathAreaSaid : Prop := fnExactPathAreaRow.holds Try.pinned (OpenSpec.ofChange fnExactPathAreaSpec)

/-- ITS FALSE NEIGHBOUR: 'it returns false'. Refute it at one input. -/
def fnExactPathAreaWrong : ChangeSpec := { name := "fnExactPathArea", fn := fun _ => fun
  | [d] => { results := [.lit (.bool false)], args := [d] }
  | _ => none }
def FnExactPathAreaWrongFalsely : Prop := fnExactPathAreaRow.holds Try.pinned (OpenSpec.ofChange fnExactPathAreaWrong)

/-- 'laws.FnExactPathBack': WHATEVER THE INPUT: true; the input reads as it did. -/
def fnExactPathBackSpec : ChangeSpec := { name := "fnExactPathBack", fn := fun _ => fun
  | [d] => { results := [.lit (.bool true)], args := [d] }
  | _ => none }
def fnExactPathBackRow : OpenClaim := { program := "ytpijipcienllpaa", sum := "6d6a49ba13a8ac557e3545654036aad46553d8d80e11ac8a622e381eca830921", func := "loop.example/closingsticks/laws.FnExactPathBack", spec := "fnExactPathBack", unfollowed := true, recurses := true, apart := false }
def FnExactPathBackSaid : Prop := fnExactPathBackRow.holds Try.pinned (OpenSpec.ofChange fnExactPathBackSpec)

/-- ITS FALSE NEIGHBOUR: 'it returns false'. Refute it at one input. -/
def fnExactPathBackWrong : ChangeSpec := { name := "fnExactPathBack", fn := fun _ => fun
  | [d] => { results := [.lit (.bool false)], args := [d] }
  | _ => none }
def FnExactPathBackWrongFalsely : Prop := fnExactPathBackRow.holds Try.pinned (OpenSpec.ofChange fnExactPathBackWrong)

/-- 'laws.FnExactPathTurn': WHATEVER THE INPUT: true; the input reads as it did. -/
def fnExactPathTurnSpec : ChangeSpec := { name := "fnExactPathTurn", fn := fun _ => fun
  | [d] => { results := [.lit (.bool true)], args := [d] }
  | _ => none }
def fnExactPathTurnRow : OpenClaim := { program := "ytpijipcienllpaa", sum := "6d6a49ba13a8ac557e3545654036aad46553d8d80e11ac8a622e381eca830921", func := "loop.example/closingsticks/laws.FnExactPathTurn", spec := "fnExactPathTurn", unfollowed := true, recurses := true, apart := false }
def FnExactPathTurnSaid : Prop := fnExactPathTurnRow.holds Try.pinned (OpenSpec.ofChange fnExactPathTurnSpec)

/-- ITS FALSE NEIGHBOUR: 'it returns false'. Refute it at one input. -/
def fnExactPathTurnWrong : ChangeSpec := { name := "fnExactPathTurn", fn := fun _ => fun
  | [d] => { results := [.lit (.bool false)], args := [d] }
  | _ => none }
def FnExactPathTurnWrongFalsely : Prop := fnExactPathTurnRow.holds Try.pinned (OpenSpec.ofChange fnExactPathTurnWrong)

/-- 'laws.FnExactPathBegin': WHATEVER THE INPUT: true; the input reads as it did. -/
def fnExactPathBeginSpec : ChangeSpec := { name := "fnExactPathBegin", fn := fun _ => fun
  | [d1, d2] => { results := [.lit (.bool true)], args := [d1, d2] }
  | _ => none }
def fnExactPathBeginRow : OpenClaim := { program := "ytpijipcienllpaa", sum := "6d6a49ba13a8ac557e3545654036aad46553d8d80e11ac8a622e381eca830921", func := "loop.example/closingsticks/laws.FnExactPathBegin", spec := "fnExactPathBegin", unfollowed := true, recurses := true, apart := false }
def FnExactPathBeginSaid : Prop := fnExactPathBeginRow.holds Try.pinned (OpenSpec.ofChange fnExactPathBeginSpec)

/-- ITS FALSE NEIGHBOUR: 'it returns false'. Refute it at one input. -/
def fnExactPathBeginWrong : ChangeSpec := { name := "fnExactPathBegin", fn := fun _ => fun
  | [d1, d2] => { results := [.lit (.bool false)], args := [d1, d2] }
  | _ => none }
def FnExactPathBeginWrongFalsely : Prop := fnExactPathBeginRow.holds Try.pinned (OpenSpec.ofChange fnExactPathBeginWrong)

/-- 'laws.FnExactPathConvex': WHATEVER THE INPUT: true; the input reads as it did. -/
def fnExactPathConvexSpec : ChangeSpec := { name := "fnExactPathConvex", fn := fun _ => fun
  | [d] => { results := [.lit (.bool true)], args := [d] }
  | _ => none }
def fnExactPathConvexRow : OpenClaim := { program := "ytpijipcienllpaa", sum := "6d6a49ba13a8ac557e3545654036aad46553d8d80e11ac8a622e381eca830921", func := "loop.example/closingsticks/laws.FnExactPathConvex", spec := "fnExactPathConvex", unfollowed := true, recurses := true, apart := false }
def FnExactPathConvexSaid : Prop := fnExactPathConvexRow.holds Try.pinned (OpenSpec.ofChange fnExactPathConvexSpec)

/-- ITS FALSE NEIGHBOUR: 'it returns false'. Refute it at one input. -/
def fnExactPathConvexWrong : ChangeSpec := { name := "fnExactPathConvex", fn := fun _ => fun
  | [d] => { results := [.lit (.bool false)], args := [d] }
  | _ => none }
def FnExactPathConvexWrongFalsely : Prop := fnExactPathConvexRow.holds Try.pinned (OpenSpec.ofChange fnExactPathConvexWrong)

/-- 'laws.FnExactPathBox': WHATEVER THE INPUT: true; the input reads as it did. -/
def fnExactPathBoxSpec : ChangeSpec := { name := "fnExactPathBox", fn := fun _ => fun
  | [d] => { results := [.lit (.bool true)], args := [d] }
  | _ => none }
def fnExactPathBoxRow : OpenClaim := { program := "ytpijipcienllpaa", sum := "6d6a49ba13a8ac557e3545654036aad46553d8d80e11ac8a622e381eca830921", func := "loop.example/closingsticks/laws.FnExactPathBox", spec := "fnExactPathBox", unfollowed := true, recurses := true, apart := false }
def FnExactPathBoxSaid : Prop := fnExactPathBoxRow.holds Try.pinned (OpenSpec.ofChange fnExactPathBoxSpec)

/-- ITS FALSE NEIGHBOUR: 'it returns false'. Refute it at one input. -/
def fnExactPathBoxWrong : ChangeSpec := { name := "fnExactPathBox", fn := fun _ => fun
  | [d] => { results := [.lit (.bool false)], args := [d] }
  | _ => none }
def FnExactPathBoxWrongFalsely : Prop := fnExactPathBoxRow.holds Try.pinned (OpenSpec.ofChange fnExactPathBoxWrong)

/-- 'laws.FnExactPathRim': WHATEVER THE INPUT: true; the input reads as it did. -/
def fnExactPathRimSpec : ChangeSpec := { name := "fnExactPathRim", fn := fun _ => fun
  | [d] => { results := [.lit (.bool true)], args := [d] }
  | _ => none }
def fnExactPathRimRow : OpenClaim := { program := "ytpijipcienllpaa", sum := "6d6a49ba13a8ac557e3545654036aad46553d8d80e11ac8a622e381eca830921", func := "loop.example/closingsticks/laws.FnExactPathRim", spec := "fnExactPathRim", unfollowed := true, recurses := true, apart := false }
def FnExactPathRimSaid : Prop := fnExactPathRimRow.holds Try.pinned (OpenSpec.ofChange fnExactPathRimSpec)

/-- ITS FALSE NEIGHBOUR: 'it returns false'. Refute it at one input. -/
def fnExactPathRimWrong : ChangeSpec := { name := "fnExactPathRim", fn := fun _ => fun
  | [d] => { results := [.lit (.bool false)], args := [d] }
  | _ => none }
def FnExactPathRimWrongFalsely : Prop := fnExactPathRimRow.holds Try.pinned (OpenSpec.ofChange fnExactPathRimWrong)

/-- 'laws.FnExactPathInside': WHATEVER THE INPUT: true; the input reads as it did. -/
def fnExactPathInsideSpec : ChangeSpec := { name := "fnExactPathInside", fn := fun _ => fun
  | [d] => { results := [.lit (.bool true)], args := [d] }
  | _ => none }
def fnExactPathInsideRow : OpenClaim := { program := "ytpijipcienllpaa", sum := "6d6a49ba13a8ac557e3545654036aad46553d8d80e11ac8a622e381eca830921", func := "loop.example/closingsticks/laws.FnExactPathInside", spec := "fnExactPathInside", unfollowed := true, recurses := true, apart := false }
def FnExactPathInsideSaid : Prop := fnExactPathInsideRow.holds Try.pinned (OpenSpec.ofChange fnExactPathInsideSpec)

/-- ITS FALSE NEIGHBOUR: 'it returns false'. Refute it at one input. -/
def fnExactPathInsideWrong : ChangeSpec := { name := "fnExactPathInside", fn := fun _ => fun
  | [d] => { results := [.lit (.bool false)], args := [d] }
  | _ => none }
def FnExactPathInsideWrongFalsely : Prop := fnExactPathInsideRow.holds Try.pinned (OpenSpec.ofChange fnExactPathInsideWrong)

/-- 'laws.FnExactPathInsideAll': WHATEVER THE INPUT: true; the input reads as it did. -/
def fnExactPathInsideAllSpec : ChangeSpec := { name := "fnExactPathInsideAll", fn := fun _ => fun
  | [d] => { results := [.lit (.bool true)], args := [d] }
  | _ => none }
def fnExactPathInsideAllRow : OpenClaim := { program := "ytpijipcienllpaa", sum := "6d6a49ba13a8ac557e3545654036aad46553d8d80e11ac8a622e381eca830921", func := "loop.example/closingsticks/laws.FnExactPathInsideAll", spec := "fnExactPathInsideAll", unfollowed := true, recurses := true, apart := false }
def FnExactPathInsideAllSaid : Prop := fnExactPathInsideAllRow.holds Try.pinned (OpenSpec.ofChange fnExactPathInsideAllSpec)

/-- ITS FALSE NEIGHBOUR: 'it returns false'. Refute it at one input. -/
def fnExactPathInsideAllWrong : ChangeSpec := { name := "fnExactPathInsideAll", fn := fun _ => fun
  | [d] => { results := [.lit (.bool false)], args := [d] }
  | _ => none }
def FnExactPathInsideAllWrongFalsely : Prop := fnExactPathInsideAllRow.holds Try.pinned (OpenSpec.ofChange fnExactPathInsideAllWrong)

/- THE SECOND FORM. 'bulk': how many values and letters a reading holds, each counted each time it is reached (what is shared counts as often as it is met; a slice's spare places count too). A statement '..UptoSaid' is the law's where the arguments, and the package variables that the reading takes, are together of bulk at most 1048576: NARROWER than '..Said'. Prove '..Said' where nothing that the law and all that it calls make is longer than what came in: it says more and counts as full. Else prove '..UptoSaid'. A law counts once. -/
mutual
def uptoBulk {H : Type} : DataW H → Nat
  | .lit (.string bytes) => bytes.length + 1
  | .lit _ => 1
  | .nil => 1
  | .ptr d => uptoBulk d + 1
  | .slice elems spare => uptoBulkAll elems + uptoBulkAll spare + 1
  | .agg parts => uptoBulkAll parts + 1
  | .iface _ d => uptoBulk d + 1
  | .map entries => uptoBulkEntries entries + 1
  | .held _ => 1
def uptoBulkAll {H : Type} : List (DataW H) → Nat
  | [] => 0
  | d :: r => uptoBulk d + uptoBulkAll r
def uptoBulkEntries {H : Type} : List (Lit × DataW H) → Nat
  | [] => 0
  | x :: r => uptoBulkEntry x + uptoBulkEntries r
def uptoBulkEntry {H : Type} : Lit × DataW H → Nat
  | (.string bytes, d) => bytes.length + uptoBulk d + 1
  | (_, d) => uptoBulk d + 1
 end
def uptoSmall : (H : Type) → List (DataW H) → Bool := fun _ ds => decide (uptoBulkAll ds ≤ 1048576)
def OpenSpec.upto (s : _root_.Go.ChangeSpec) : _root_.Go.OpenSpec := { _root_.Go.OpenSpec.ofChange s with cond := some uptoSmall }

/-- 'laws.FnPath', WHERE WHAT IT READS IS OF BULK AT MOST 1048576: true; the input reads as it did. -/
def fnPathUptoRow : OpenClaim := { program := "ytpijipcienllpaa", sum := "6d6a49ba13a8ac557e3545654036aad46553d8d80e11ac8a622e381eca830921", func := "loop.example/closingsticks/laws.FnPath", spec := "fnPath", unfollowed := true, recurses := true, apart := false, narrowed := true }
def FnPathUptoSaid : Prop := fnPathUptoRow.holds Try.pinned (OpenSpec.upto fnPathSpec)

/-- 'laws.FnCorners', WHERE WHAT IT READS IS OF BULK AT MOST 1048576: true; the input reads as it did. -/
def fnCornersUptoRow : OpenClaim := { program := "ytpijipcienllpaa", sum := "6d6a49ba13a8ac557e3545654036aad46553d8d80e11ac8a622e381eca830921", func := "loop.example/closingsticks/laws.FnCorners", spec := "fnCorners", unfollowed := true, recurses := true, apart := false, narrowed := true }
def FnCornersUptoSaid : Prop := fnCornersUptoRow.holds Try.pinned (OpenSpec.upto fnCornersSpec)

/-- 'laws.FnArea', WHERE WHAT IT READS IS OF BULK AT MOST 1048576: true; the input reads as it did. -/
def fnAreaUptoRow : OpenClaim := { program := "ytpijipcienllpaa", sum := "6d6a49ba13a8ac557e3545654036aad46553d8d80e11ac8a622e381eca830921", func := "loop.example/closingsticks/laws.FnArea", spec := "fnArea", unfollowed := true, recurses := true, apart := false, narrowed := true }
def FnAreaUptoSaid : Prop := fnAreaUptoRow.holds Try.pinned (OpenSpec.upto fnAreaSpec)

/-- 'laws.FnPathBack', WHERE WHAT IT READS IS OF BULK AT MOST 1048576: true; the input reads as it did. -/
def fnPathBackUptoRow : OpenClaim := { program := "ytpijipcienllpaa", sum := "6d6a49ba13a8ac557e3545654036aad46553d8d80e11ac8a622e381eca830921", func := "loop.example/closingsticks/laws.FnPathBack", spec := "fnPathBack", unfollowed := true, recurses := true, apart := false, narrowed := true }
def FnPathBackUptoSaid : Prop := fnPathBackUptoRow.holds Try.pinned (OpenSpec.upto fnPathBackSpec)

/-- 'laws.FnPathTurn', WHERE WHAT IT READS IS OF BULK AT MOST 1048576: true; the input reads as it did. -/
def fnPathTurnUptoRow : OpenClaim := { program := "ytpijipcienllpaa", sum := "6d6a49ba13a8ac557e3545654036aad46553d8d80e11ac8a622e381eca830921", func := "loop.example/closingsticks/laws.FnPathTurn", spec := "fnPathTurn", unfollowed := true, recurses := true, apart := false, narrowed := true }
def FnPathTurnUptoSaid : Prop := fnPathTurnUptoRow.holds Try.pinned (OpenSpec.upto fnPathTurnSpec)

/-- 'laws.FnBegin', WHERE WHAT IT READS IS OF BULK AT MOST 1048576: true; the input reads as it did. -/
def fnBeginUptoRow : OpenClaim := { program := "ytpijipcienllpaa", sum := "6d6a49ba13a8ac557e3545654036aad46553d8d80e11ac8a622e381eca830921", func := "loop.example/closingsticks/laws.FnBegin", spec := "fnBegin", unfollowed := true, recurses := true, apart := false, narrowed := true }
def FnBeginUptoSaid : Prop := fnBeginUptoRow.holds Try.pinned (OpenSpec.upto fnBeginSpec)

/-- 'laws.FnConvex', WHERE WHAT IT READS IS OF BULK AT MOST 1048576: true; the input reads as it did. -/
def fnConvexUptoRow : OpenClaim := { program := "ytpijipcienllpaa", sum := "6d6a49ba13a8ac557e3545654036aad46553d8d80e11ac8a622e381eca830921", func := "loop.example/closingsticks/laws.FnConvex", spec := "fnConvex", unfollowed := true, recurses := true, apart := false, narrowed := true }
def FnConvexUptoSaid : Prop := fnConvexUptoRow.holds Try.pinned (OpenSpec.upto fnConvexSpec)

/-- 'laws.FnBox', WHERE WHAT IT READS IS OF BULK AT MOST 1048576: true; the input reads as it did. -/
def fnBoxUptoRow : OpenClaim := { program := "ytpijipcienllpaa", sum := "6d6a49ba13a8ac557e3545654036aad46553d8d80e11ac8a622e381eca830921", func := "loop.example/closingsticks/laws.FnBox", spec := "fnBox", unfollowed := true, recurses := true, apart := false, narrowed := true }
def FnBoxUptoSaid : Prop := fnBoxUptoRow.holds Try.pinned (OpenSpec.upto fnBoxSpec)

/-- 'laws.FnRim', WHERE WHAT IT READS IS OF BULK AT MOST 1048576: true; the input reads as it did. -/
def fnRimUptoRow : OpenClaim := { program := "ytpijipcienllpaa", sum := "6d6a49ba13a8ac557e3545654036aad46553d8d80e11ac8a622e381eca830921", func := "loop.example/closingsticks/laws.FnRim", spec := "fnRim", unfollowed := true, recurses := true, apart := false, narrowed := true }
def FnRimUptoSaid : Prop := fnRimUptoRow.holds Try.pinned (OpenSpec.upto fnRimSpec)

/-- 'laws.FnInside', WHERE WHAT IT READS IS OF BULK AT MOST 1048576: true; the input reads as it did. -/
def fnInsideUptoRow : OpenClaim := { program := "ytpijipcienllpaa", sum := "6d6a49ba13a8ac557e3545654036aad46553d8d80e11ac8a622e381eca830921", func := "loop.example/closingsticks/laws.FnInside", spec := "fnInside", unfollowed := true, recurses := true, apart := false, narrowed := true }
def FnInsideUptoSaid : Prop := fnInsideUptoRow.holds Try.pinned (OpenSpec.upto fnInsideSpec)

/-- 'laws.FnInsideAll', WHERE WHAT IT READS IS OF BULK AT MOST 1048576: true; the input reads as it did. -/
def fnInsideAllUptoRow : OpenClaim := { program := "ytpijipcienllpaa", sum := "6d6a49ba13a8ac557e3545654036aad46553d8d80e11ac8a622e381eca830921", func := "loop.example/closingsticks/laws.FnInsideAll", spec := "fnInsideAll", unfollowed := true, recurses := true, apart := false, narrowed := true }
def FnInsideAllUptoSaid : Prop := fnInsideAllUptoRow.holds Try.pinned (OpenSpec.upto fnInsideAllSpec)

/-- 'laws.FnExactPathIn', WHERE WHAT IT READS IS OF BULK AT MOST 1048576: true; the input reads as it did. -/
def fnExactPathInUptoRow : OpenClaim := { program := "ytpijipcienllpaa", sum := "6d6a49ba13a8ac557e3545654036aad46553d8d80e11ac8a622e381eca830921", func := "loop.example/closingsticks/laws.FnExactPathIn", spec := "fnExactPathIn", apart := false, narrowed := true }
def FnExactPathInUptoSaid : Prop := fnExactPathInUptoRow.holds Try.pinned (OpenSpec.upto fnExactPathInSpec)

/-- 'laws.FnExactPathCorners', WHERE WHAT IT READS IS OF BULK AT MOST 1048576: true; the input reads as it did. -/
def fnExactPathCornersUptoRow : OpenClaim := { program := "ytpijipcienllpaa", sum := "6d6a49ba13a8ac557e3545654036aad46553d8d80e11ac8a622e381eca830921", func := "loop.example/closingsticks/laws.FnExactPathCorners", spec := "fnExactPathCorners", unfollowed := true, recurses := true, apart := false, narrowed := true }
def FnExactPathCornersUptoSaid : Prop := fnExactPathCornersUptoRow.holds Try.pinned (OpenSpec.upto fnExactPathCornersSpec)

/-- 'laws.FnExactPathArea', WHERE WHAT IT READS IS OF BULK AT MOST 1048576: true; the input reads as it did. -/
def fnExactPathAreaUptoRow : OpenClaim := { program := "ytpijipcienllpaa", sum := "6d6a49ba13a8ac557e3545654036aad46553d8d80e11ac8a622e381eca830921", func := "loop.example/closingsticks/laws.FnExactPathArea", spec := "fnExactPathArea", unfollowed := true, recurses := true, apart := false, narrowed := true }
def FnExactPathAreaUptoSaid : Prop := fnExactPathAreaUptoRow.holds Try.pinned (OpenSpec.upto fnExactPathAreaSpec)

/-- 'laws.FnExactPathBack', WHERE WHAT IT READS IS OF BULK AT MOST 1048576: true; the input reads as it did. -/
def fnExactPathBackUptoRow : OpenClaim := { program := "ytpijipcienllpaa", sum := "6d6a49ba13a8ac557e3545654036aad46553d8d80e11ac8a622e381eca830921", func := "loop.example/closingsticks/laws.FnExactPathBack", spec := "fnExactPathBack", unfollowed := true, recurses := true, apart := false, narrowed := true }
def FnExactPathBackUptoSaid : Prop := fnExactPathBackUptoRow.holds Try.pinned (OpenSpec.upto fnExactPathBackSpec)

/-- 'laws.FnExactPathTurn', WHERE WHAT IT READS IS OF BULK AT MOST 1048576: true; the input reads as it did. -/
def fnExactPathTurnUptoRow : OpenClaim := { program := "ytpijipcienllpaa", sum := "6d6a49ba13a8ac557e3545654036aad46553d8d80e11ac8a622e381eca830921", func := "loop.example/closingsticks/laws.FnExactPathTurn", spec := "fnExactPathTurn", unfollowed := true, recurses := true, apart := false, narrowed := true }
def FnExactPathTurnUptoSaid : Prop := fnExactPathTurnUptoRow.holds Try.pinned (OpenSpec.upto fnExactPathTurnSpec)

/-- 'laws.FnExactPathBegin', WHERE WHAT IT READS IS OF BULK AT MOST 1048576: true; the input reads as it did. -/
def fnExactPathBeginUptoRow : OpenClaim := { program := "ytpijipcienllpaa", sum := "6d6a49ba13a8ac557e3545654036aad46553d8d80e11ac8a622e381eca830921", func := "loop.example/closingsticks/laws.FnExactPathBegin", spec := "fnExactPathBegin", unfollowed := true, recurses := true, apart := false, narrowed := true }
def FnExactPathBeginUptoSaid : Prop := fnExactPathBeginUptoRow.holds Try.pinned (OpenSpec.upto fnExactPathBeginSpec)

/-- 'laws.FnExactPathConvex', WHERE WHAT IT READS IS OF BULK AT MOST 1048576: true; the input reads as it did. -/
def fnExactPathConvexUptoRow : OpenClaim := { program := "ytpijipcienllpaa", sum := "6d6a49ba13a8ac557e3545654036aad46553d8d80e11ac8a622e381eca830921", func := "loop.example/closingsticks/laws.FnExactPathConvex", spec := "fnExactPathConvex", unfollowed := true, recurses := true, apart := false, narrowed := true }
def FnExactPathConvexUptoSaid : Prop := fnExactPathConvexUptoRow.holds Try.pinned (OpenSpec.upto fnExactPathConvexSpec)

/-- 'laws.FnExactPathBox', WHERE WHAT IT READS IS OF BULK AT MOST 1048576: true; the input reads as it did. -/
def fnExactPathBoxUptoRow : OpenClaim := { program := "ytpijipcienllpaa", sum := "6d6a49ba13a8ac557e3545654036aad46553d8d80e11ac8a622e381eca830921", func := "loop.example/closingsticks/laws.FnExactPathBox", spec := "fnExactPathBox", unfollowed := true, recurses := true, apart := false, narrowed := true }
def FnExactPathBoxUptoSaid : Prop := fnExactPathBoxUptoRow.holds Try.pinned (OpenSpec.upto fnExactPathBoxSpec)

/-- 'laws.FnExactPathRim', WHERE WHAT IT READS IS OF BULK AT MOST 1048576: true; the input reads as it did. -/
def fnExactPathRimUptoRow : OpenClaim := { program := "ytpijipcienllpaa", sum := "6d6a49ba13a8ac557e3545654036aad46553d8d80e11ac8a622e381eca830921", func := "loop.example/closingsticks/laws.FnExactPathRim", spec := "fnExactPathRim", unfollowed := true, recurses := true, apart := false, narrowed := true }
def FnExactPathRimUptoSaid : Prop := fnExactPathRimUptoRow.holds Try.pinned (OpenSpec.upto fnExactPathRimSpec)

/-- 'laws.FnExactPathInside', WHERE WHAT IT READS IS OF BULK AT MOST 1048576: true; the input reads as it did. -/
def fnExactPathInsideUptoRow : OpenClaim := { program := "ytpijipcienllpaa", sum := "6d6a49ba13a8ac557e3545654036aad46553d8d80e11ac8a622e381eca830921", func := "loop.example/closingsticks/laws.FnExactPathInside", spec := "fnExactPathInside", unfollowed := true, recurses := true, apart := false, narrowed := true }
def FnExactPathInsideUptoSaid : Prop := fnExactPathInsideUptoRow.holds Try.pinned (OpenSpec.upto fnExactPathInsideSpec)

/-- 'laws.FnExactPathInsideAll', WHERE WHAT IT READS IS OF BULK AT MOST 1048576: true; the input reads as it did. -/
def fnExactPathInsideAllUptoRow : OpenClaim := { program := "ytpijipcienllpaa", sum := "6d6a49ba13a8ac557e3545654036aad46553d8d80e11ac8a622e381eca830921", func := "loop.example/closingsticks/laws.FnExactPathInsideAll", spec := "fnExactPathInsideAll", unfollowed := true, recurses := true, apart := false, narrowed := true }
def FnExactPathInsideAllUptoSaid : Prop := fnExactPathInsideAllUptoRow.holds Try.pinned (OpenSpec.upto fnExactPathInsideAllSpec)

end Rows
end Go.Proofs.Ytpijipcienllpaa
