/-
  No cell of these rows narrows 'for every input' (looked for: loops, veiled, ifaces, maps, wideKeys, modest, calm, conditions, laid).
  DERIVED. THE GIVEN ROWS OF THIS SEAT. 13 by the template 'for every input the law returns true; each argument reads behind the call as it read before'; 0 by the template 'total and deterministic' (their statements: YtiadnbdefcimiaaTotals.lean).
  GIVEN WITH THE SEED: the statements are not yours to turn. If you find one false, say at which input.
  Laid BY PROGRAM, IN A SANDBOX (cutbox-rows.mjs): the forced cells as the released guide's own fill.sh prints them over the translation 4cc2af3215e875b9… (all of the seat's roots in one cut). By AI agents, Wed Nov 11 2026. No macro, syntax, notation, axiom, sorry.
-/
import Derived.Test.YtiadnbdefcimiaaChecked
import GoSem.Claim
import GoSem.ClaimJoined
import GoSem.ClaimMapViews
import Derived.JoinedTies
import Derived.KernelRfl
namespace Go.Proofs.Ytiadnbdefcimiaa
/- THE CELL 'sum', in the pinned program and in every row, IS THE sha256 OF THE DUMP (.gsa) THAT YtiadnbdefcimiaaProg.lean LOADS. Nothing in Lean hashes anything: it is a label: what it is worth is what the hold of that sum in a sandbox is worth. -/
noncomputable def Try.pinned : Pinned := { name := "ytiadnbdefcimiaa", sum := "4cc2af3215e875b96ad72298f9ac3165da08ddbb5fa338bd135378d9c3d06a7a", checked := Try.checked }
namespace Rows
def none {H : Type} : Left H := { results := [], args := [] }

/-- 'laws.FnMay': WHATEVER THE INPUT: true; the input reads as it did. -/
def fnMaySpec : ChangeSpec := { name := "fnMay", fn := fun _ => fun
  | [d] => { results := [.lit (.bool true)], args := [d] }
  | _ => none }
def fnMayRow : OpenClaim := { program := "ytiadnbdefcimiaa", sum := "4cc2af3215e875b96ad72298f9ac3165da08ddbb5fa338bd135378d9c3d06a7a", func := "loop.example/closingsticks/laws.FnMay", spec := "fnMay", unfollowed := true, recurses := true, apart := false }
def FnMaySaid : Prop := fnMayRow.holds Try.pinned (OpenSpec.ofChange fnMaySpec)

/-- ITS FALSE NEIGHBOUR: 'it returns false'. Refute it at one input. -/
def fnMayWrong : ChangeSpec := { name := "fnMay", fn := fun _ => fun
  | [d] => { results := [.lit (.bool false)], args := [d] }
  | _ => none }
def FnMayWrongFalsely : Prop := fnMayRow.holds Try.pinned (OpenSpec.ofChange fnMayWrong)

/-- 'laws.FnPartWays': WHATEVER THE INPUT: true; the input reads as it did. -/
def fnPartWaysSpec : ChangeSpec := { name := "fnPartWays", fn := fun _ => fun
  | [d] => { results := [.lit (.bool true)], args := [d] }
  | _ => none }
def fnPartWaysRow : OpenClaim := { program := "ytiadnbdefcimiaa", sum := "4cc2af3215e875b96ad72298f9ac3165da08ddbb5fa338bd135378d9c3d06a7a", func := "loop.example/closingsticks/laws.FnPartWays", spec := "fnPartWays", unfollowed := true, recurses := true, apart := false }
def FnPartWaysSaid : Prop := fnPartWaysRow.holds Try.pinned (OpenSpec.ofChange fnPartWaysSpec)

/-- ITS FALSE NEIGHBOUR: 'it returns false'. Refute it at one input. -/
def fnPartWaysWrong : ChangeSpec := { name := "fnPartWays", fn := fun _ => fun
  | [d] => { results := [.lit (.bool false)], args := [d] }
  | _ => none }
def FnPartWaysWrongFalsely : Prop := fnPartWaysRow.holds Try.pinned (OpenSpec.ofChange fnPartWaysWrong)

/-- 'laws.FnPartMost': WHATEVER THE INPUT: true; the input reads as it did. -/
def fnPartMostSpec : ChangeSpec := { name := "fnPartMost", fn := fun _ => fun
  | [d] => { results := [.lit (.bool true)], args := [d] }
  | _ => none }
def fnPartMostRow : OpenClaim := { program := "ytiadnbdefcimiaa", sum := "4cc2af3215e875b96ad72298f9ac3165da08ddbb5fa338bd135378d9c3d06a7a", func := "loop.example/closingsticks/laws.FnPartMost", spec := "fnPartMost", unfollowed := true, recurses := true, apart := false }
def FnPartMostSaid : Prop := fnPartMostRow.holds Try.pinned (OpenSpec.ofChange fnPartMostSpec)

/-- ITS FALSE NEIGHBOUR: 'it returns false'. Refute it at one input. -/
def fnPartMostWrong : ChangeSpec := { name := "fnPartMost", fn := fun _ => fun
  | [d] => { results := [.lit (.bool false)], args := [d] }
  | _ => none }
def FnPartMostWrongFalsely : Prop := fnPartMostRow.holds Try.pinned (OpenSpec.ofChange fnPartMostWrong)

/-- 'laws.FnPartFirst': WHATEVER THE INPUT: true; the input reads as it did. -/
def fnPartFirstSpec : ChangeSpec := { name := "fnPartFirst", fn := fun _ => fun
  | [d] => { results := [.lit (.bool true)], args := [d] }
  | _ => none }
def fnPartFirstRow : OpenClaim := { program := "ytiadnbdefcimiaa", sum := "4cc2af3215e875b96ad72298f9ac3165da08ddbb5fa338bd135378d9c3d06a7a", func := "loop.example/closingsticks/laws.FnPartFirst", spec := "fnPartFirst", unfollowed := true, recurses := true, apart := false }
def FnPartFirstSaid : Prop := fnPartFirstRow.holds Try.pinned (OpenSpec.ofChange fnPartFirstSpec)

/-- ITS FALSE NEIGHBOUR: 'it returns false'. Refute it at one input. -/
def fnPartFirstWrong : ChangeSpec := { name := "fnPartFirst", fn := fun _ => fun
  | [d] => { results := [.lit (.bool false)], args := [d] }
  | _ => none }
def FnPartFirstWrongFalsely : Prop := fnPartFirstRow.holds Try.pinned (OpenSpec.ofChange fnPartFirstWrong)

/-- 'laws.FnPartIs': WHATEVER THE INPUT: true; the input reads as it did. -/
def fnPartIsSpec : ChangeSpec := { name := "fnPartIs", fn := fun _ => fun
  | [d] => { results := [.lit (.bool true)], args := [d] }
  | _ => none }
def fnPartIsRow : OpenClaim := { program := "ytiadnbdefcimiaa", sum := "4cc2af3215e875b96ad72298f9ac3165da08ddbb5fa338bd135378d9c3d06a7a", func := "loop.example/closingsticks/laws.FnPartIs", spec := "fnPartIs", unfollowed := true, recurses := true, apart := false }
def FnPartIsSaid : Prop := fnPartIsRow.holds Try.pinned (OpenSpec.ofChange fnPartIsSpec)

/-- ITS FALSE NEIGHBOUR: 'it returns false'. Refute it at one input. -/
def fnPartIsWrong : ChangeSpec := { name := "fnPartIs", fn := fun _ => fun
  | [d] => { results := [.lit (.bool false)], args := [d] }
  | _ => none }
def FnPartIsWrongFalsely : Prop := fnPartIsRow.holds Try.pinned (OpenSpec.ofChange fnPartIsWrong)

/-- 'laws.FnPartRound': WHATEVER THE INPUT: true; the input reads as it did. -/
def fnPartRoundSpec : ChangeSpec := { name := "fnPartRound", fn := fun _ => fun
  | [d] => { results := [.lit (.bool true)], args := [d] }
  | _ => none }
def fnPartRoundRow : OpenClaim := { program := "ytiadnbdefcimiaa", sum := "4cc2af3215e875b96ad72298f9ac3165da08ddbb5fa338bd135378d9c3d06a7a", func := "loop.example/closingsticks/laws.FnPartRound", spec := "fnPartRound", unfollowed := true, recurses := true, apart := false }
def FnPartRoundSaid : Prop := fnPartRoundRow.holds Try.pinned (OpenSpec.ofChange fnPartRoundSpec)

/-- ITS FALSE NEIGHBOUR: 'it returns false'. Refute it at one input. -/
def fnPartRoundWrong : ChangeSpec := { name := "fnPartRound", fn := fun _ => fun
  | [d] => { results := [.lit (.bool false)], args := [d] }
  | _ => none }
def FnPartRoundWrongFalsely : Prop := fnPartRoundRow.holds Try.pinned (OpenSpec.ofChange fnPartRoundWrong)

/-- 'laws.FnPartEqual': WHATEVER THE INPUT: true; the input reads as it did. -/
def fnPartEqualSpec : ChangeSpec := { name := "fnPartEqual", fn := fun _ => fun
  | [d] => { results := [.lit (.bool true)], args := [d] }
  | _ => none }
def fnPartEqualRow : OpenClaim := { program := "ytiadnbdefcimiaa", sum := "4cc2af3215e875b96ad72298f9ac3165da08ddbb5fa338bd135378d9c3d06a7a", func := "loop.example/closingsticks/laws.FnPartEqual", spec := "fnPartEqual", unfollowed := true, recurses := true, apart := false }
def FnPartEqualSaid : Prop := fnPartEqualRow.holds Try.pinned (OpenSpec.ofChange fnPartEqualSpec)

/-- ITS FALSE NEIGHBOUR: 'it returns false'. Refute it at one input. -/
def fnPartEqualWrong : ChangeSpec := { name := "fnPartEqual", fn := fun _ => fun
  | [d] => { results := [.lit (.bool false)], args := [d] }
  | _ => none }
def FnPartEqualWrongFalsely : Prop := fnPartEqualRow.holds Try.pinned (OpenSpec.ofChange fnPartEqualWrong)

/-- 'laws.FnExactPartMay': WHATEVER THE INPUT: true; the input reads as it did. -/
def fnExactPartMaySpec : ChangeSpec := { name := "fnExactPartMay", fn := fun _ => fun
  | [d] => { results := [.lit (.bool true)], args := [d] }
  | _ => none }
def fnExactPartMayRow : OpenClaim := { program := "ytiadnbdefcimiaa", sum := "4cc2af3215e875b96ad72298f9ac3165da08ddbb5fa338bd135378d9c3d06a7a", func := "loop.example/closingsticks/laws.FnExactPartMay", spec := "fnExactPartMay", unfollowed := true, recurses := true, apart := false }
def FnExactPartMaySaid : Prop := fnExactPartMayRow.holds Try.pinned (OpenSpec.ofChange fnExactPartMaySpec)

/-- ITS FALSE NEIGHBOUR: 'it returns false'. Refute it at one input. -/
def fnExactPartMayWrong : ChangeSpec := { name := "fnExactPartMay", fn := fun _ => fun
  | [d] => { results := [.lit (.bool false)], args := [d] }
  | _ => none }
def FnExactPartMayWrongFalsely : Prop := fnExactPartMayRow.holds Try.pinned (OpenSpec.ofChange fnExactPartMayWrong)

/-- 'laws.FnExactPartWays': WHATEVER THE INPUT: true; the input reads as it did. -/
def fnExactPartWaysSpec : ChangeSpec := { name := "fnExactPartWays", fn := fun _ => fun
  | [d] => { results := [.lit (.bool true)], args := [d] }
  | _ => none }
def fnExactPartWaysRow : OpenClaim := { program := "ytiadnbdefcimiaa", sum := "4cc2af3215e875b96ad72298f9ac3165da08ddbb5fa338bd135378d9c3d06a7a", func := "loop.example/closingsticks/laws.FnExactPartWays", spec := "fnExactPartWays", unfollowed := true, recurses := true, apart := false }
def FnExactPartWaysSaid : Prop := fnExactPartWaysRow.holds Try.pinned (OpenSpec.ofChange fnExactPartWaysSpec)

/-- ITS FALSE NEIGHBOUR: 'it returns false'. Refute it at one input. -/
def fnExactPartWaysWrong : ChangeSpec := { name := "fnExactPartWays", fn := fun _ => fun
  | [d] => { results := [.lit (.bool false)], args := [d] }
  | _ => none }
def FnExactPartWaysWrongFalsely : Prop := fnExactPartWaysRow.holds Try.pinned (OpenSpec.ofChange fnExactPartWaysWrong)

/-- 'laws.FnExactPartFirst': WHATEVER THE INPUT: true; the input reads as it did. -/
def fnExactPartFirstSpec : ChangeSpec := { name := "fnExactPartFirst", fn := fun _ => fun
  | [d] => { results := [.lit (.bool true)], args := [d] }
  | _ => none }
def fnExactPartFirstRow : OpenClaim := { program := "ytiadnbdefcimiaa", sum := "4cc2af3215e875b96ad72298f9ac3165da08ddbb5fa338bd135378d9c3d06a7a", func := "loop.example/closingsticks/laws.FnExactPartFirst", spec := "fnExactPartFirst", unfollowed := true, recurses := true, apart := false }
def FnExactPartFirstSaid : Prop := fnExactPartFirstRow.holds Try.pinned (OpenSpec.ofChange fnExactPartFirstSpec)

/-- ITS FALSE NEIGHBOUR: 'it returns false'. Refute it at one input. -/
def fnExactPartFirstWrong : ChangeSpec := { name := "fnExactPartFirst", fn := fun _ => fun
  | [d] => { results := [.lit (.bool false)], args := [d] }
  | _ => none }
def FnExactPartFirstWrongFalsely : Prop := fnExactPartFirstRow.holds Try.pinned (OpenSpec.ofChange fnExactPartFirstWrong)

/-- 'laws.FnExactPartIs': WHATEVER THE INPUT: true; the input reads as it did. -/
def fnExactPartIsSpec : ChangeSpec := { name := "fnExactPartIs", fn := fun _ => fun
  | [d1, d2] => { results := [.lit (.bool true)], args := [d1, d2] }
  | _ => none }
def fnExactPartIsRow : OpenClaim := { program := "ytiadnbdefcimiaa", sum := "4cc2af3215e875b96ad72298f9ac3165da08ddbb5fa338bd135378d9c3d06a7a", func := "loop.example/closingsticks/laws.FnExactPartIs", spec := "fnExactPartIs", apart := false }
def FnExactPartIsSaid : Prop := fnExactPartIsRow.holds Try.pinned (OpenSpec.ofChange fnExactPartIsSpec)

/-- ITS FALSE NEIGHBOUR: 'it returns false'. Refute it at one input. -/
def fnExactPartIsWrong : ChangeSpec := { name := "fnExactPartIs", fn := fun _ => fun
  | [d1, d2] => { results := [.lit (.bool false)], args := [d1, d2] }
  | _ => none }
def FnExactPartIsWrongFalsely : Prop := fnExactPartIsRow.holds Try.pinned (OpenSpec.ofChange fnExactPartIsWrong)

/-- 'laws.FnExactPartRound': WHATEVER THE INPUT: true; the input reads as it did. -/
def fnExactPartRoundSpec : ChangeSpec := { name := "fnExactPartRound", fn := fun _ => fun
  | [d] => { results := [.lit (.bool true)], args := [d] }
  | _ => none }
def fnExactPartRoundRow : OpenClaim := { program := "ytiadnbdefcimiaa", sum := "4cc2af3215e875b96ad72298f9ac3165da08ddbb5fa338bd135378d9c3d06a7a", func := "loop.example/closingsticks/laws.FnExactPartRound", spec := "fnExactPartRound", unfollowed := true, recurses := true, apart := false }
def FnExactPartRoundSaid : Prop := fnExactPartRoundRow.holds Try.pinned (OpenSpec.ofChange fnExactPartRoundSpec)

/-- ITS FALSE NEIGHBOUR: 'it returns false'. Refute it at one input. -/
def fnExactPartRoundWrong : ChangeSpec := { name := "fnExactPartRound", fn := fun _ => fun
  | [d] => { results := [.lit (.bool false)], args := [d] }
  | _ => none }
def FnExactPartRoundWrongFalsely : Prop := fnExactPartRoundRow.holds Try.pinned (OpenSpec.ofChange fnExactPartRoundWrong)

/-- 'laws.FnExactPartEqual': WHATEVER THE INPUT: true; the input reads as it did. -/
def fnExactPartEqualSpec : ChangeSpec := { name := "fnExactPartEqual", fn := fun _ => fun
  | [d] => { results := [.lit (.bool true)], args := [d] }
  | _ => none }
def fnExactPartEqualRow : OpenClaim := { program := "ytiadnbdefcimiaa", sum := "4cc2af3215e875b96ad72298f9ac3165da08ddbb5fa338bd135378d9c3d06a7a", func := "loop.example/closingsticks/laws.FnExactPartEqual", spec := "fnExactPartEqual", unfollowed := true, recurses := true, apart := false }
def FnExactPartEqualSaid : Prop := fnExactPartEqualRow.holds Try.pinned (OpenSpec.ofChange fnExactPartEqualSpec)

/-- ITS FALSE NEIGHBOUR: 'it returns false'. Refute it at one input. -/
def fnExactPartEqualWrong : ChangeSpec := { name := "fnExactPartEqual", fn := fun _ => fun
  | [d] => { results := [.lit (.bool false)], args := [d] }
  | _ => none }
def FnExactPartEqualWrongFalsely : Prop := fnExactPartEqualRow.holds Try.pinned (OpenSpec.ofChange fnExactPartEqualWrong)

/- THE SECOND FORM. 'bulk': how many values and letters a reading holds, each counted each time it is reached (what is shared counts as often as it is met; a slice's spare places count too). A statement '..UptoSaid' is the law's where the arguments, and the package variables that the reading takes, are together of bulk at most 1048576: NARROWER than '..Said'. Prove '..Said' where nothing that the law and all that it calls make is longer than what came in: it says more and counts as full. Else prove '..UptoSaid'. A law counts once. -/
mutual
def uptoBulk {H : Type} : DataW H → Nat
  | .lit (.string bytes) => bytes.length + 1
  | .lit _ => 1
  | .nil => 1
  | .ptr d => uptoBulk d + 1
  | .slice elems spare => uptoBulkAll elems + uptoBulkAll spare + 1
  | .agg parts => uptoBulkAll parts + 1
  | .iface _ d => uptoBulk d + 1
  | .map entries => uptoBulkEntries entries + 1
  | .held _ => 1
def uptoBulkAll {H : Type} : List (DataW H) → Nat
  | [] => 0
  | d :: r => uptoBulk d + uptoBulkAll r
def uptoBulkEntries {H : Type} : List (Lit × DataW H) → Nat
  | [] => 0
  | x :: r => uptoBulkEntry x + uptoBulkEntries r
def uptoBulkEntry {H : Type} : Lit × DataW H → Nat
  | (.string bytes, d) => bytes.length + uptoBulk d + 1
  | (_, d) => uptoBulk d + 1
 end
def uptoSmall : (H : Type) → List (DataW H) → Bool := fun _ ds => decide (uptoBulkAll ds ≤ 1048576)
def OpenSpec.upto (s : _root_.Go.ChangeSpec) : _root_.Go.OpenSpec := { _root_.Go.OpenSpec.ofChange s with cond := some uptoSmall }

/-- 'laws.FnMay', WHERE WHAT IT READS IS OF BULK AT MOST 1048576: true; the input reads as it did. -/
def fnMayUptoRow : OpenClaim := { program := "ytiadnbdefcimiaa", sum := "4cc2af3215e875b96ad72298f9ac3165da08ddbb5fa338bd135378d9c3d06a7a", func := "loop.example/closingsticks/laws.FnMay", spec := "fnMay", unfollowed := true, recurses := true, apart := false, narrowed := true }
def FnMayUptoSaid : Prop := fnMayUptoRow.holds Try.pinned (OpenSpec.upto fnMaySpec)

/-- 'laws.FnPartWays', WHERE WHAT IT READS IS OF BULK AT MOST 1048576: true; the input reads as it did. -/
def fnPartWaysUptoRow : OpenClaim := { program := "ytiadnbdefcimiaa", sum := "4cc2af3215e875b96ad72298f9ac3165da08ddbb5fa338bd135378d9c3d06a7a", func := "loop.example/closingsticks/laws.FnPartWays", spec := "fnPartWays", unfollowed := true, recurses := true, apart := false, narrowed := true }
def FnPartWaysUptoSaid : Prop := fnPartWaysUptoRow.holds Try.pinned (OpenSpec.upto fnPartWaysSpec)

/-- 'laws.FnPartMost', WHERE WHAT IT READS IS OF BULK AT MOST 1048576: true; the input reads as it did. -/
def fnPartMostUptoRow : OpenClaim := { program := "ytiadnbdefcimiaa", sum := "4cc2af3215e875b96ad72298f9ac3165da08ddbb5fa338bd135378d9c3d06a7a", func := "loop.example/closingsticks/laws.FnPartMost", spec := "fnPartMost", unfollowed := true, recurses := true, apart := false, narrowed := true }
def FnPartMostUptoSaid : Prop := fnPartMostUptoRow.holds Try.pinned (OpenSpec.upto fnPartMostSpec)

/-- 'laws.FnPartFirst', WHERE WHAT IT READS IS OF BULK AT MOST 1048576: true; the input reads as it did. -/
def fnPartFirstUptoRow : OpenClaim := { program := "ytiadnbdefcimiaa", sum := "4cc2af3215e875b96ad72298f9ac3165da08ddbb5fa338bd135378d9c3d06a7a", func := "loop.example/closingsticks/laws.FnPartFirst", spec := "fnPartFirst", unfollowed := true, recurses := true, apart := false, narrowed := true }
def FnPartFirstUptoSaid : Prop := fnPartFirstUptoRow.holds Try.pinned (OpenSpec.upto fnPartFirstSpec)

/-- 'laws.FnPartIs', WHERE WHAT IT READS IS OF BULK AT MOST 1048576: true; the input reads as it did. -/
def fnPartIsUptoRow : OpenClaim := { program := "ytiadnbdefcimiaa", sum := "4cc2af3215e875b96ad72298f9ac3165da08ddbb5fa338bd135378d9c3d06a7a", func := "loop.example/closingsticks/laws.FnPartIs", spec := "fnPartIs", unfollowed := true, recurses := true, apart := false, narrowed := true }
def FnPartIsUptoSaid : Prop := fnPartIsUptoRow.holds Try.pinned (OpenSpec.upto fnPartIsSpec)

/-- 'laws.FnPartRound', WHERE WHAT IT READS IS OF BULK AT MOST 1048576: true; the input reads as it did. -/
def fnPartRoundUptoRow : OpenClaim := { program := "ytiadnbdefcimiaa", sum := "4cc2af3215e875b96ad72298f9ac3165da08ddbb5fa338bd135378d9c3d06a7a", func := "loop.example/closingsticks/laws.FnPartRound", spec := "fnPartRound", unfollowed := true, recurses := true, apart := false, narrowed := true }
def FnPartRoundUptoSaid : Prop := fnPartRoundUptoRow.holds Try.pinned (OpenSpec.upto fnPartRoundSpec)

/-- 'laws.FnPartEqual', WHERE WHAT IT READS IS OF BULK AT MOST 1048576: true; the input reads as it did. -/
def fnPartEqualUptoRow : OpenClaim := { program := "ytiadnbdefcimiaa", sum := "4cc2af3215e875b96ad72298f9ac3165da08ddbb5fa338bd135378d9c3d06a7a", func := "loop.example/closingsticks/laws.FnPartEqual", spec := "fnPartEqual", unfollowed := true, recurses := true, apart := false, narrowed := true }
def FnPartEqualUptoSaid : Prop := fnPartEqualUptoRow.holds Try.pinned (OpenSpec.upto fnPartEqualSpec)

/-- 'laws.FnExactPartMay', WHERE WHAT IT READS IS OF BULK AT MOST 1048576: true; the input reads as it did. -/
def fnExactPartMayUptoRow : OpenClaim := { program := "ytiadnbdefcimiaa", sum := "4cc2af3215e875b96ad72298f9ac3165da08ddbb5fa338bd135378d9c3d06a7a", func := "loop.example/closingsticks/laws.FnExactPartMay", spec := "fnExactPartMay", unfollowed := true, recurses := true, apart := false, narrowed := true }
def FnExactPartMayUptoSaid : Prop := fnExactPartMayUptoRow.holds Try.pinned (OpenSpec.upto fnExactPartMaySpec)

/-- 'laws.FnExactPartWays', WHERE WHAT IT READS IS OF BULK AT MOST 1048576: true; the input reads as it did. -/
def fnExactPartWaysUptoRow : OpenClaim := { program := "ytiadnbdefcimiaa", sum := "4cc2af3215e875b96ad72298f9ac3165da08ddbb5fa338bd135378d9c3d06a7a", func := "loop.example/closingsticks/laws.FnExactPartWays", spec := "fnExactPartWays", unfollowed := true, recurses := true, apart := false, narrowed := true }
def FnExactPartWaysUptoSaid : Prop := fnExactPartWaysUptoRow.holds Try.pinned (OpenSpec.upto fnExactPartWaysSpec)

/-- 'laws.FnExactPartFirst', WHERE WHAT IT READS IS OF BULK AT MOST 1048576: true; the input reads as it did. -/
def fnExactPartFirstUptoRow : OpenClaim := { program := "ytiadnbdefcimiaa", sum := "4cc2af3215e875b96ad72298f9ac3165da08ddbb5fa338bd135378d9c3d06a7a", func := "loop.example/closingsticks/laws.FnExactPartFirst", spec := "fnExactPartFirst", unfollowed := true, recurses := true, apart := false, narrowed := true }
def FnExactPartFirstUptoSaid : Prop := fnExactPartFirstUptoRow.holds Try.pinned (OpenSpec.upto fnExactPartFirstSpec)

/-- 'laws.FnExactPartIs', WHERE WHAT IT READS IS OF BULK AT MOST 1048576: true; the input reads as it did. -/
def fnExactPartIsUptoRow : OpenClaim := { program := "ytiadnbdefcimiaa", sum := "4cc2af3215e875b96ad72298f9ac3165da08ddbb5fa338bd135378d9c3d06a7a", func := "loop.example/closingsticks/laws.FnExactPartIs", spec := "fnExactPartIs", apart := false, narrowed := true }
def FnExactPartIsUptoSaid : Prop := fnExactPartIsUptoRow.holds Try.pinned (OpenSpec.upto fnExactPartIsSpec)

/-- 'laws.FnExactPartRound', WHERE WHAT IT READS IS OF BULK AT MOST 1048576: true; the input reads as it did. -/
def fnExactPartRoundUptoRow : OpenClaim := { program := "ytiadnbdefcimiaa", sum := "4cc2af3215e875b96ad72298f9ac3165da08ddbb5fa338bd135378d9c3d06a7a", func := "loop.example/closingsticks/laws.FnExactPartRound", spec := "fnExactPartRound", unfollowed := true, recurses := true, apart := false, narrowed := true }
def FnExactPartRoundUptoSaid : Prop := fnExactPartRoundUptoRow.holds Try.pinned (OpenSpec.upto fnExactPartRoundSpec)

/-- 'laws.FnExactPartEqual', WHERE WHAT IT READS IS OF BULK AT MOST 1048576: true; the input reads as it did. -/
def fnExactPartEqualUptoRow : OpenClaim := { program := "ytiadnbdefcimiaa", sum := "4cc2af3215e875b96ad72298f9ac3165da08ddbb5fa338bd135378d9c3d06a7a", func := "loop.example/closingsticks/laws.FnExactPartEqual", spec := "fnExactPartEqual", unfollowed := true, recurses := true, apart := false, narrowed := true }
def FnExactPartEqualUptoSaid : Prop := fnExactPartEqualUptoRow.holds Try.pinned (OpenSpec.upto fnExactPartEqualSpec)

end Rows
end Go.Proofs.Ytiadnbdefcimiaa
