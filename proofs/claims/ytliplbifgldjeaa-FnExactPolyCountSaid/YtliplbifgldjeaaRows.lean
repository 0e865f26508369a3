/-
  No cell of these rows narrows 'for every input' (looked for: loops, veiled, ifaces, maps, wideKeys, modest, calm, conditions, laid).
  DERIVED. THE GIVEN ROWS OF THIS SEAT. 18 by the template 'for every input the law returns true; each argument reads behind the call as it read before'; 0 by the template 'total and deterministic' (their statements: YtliplbifgldjeaaTotals.lean).
  GIVEN WITH THE SEED: the statements are not yours to turn. If you find one false, say at which input.
  Laid BY PROGRAM, IN A SANDBOX (cutbox-rows.mjs): the forced cells as the released guide's own fill.sh prints them over the translation a15e0616daef6f46… (all of the seat's roots in one cut). By AI agents, Wed Nov 11 2026. No macro, syntax, notation, axiom, sorry.
-/
import Derived.Test.YtliplbifgldjeaaChecked
import GoSem.Claim
import GoSem.ClaimJoined
import GoSem.ClaimMapViews
import Derived.JoinedTies
import Derived.KernelRfl
namespace Go.Proofs.Ytliplbifgldjeaa
/- THE CELL 'sum', in the pinned program and in every row, IS THE sha256 OF THE DUMP (.gsa) THAT YtliplbifgldjeaaProg.lean LOADS. Nothing in Lean hashes anything: it is a label: what it is worth is what the hold of that sum in a sandbox is worth. -/
noncomputable def Try.pinned : Pinned := { name := "ytliplbifgldjeaa", sum := "a15e0616daef6f46f6c89e225be29e851f51693285d5228449b8287016b2faaf", checked := Try.checked }
namespace Rows
def none {H : Type} : Left H := { results := [], args := [] }

/-- 'laws.FnCloses': WHATEVER THE INPUT: true; the input reads as it did. -/
def fnClosesSpec : ChangeSpec := { name := "fnCloses", fn := fun _ => fun
  | [d] => { results := [.lit (.bool true)], args := [d] }
  | _ => none }
def fnClosesRow : OpenClaim := { program := "ytliplbifgldjeaa", sum := "a15e0616daef6f46f6c89e225be29e851f51693285d5228449b8287016b2faaf", func := "loop.example/closingsticks/laws.FnCloses", spec := "fnCloses", recurses := true, plainKeys := false, apart := false }
def FnClosesSaid : Prop := fnClosesRow.holds Try.pinned (OpenSpec.ofChange fnClosesSpec)

/-- ITS FALSE NEIGHBOUR: 'it returns false'. Refute it at one input. -/
def fnClosesWrong : ChangeSpec := { name := "fnCloses", fn := fun _ => fun
  | [d] => { results := [.lit (.bool false)], args := [d] }
  | _ => none }
def FnClosesWrongFalsely : Prop := fnClosesRow.holds Try.pinned (OpenSpec.ofChange fnClosesWrong)

/-- 'laws.FnGap': WHATEVER THE INPUT: true; the input reads as it did. -/
def fnGapSpec : ChangeSpec := { name := "fnGap", fn := fun _ => fun
  | [d] => { results := [.lit (.bool true)], args := [d] }
  | _ => none }
def fnGapRow : OpenClaim := { program := "ytliplbifgldjeaa", sum := "a15e0616daef6f46f6c89e225be29e851f51693285d5228449b8287016b2faaf", func := "loop.example/closingsticks/laws.FnGap", spec := "fnGap", plainKeys := false, apart := false }
def FnGapSaid : Prop := fnGapRow.holds Try.pinned (OpenSpec.ofChange fnGapSpec)

/-- ITS FALSE NEIGHBOUR: 'it returns false'. Refute it at one input. -/
def fnGapWrong : ChangeSpec := { name := "fnGap", fn := fun _ => fun
  | [d] => { results := [.lit (.bool false)], args := [d] }
  | _ => none }
def FnGapWrongFalsely : Prop := fnGapRow.holds Try.pinned (OpenSpec.ofChange fnGapWrong)

/-- 'laws.FnPolyCount': WHATEVER THE INPUT: true; the input reads as it did. -/
def fnPolyCountSpec : ChangeSpec := { name := "fnPolyCount", fn := fun _ => fun
  | [d] => { results := [.lit (.bool true)], args := [d] }
  | _ => none }
def fnPolyCountRow : OpenClaim := { program := "ytliplbifgldjeaa", sum := "a15e0616daef6f46f6c89e225be29e851f51693285d5228449b8287016b2faaf", func := "loop.example/closingsticks/laws.FnPolyCount", spec := "fnPolyCount", unfollowed := true, recurses := true, plainKeys := false, apart := false }
def FnPolyCountSaid : Prop := fnPolyCountRow.holds Try.pinned (OpenSpec.ofChange fnPolyCountSpec)

/-- ITS FALSE NEIGHBOUR: 'it returns false'. Refute it at one input. -/
def fnPolyCountWrong : ChangeSpec := { name := "fnPolyCount", fn := fun _ => fun
  | [d] => { results := [.lit (.bool false)], args := [d] }
  | _ => none }
def FnPolyCountWrongFalsely : Prop := fnPolyCountRow.holds Try.pinned (OpenSpec.ofChange fnPolyCountWrong)

/-- 'laws.FnPolyRest': WHATEVER THE INPUT: true; the input reads as it did. -/
def fnPolyRestSpec : ChangeSpec := { name := "fnPolyRest", fn := fun _ => fun
  | [d] => { results := [.lit (.bool true)], args := [d] }
  | _ => none }
def fnPolyRestRow : OpenClaim := { program := "ytliplbifgldjeaa", sum := "a15e0616daef6f46f6c89e225be29e851f51693285d5228449b8287016b2faaf", func := "loop.example/closingsticks/laws.FnPolyRest", spec := "fnPolyRest", recurses := true, plainKeys := false, apart := false }
def FnPolyRestSaid : Prop := fnPolyRestRow.holds Try.pinned (OpenSpec.ofChange fnPolyRestSpec)

/-- ITS FALSE NEIGHBOUR: 'it returns false'. Refute it at one input. -/
def fnPolyRestWrong : ChangeSpec := { name := "fnPolyRest", fn := fun _ => fun
  | [d] => { results := [.lit (.bool false)], args := [d] }
  | _ => none }
def FnPolyRestWrongFalsely : Prop := fnPolyRestRow.holds Try.pinned (OpenSpec.ofChange fnPolyRestWrong)

/-- 'laws.FnPolyFirst': WHATEVER THE INPUT: true; the input reads as it did. -/
def fnPolyFirstSpec : ChangeSpec := { name := "fnPolyFirst", fn := fun _ => fun
  | [d] => { results := [.lit (.bool true)], args := [d] }
  | _ => none }
def fnPolyFirstRow : OpenClaim := { program := "ytliplbifgldjeaa", sum := "a15e0616daef6f46f6c89e225be29e851f51693285d5228449b8287016b2faaf", func := "loop.example/closingsticks/laws.FnPolyFirst", spec := "fnPolyFirst", unfollowed := true, recurses := true, plainKeys := false, apart := false }
def FnPolyFirstSaid : Prop := fnPolyFirstRow.holds Try.pinned (OpenSpec.ofChange fnPolyFirstSpec)

/-- ITS FALSE NEIGHBOUR: 'it returns false'. Refute it at one input. -/
def fnPolyFirstWrong : ChangeSpec := { name := "fnPolyFirst", fn := fun _ => fun
  | [d] => { results := [.lit (.bool false)], args := [d] }
  | _ => none }
def FnPolyFirstWrongFalsely : Prop := fnPolyFirstRow.holds Try.pinned (OpenSpec.ofChange fnPolyFirstWrong)

/-- 'laws.FnPolyShares': WHATEVER THE INPUT: true; the input reads as it did. -/
def fnPolySharesSpec : ChangeSpec := { name := "fnPolyShares", fn := fun _ => fun
  | [d] => { results := [.lit (.bool true)], args := [d] }
  | _ => none }
def fnPolySharesRow : OpenClaim := { program := "ytliplbifgldjeaa", sum := "a15e0616daef6f46f6c89e225be29e851f51693285d5228449b8287016b2faaf", func := "loop.example/closingsticks/laws.FnPolyShares", spec := "fnPolyShares", recurses := true, plainKeys := false, apart := false }
def FnPolySharesSaid : Prop := fnPolySharesRow.holds Try.pinned (OpenSpec.ofChange fnPolySharesSpec)

/-- ITS FALSE NEIGHBOUR: 'it returns false'. Refute it at one input. -/
def fnPolySharesWrong : ChangeSpec := { name := "fnPolyShares", fn := fun _ => fun
  | [d] => { results := [.lit (.bool false)], args := [d] }
  | _ => none }
def FnPolySharesWrongFalsely : Prop := fnPolySharesRow.holds Try.pinned (OpenSpec.ofChange fnPolySharesWrong)

/-- 'laws.FnPolyMost': WHATEVER THE INPUT: true; the input reads as it did. -/
def fnPolyMostSpec : ChangeSpec := { name := "fnPolyMost", fn := fun _ => fun
  | [d] => { results := [.lit (.bool true)], args := [d] }
  | _ => none }
def fnPolyMostRow : OpenClaim := { program := "ytliplbifgldjeaa", sum := "a15e0616daef6f46f6c89e225be29e851f51693285d5228449b8287016b2faaf", func := "loop.example/closingsticks/laws.FnPolyMost", spec := "fnPolyMost", unfollowed := true, recurses := true, plainKeys := false, apart := false }
def FnPolyMostSaid : Prop := fnPolyMostRow.holds Try.pinned (OpenSpec.ofChange fnPolyMostSpec)

/-- ITS FALSE NEIGHBOUR: 'it returns false'. Refute it at one input. -/
def fnPolyMostWrong : ChangeSpec := { name := "fnPolyMost", fn := fun _ => fun
  | [d] => { results := [.lit (.bool false)], args := [d] }
  | _ => none }
def FnPolyMostWrongFalsely : Prop := fnPolyMostRow.holds Try.pinned (OpenSpec.ofChange fnPolyMostWrong)

/-- 'laws.FnPolyParts': WHATEVER THE INPUT: true; the input reads as it did. -/
def fnPolyPartsSpec : ChangeSpec := { name := "fnPolyParts", fn := fun _ => fun
  | [d] => { results := [.lit (.bool true)], args := [d] }
  | _ => none }
def fnPolyPartsRow : OpenClaim := { program := "ytliplbifgldjeaa", sum := "a15e0616daef6f46f6c89e225be29e851f51693285d5228449b8287016b2faaf", func := "loop.example/closingsticks/laws.FnPolyParts", spec := "fnPolyParts", plainKeys := false, apart := false }
def FnPolyPartsSaid : Prop := fnPolyPartsRow.holds Try.pinned (OpenSpec.ofChange fnPolyPartsSpec)

/-- ITS FALSE NEIGHBOUR: 'it returns false'. Refute it at one input. -/
def fnPolyPartsWrong : ChangeSpec := { name := "fnPolyParts", fn := fun _ => fun
  | [d] => { results := [.lit (.bool false)], args := [d] }
  | _ => none }
def FnPolyPartsWrongFalsely : Prop := fnPolyPartsRow.holds Try.pinned (OpenSpec.ofChange fnPolyPartsWrong)

/-- 'laws.FnPolyFix': WHATEVER THE INPUT: true; the input reads as it did. -/
def fnPolyFixSpec : ChangeSpec := { name := "fnPolyFix", fn := fun _ => fun
  | [d] => { results := [.lit (.bool true)], args := [d] }
  | _ => none }
def fnPolyFixRow : OpenClaim := { program := "ytliplbifgldjeaa", sum := "a15e0616daef6f46f6c89e225be29e851f51693285d5228449b8287016b2faaf", func := "loop.example/closingsticks/laws.FnPolyFix", spec := "fnPolyFix", recurses := true, plainKeys := false, apart := false }
def FnPolyFixSaid : Prop := fnPolyFixRow.holds Try.pinned (OpenSpec.ofChange fnPolyFixSpec)

/-- ITS FALSE NEIGHBOUR: 'it returns false'. Refute it at one input. -/
def fnPolyFixWrong : ChangeSpec := { name := "fnPolyFix", fn := fun _ => fun
  | [d] => { results := [.lit (.bool false)], args := [d] }
  | _ => none }
def FnPolyFixWrongFalsely : Prop := fnPolyFixRow.holds Try.pinned (OpenSpec.ofChange fnPolyFixWrong)

/-- 'laws.FnExactPolyCloses': WHATEVER THE INPUT: true; the input reads as it did. -/
def fnExactPolyClosesSpec : ChangeSpec := { name := "fnExactPolyCloses", fn := fun _ => fun
  | [d] => { results := [.lit (.bool true)], args := [d] }
  | _ => none }
def fnExactPolyClosesRow : OpenClaim := { program := "ytliplbifgldjeaa", sum := "a15e0616daef6f46f6c89e225be29e851f51693285d5228449b8287016b2faaf", func := "loop.example/closingsticks/laws.FnExactPolyCloses", spec := "fnExactPolyCloses", plainKeys := false, apart := false }
def FnExactPolyClosesSaid : Prop := fnExactPolyClosesRow.holds Try.pinned (OpenSpec.ofChange fnExactPolyClosesSpec)

/-- ITS FALSE NEIGHBOUR: 'it returns false'. Refute it at one input. -/
def fnExactPolyClosesWrong : ChangeSpec := { name := "fnExactPolyCloses", fn := fun _ => fun
  | [d] => { results := [.lit (.bool false)], args := [d] }
  | _ => none }
def FnExactPolyClosesWrongFalsely : Prop := fnExactPolyClosesRow.holds Try.pinned (OpenSpec.ofChange fnExactPolyClosesWrong)

/-- 'laws.FnExactPolyGap': WHATEVER THE INPUT: true; the input reads as it did. -/
def fnExactPolyGapSpec : ChangeSpec := { name := "fnExactPolyGap", fn := fun _ => fun
  | [d] => { results := [.lit (.bool true)], args := [d] }
  | _ => none }
def fnExactPolyGapRow : OpenClaim := { program := "ytliplbifgldjeaa", sum := "a15e0616daef6f46f6c89e225be29e851f51693285d5228449b8287016b2faaf", func := "loop.example/closingsticks/laws.FnExactPolyGap", spec := "fnExactPolyGap", plainKeys := false, apart := false }
def FnExactPolyGapSaid : Prop := fnExactPolyGapRow.holds Try.pinned (OpenSpec.ofChange fnExactPolyGapSpec)

/-- ITS FALSE NEIGHBOUR: 'it returns false'. Refute it at one input. -/
def fnExactPolyGapWrong : ChangeSpec := { name := "fnExactPolyGap", fn := fun _ => fun
  | [d] => { results := [.lit (.bool false)], args := [d] }
  | _ => none }
def FnExactPolyGapWrongFalsely : Prop := fnExactPolyGapRow.holds Try.pinned (OpenSpec.ofChange fnExactPolyGapWrong)

/-- 'laws.FnExactPolyCount': WHATEVER THE INPUT: true; the input reads as it did. -/
def fnExactPolyCountSpec : ChangeSpec := { name := "fnExactPolyCount", fn := fun _ => fun
  | [d1, d2] => { results := [.lit (.bool true)], args := [d1, d2] }
  | _ => none }
def fnExactPolyCountRow : OpenClaim := { program := "ytliplbifgldjeaa", sum := "a15e0616daef6f46f6c89e225be29e851f51693285d5228449b8287016b2faaf", func := "loop.example/closingsticks/laws.FnExactPolyCount", spec := "fnExactPolyCount", unfollowed := true, recurses := true, plainKeys := false, apart := false }
def FnExactPolyCountSaid : Prop := fnExactPolyCountRow.holds Try.pinned (OpenSpec.ofChange fnExactPolyCountSpec)

/-- ITS FALSE NEIGHBOUR: 'it returns false'. Refute it at one input. -/
def fnExactPolyCountWrong : ChangeSpec := { name := "fnExactPolyCount", fn := fun _ => fun
  | [d1, d2] => { results := [.lit (.bool false)], args := [d1, d2] }
  | _ => none }
def FnExactPolyCountWrongFalsely : Prop := fnExactPolyCountRow.holds Try.pinned (OpenSpec.ofChange fnExactPolyCountWrong)

/-- 'laws.FnExactPolyRest': WHATEVER THE INPUT: true; the input reads as it did. -/
def fnExactPolyRestSpec : ChangeSpec := { name := "fnExactPolyRest", fn := fun _ => fun
  | [d1, d2] => { results := [.lit (.bool true)], args := [d1, d2] }
  | _ => none }
def fnExactPolyRestRow : OpenClaim := { program := "ytliplbifgldjeaa", sum := "a15e0616daef6f46f6c89e225be29e851f51693285d5228449b8287016b2faaf", func := "loop.example/closingsticks/laws.FnExactPolyRest", spec := "fnExactPolyRest", recurses := true, plainKeys := false, apart := false }
def FnExactPolyRestSaid : Prop := fnExactPolyRestRow.holds Try.pinned (OpenSpec.ofChange fnExactPolyRestSpec)

/-- ITS FALSE NEIGHBOUR: 'it returns false'. Refute it at one input. -/
def fnExactPolyRestWrong : ChangeSpec := { name := "fnExactPolyRest", fn := fun _ => fun
  | [d1, d2] => { results := [.lit (.bool false)], args := [d1, d2] }
  | _ => none }
def FnExactPolyRestWrongFalsely : Prop := fnExactPolyRestRow.holds Try.pinned (OpenSpec.ofChange fnExactPolyRestWrong)

/-- 'laws.FnExactPolyShares': WHATEVER THE INPUT: true; the input reads as it did. -/
def fnExactPolySharesSpec : ChangeSpec := { name := "fnExactPolyShares", fn := fun _ => fun
  | [d1, d2] => { results := [.lit (.bool true)], args := [d1, d2] }
  | _ => none }
def fnExactPolySharesRow : OpenClaim := { program := "ytliplbifgldjeaa", sum := "a15e0616daef6f46f6c89e225be29e851f51693285d5228449b8287016b2faaf", func := "loop.example/closingsticks/laws.FnExactPolyShares", spec := "fnExactPolyShares", recurses := true, plainKeys := false, apart := false }
def FnExactPolySharesSaid : Prop := fnExactPolySharesRow.holds Try.pinned (OpenSpec.ofChange fnExactPolySharesSpec)

/-- ITS FALSE NEIGHBOUR: 'it returns false'. Refute it at one input. -/
def fnExactPolySharesWrong : ChangeSpec := { name := "fnExactPolyShares", fn := fun _ => fun
  | [d1, d2] => { results := [.lit (.bool false)], args := [d1, d2] }
  | _ => none }
def FnExactPolySharesWrongFalsely : Prop := fnExactPolySharesRow.holds Try.pinned (OpenSpec.ofChange fnExactPolySharesWrong)

/-- 'laws.FnExactPolyFirst': WHATEVER THE INPUT: true; the input reads as it did. -/
def fnExactPolyFirstSpec : ChangeSpec := { name := "fnExactPolyFirst", fn := fun _ => fun
  | [d1, d2] => { results := [.lit (.bool true)], args := [d1, d2] }
  | _ => none }
def fnExactPolyFirstRow : OpenClaim := { program := "ytliplbifgldjeaa", sum := "a15e0616daef6f46f6c89e225be29e851f51693285d5228449b8287016b2faaf", func := "loop.example/closingsticks/laws.FnExactPolyFirst", spec := "fnExactPolyFirst", recurses := true, plainKeys := false, apart := false }
def FnExactPolyFirstSaid : Prop := fnExactPolyFirstRow.holds Try.pinned (OpenSpec.ofChange fnExactPolyFirstSpec)

/-- ITS FALSE NEIGHBOUR: 'it returns false'. Refute it at one input. -/
def fnExactPolyFirstWrong : ChangeSpec := { name := "fnExactPolyFirst", fn := fun _ => fun
  | [d1, d2] => { results := [.lit (.bool false)], args := [d1, d2] }
  | _ => none }
def FnExactPolyFirstWrongFalsely : Prop := fnExactPolyFirstRow.holds Try.pinned (OpenSpec.ofChange fnExactPolyFirstWrong)

/-- 'laws.FnExactPolyMost': WHATEVER THE INPUT: true; the input reads as it did. -/
def fnExactPolyMostSpec : ChangeSpec := { name := "fnExactPolyMost", fn := fun _ => fun
  | [d] => { results := [.lit (.bool true)], args := [d] }
  | _ => none }
def fnExactPolyMostRow : OpenClaim := { program := "ytliplbifgldjeaa", sum := "a15e0616daef6f46f6c89e225be29e851f51693285d5228449b8287016b2faaf", func := "loop.example/closingsticks/laws.FnExactPolyMost", spec := "fnExactPolyMost", plainKeys := false, apart := false }
def FnExactPolyMostSaid : Prop := fnExactPolyMostRow.holds Try.pinned (OpenSpec.ofChange fnExactPolyMostSpec)

/-- ITS FALSE NEIGHBOUR: 'it returns false'. Refute it at one input. -/
def fnExactPolyMostWrong : ChangeSpec := { name := "fnExactPolyMost", fn := fun _ => fun
  | [d] => { results := [.lit (.bool false)], args := [d] }
  | _ => none }
def FnExactPolyMostWrongFalsely : Prop := fnExactPolyMostRow.holds Try.pinned (OpenSpec.ofChange fnExactPolyMostWrong)

/-- 'laws.FnExactPolyParts': WHATEVER THE INPUT: true; the input reads as it did. -/
def fnExactPolyPartsSpec : ChangeSpec := { name := "fnExactPolyParts", fn := fun _ => fun
  | [d] => { results := [.lit (.bool true)], args := [d] }
  | _ => none }
def fnExactPolyPartsRow : OpenClaim := { program := "ytliplbifgldjeaa", sum := "a15e0616daef6f46f6c89e225be29e851f51693285d5228449b8287016b2faaf", func := "loop.example/closingsticks/laws.FnExactPolyParts", spec := "fnExactPolyParts", plainKeys := false, apart := false }
def FnExactPolyPartsSaid : Prop := fnExactPolyPartsRow.holds Try.pinned (OpenSpec.ofChange fnExactPolyPartsSpec)

/-- ITS FALSE NEIGHBOUR: 'it returns false'. Refute it at one input. -/
def fnExactPolyPartsWrong : ChangeSpec := { name := "fnExactPolyParts", fn := fun _ => fun
  | [d] => { results := [.lit (.bool false)], args := [d] }
  | _ => none }
def FnExactPolyPartsWrongFalsely : Prop := fnExactPolyPartsRow.holds Try.pinned (OpenSpec.ofChange fnExactPolyPartsWrong)

/-- 'laws.FnExactPolyFix': WHATEVER THE INPUT: true; the input reads as it did. -/
def fnExactPolyFixSpec : ChangeSpec := { name := "fnExactPolyFix", fn := fun _ => fun
  | [d] => { results := [.lit (.bool true)], args := [d] }
  | _ => none }
def fnExactPolyFixRow : OpenClaim := { program := "ytliplbifgldjeaa", sum := "a15e0616daef6f46f6c89e225be29e851f51693285d5228449b8287016b2faaf", func := "loop.example/closingsticks/laws.FnExactPolyFix", spec := "fnExactPolyFix", plainKeys := false, apart := false }
def FnExactPolyFixSaid : Prop := fnExactPolyFixRow.holds Try.pinned (OpenSpec.ofChange fnExactPolyFixSpec)

/-- ITS FALSE NEIGHBOUR: 'it returns false'. Refute it at one input. -/
def fnExactPolyFixWrong : ChangeSpec := { name := "fnExactPolyFix", fn := fun _ => fun
  | [d] => { results := [.lit (.bool false)], args := [d] }
  | _ => none }
def FnExactPolyFixWrongFalsely : Prop := fnExactPolyFixRow.holds Try.pinned (OpenSpec.ofChange fnExactPolyFixWrong)

/- THE SECOND FORM. 'bulk': how many values and letters a reading holds, each counted each time it is reached (what is shared counts as often as it is met; a slice's spare places count too). A statement '..UptoSaid' is the law's where the arguments, and the package variables that the reading takes, are together of bulk at most 1048576: NARROWER than '..Said'. Prove '..Said' where nothing that the law and all that it calls make is longer than what came in: it says more and counts as full. Else prove '..UptoSaid'. A law counts once. -/
mutual
def uptoBulk {H : Type} : DataW H → Nat
  | .lit (.string bytes) => bytes.length + 1
  | .lit _ => 1
  | .nil => 1
  | .ptr d => uptoBulk d + 1
  | .slice elems spare => uptoBulkAll elems + uptoBulkAll spare + 1
  | .agg parts => uptoBulkAll parts + 1
  | .iface _ d => uptoBulk d + 1
  | .map entries => uptoBulkEntries entries + 1
  | .held _ => 1
def uptoBulkAll {H : Type} : List (DataW H) → Nat
  | [] => 0
  | d :: r => uptoBulk d + uptoBulkAll r
def uptoBulkEntries {H : Type} : List (Lit × DataW H) → Nat
  | [] => 0
  | x :: r => uptoBulkEntry x + uptoBulkEntries r
def uptoBulkEntry {H : Type} : Lit × DataW H → Nat
  | (.string bytes, d) => bytes.length + uptoBulk d + 1
  | (_, d) => uptoBulk d + 1
 end
def uptoSmall : (H : Type) → List (DataW H) → Bool := fun _ ds => decide (uptoBulkAll ds ≤ 1048576)
def OpenSpec.upto (s : _root_.Go.ChangeSpec) : _root_.Go.OpenSpec := { _root_.Go.OpenSpec.ofChange s with cond := some uptoSmall }

/-- 'laws.FnCloses', WHERE WHAT IT READS IS OF BULK AT MOST 1048576: true; the input reads as it did. -/
def fnClosesUptoRow : OpenClaim := { program := "ytliplbifgldjeaa", sum := "a15e0616daef6f46f6c89e225be29e851f51693285d5228449b8287016b2faaf", func := "loop.example/closingsticks/laws.FnCloses", spec := "fnCloses", recurses := true, plainKeys := false, apart := false, narrowed := true }
def FnClosesUptoSaid : Prop := fnClosesUptoRow.holds Try.pinned (OpenSpec.upto fnClosesSpec)

/-- 'laws.FnGap', WHERE WHAT IT READS IS OF BULK AT MOST 1048576: true; the input reads as it did. -/
def fnGapUptoRow : OpenClaim := { program := "ytliplbifgldjeaa", sum := "a15e0616daef6f46f6c89e225be29e851f51693285d5228449b8287016b2faaf", func := "loop.example/closingsticks/laws.FnGap", spec := "fnGap", plainKeys := false, apart := false, narrowed := true }
def FnGapUptoSaid : Prop := fnGapUptoRow.holds Try.pinned (OpenSpec.upto fnGapSpec)

/-- 'laws.FnPolyCount', WHERE WHAT IT READS IS OF BULK AT MOST 1048576: true; the input reads as it did. -/
def fnPolyCountUptoRow : OpenClaim := { program := "ytliplbifgldjeaa", sum := "a15e0616daef6f46f6c89e225be29e851f51693285d5228449b8287016b2faaf", func := "loop.example/closingsticks/laws.FnPolyCount", spec := "fnPolyCount", unfollowed := true, recurses := true, plainKeys := false, apart := false, narrowed := true }
def FnPolyCountUptoSaid : Prop := fnPolyCountUptoRow.holds Try.pinned (OpenSpec.upto fnPolyCountSpec)

/-- 'laws.FnPolyRest', WHERE WHAT IT READS IS OF BULK AT MOST 1048576: true; the input reads as it did. -/
def fnPolyRestUptoRow : OpenClaim := { program := "ytliplbifgldjeaa", sum := "a15e0616daef6f46f6c89e225be29e851f51693285d5228449b8287016b2faaf", func := "loop.example/closingsticks/laws.FnPolyRest", spec := "fnPolyRest", recurses := true, plainKeys := false, apart := false, narrowed := true }
def FnPolyRestUptoSaid : Prop := fnPolyRestUptoRow.holds Try.pinned (OpenSpec.upto fnPolyRestSpec)

/-- 'laws.FnPolyFirst', WHERE WHAT IT READS IS OF BULK AT MOST 1048576: true; the input reads as it did. -/
def fnPolyFirstUptoRow : OpenClaim := { program := "ytliplbifgldjeaa", sum := "a15e0616daef6f46f6c89e225be29e851f51693285d5228449b8287016b2faaf", func := "loop.example/closingsticks/laws.FnPolyFirst", spec := "fnPolyFirst", unfollowed := true, recurses := true, plainKeys := false, apart := false, narrowed := true }
def FnPolyFirstUptoSaid : Prop := fnPolyFirstUptoRow.holds Try.pinned (OpenSpec.upto fnPolyFirstSpec)

/-- 'laws.FnPolyShares', WHERE WHAT IT READS IS OF BULK AT MOST 1048576: true; the input reads as it did. -/
def fnPolySharesUptoRow : OpenClaim := { program := "ytliplbifgldjeaa", sum := "a15e0616daef6f46f6c89e225be29e851f51693285d5228449b8287016b2faaf", func := "loop.example/closingsticks/laws.FnPolyShares", spec := "fnPolyShares", recurses := true, plainKeys := false, apart := false, narrowed := true }
def FnPolySharesUptoSaid : Prop := fnPolySharesUptoRow.holds Try.pinned (OpenSpec.upto fnPolySharesSpec)

/-- 'laws.FnPolyMost', WHERE WHAT IT READS IS OF BULK AT MOST 1048576: true; the input reads as it did. -/
def fnPolyMostUptoRow : OpenClaim := { program := "ytliplbifgldjeaa", sum := "a15e0616daef6f46f6c89e225be29e851f51693285d5228449b8287016b2faaf", func := "loop.example/closingsticks/laws.FnPolyMost", spec := "fnPolyMost", unfollowed := true, recurses := true, plainKeys := false, apart := false, narrowed := true }
def FnPolyMostUptoSaid : Prop := fnPolyMostUptoRow.holds Try.pinned (OpenSpec.upto fnPolyMostSpec)

/-- 'laws.FnPolyParts', WHERE WHAT IT READS IS OF BULK AT MOST 1048576: true; the input reads as it did. -/
def fnPolyPartsUptoRow : OpenClaim := { program := "ytliplbifgldjeaa", sum := "a15e0616daef6f46f6c89e225be29e851f51693285d5228449b8287016b2faaf", func := "loop.example/closingsticks/laws.FnPolyParts", spec := "fnPolyParts", plainKeys := false, apart := false, narrowed := true }
def FnPolyPartsUptoSaid : Prop := fnPolyPartsUptoRow.holds Try.pinned (OpenSpec.upto fnPolyPartsSpec)

/-- 'laws.FnPolyFix', WHERE WHAT IT READS IS OF BULK AT MOST 1048576: true; the input reads as it did. -/
def fnPolyFixUptoRow : OpenClaim := { program := "ytliplbifgldjeaa", sum := "a15e0616daef6f46f6c89e225be29e851f51693285d5228449b8287016b2faaf", func := "loop.example/closingsticks/laws.FnPolyFix", spec := "fnPolyFix", recurses := true, plainKeys := false, apart := false, narrowed := true }
def FnPolyFixUptoSaid : Prop := fnPolyFixUptoRow.holds Try.pinned (OpenSpec.upto fnPolyFixSpec)

/-- 'laws.FnExactPolyCloses', WHERE WHAT IT READS IS OF BULK AT MOST 1048576: true; the input reads as it did. -/
def fnExactPolyClosesUptoRow : OpenClaim := { program := "ytliplbifgldjeaa", sum := "a15e0616daef6f46f6c89e225be29e851f51693285d5228449b8287016b2faaf", func := "loop.example/closingsticks/laws.FnExactPolyCloses", spec := "fnExactPolyCloses", plainKeys := false, apart := false, narrowed := true }
def FnExactPolyClosesUptoSaid : Prop := fnExactPolyClosesUptoRow.holds Try.pinned (OpenSpec.upto fnExactPolyClosesSpec)

/-- 'laws.FnExactPolyGap', WHERE WHAT IT READS IS OF BULK AT MOST 1048576: true; the input reads as it did. -/
def fnExactPolyGapUptoRow : OpenClaim := { program := "ytliplbifgldjeaa", sum := "a15e0616daef6f46f6c89e225be29e851f51693285d5228449b8287016b2faaf", func := "loop.example/closingsticks/laws.FnExactPolyGap", spec := "fnExactPolyGap", plainKeys := false, apart := false, narrowed := true }
def FnExactPolyGapUptoSaid : Prop := fnExactPolyGapUptoRow.holds Try.pinned (OpenSpec.upto fnExactPolyGapSpec)

/-- 'laws.FnExactPolyCount', WHERE WHAT IT READS IS OF BULK AT MOST 1048576: true; the input reads as it did. -/
def fnExactPolyCountUptoRow : OpenClaim := { program := "ytliplbifgldjeaa", sum := "a15e0616daef6f46f6c89e225be29e851f51693285d5228449b8287016b2faaf", func := "loop.example/closingsticks/laws.FnExactPolyCount", spec := "fnExactPolyCount", unfollowed := true, recurses := true, plainKeys := false, apart := false, narrowed := true }
def FnExactPolyCountUptoSaid : Prop := fnExactPolyCountUptoRow.holds Try.pinned (OpenSpec.upto fnExactPolyCountSpec)

/-- 'laws.FnExactPolyRest', WHERE WHAT IT READS IS OF BULK AT MOST 1048576: true; the input reads as it did. -/
def fnExactPolyRestUptoRow : OpenClaim := { program := "ytliplbifgldjeaa", sum := "a15e0616daef6f46f6c89e225be29e851f51693285d5228449b8287016b2faaf", func := "loop.example/closingsticks/laws.FnExactPolyRest", spec := "fnExactPolyRest", recurses := true, plainKeys := false, apart := false, narrowed := true }
def FnExactPolyRestUptoSaid : Prop := fnExactPolyRestUptoRow.holds Try.pinned (OpenSpec.upto fnExactPolyRestSpec)

/-- 'laws.FnExactPolyShares', WHERE WHAT IT READS IS OF BULK AT MOST 1048576: true; the input reads as it did. -/
def fnExactPolySharesUptoRow : OpenClaim := { program := "ytliplbifgldjeaa", sum := "a15e0616daef6f46f6c89e225be29e851f51693285d5228449b8287016b2faaf", func := "loop.example/closingsticks/laws.FnExactPolyShares", spec := "fnExactPolyShares", recurses := true, plainKeys := false, apart := false, narrowed := true }
def FnExactPolySharesUptoSaid : Prop := fnExactPolySharesUptoRow.holds Try.pinned (OpenSpec.upto fnExactPolySharesSpec)

/-- 'laws.FnExactPolyFirst', WHERE WHAT IT READS IS OF BULK AT MOST 1048576: true; the input reads as it did. -/
def fnExactPolyFirstUptoRow : OpenClaim := { program := "ytliplbifgldjeaa", sum := "a15e0616daef6f46f6c89e225be29e851f51693285d5228449b8287016b2faaf", func := "loop.example/closingsticks/laws.FnExactPolyFirst", spec := "fnExactPolyFirst", recurses := true, plainKeys := false, apart := false, narrowed := true }
def FnExactPolyFirstUptoSaid : Prop := fnExactPolyFirstUptoRow.holds Try.pinned (OpenSpec.upto fnExactPolyFirstSpec)

/-- 'laws.FnExactPolyMost', WHERE WHAT IT READS IS OF BULK AT MOST 1048576: true; the input reads as it did. -/
def fnExactPolyMostUptoRow : OpenClaim := { program := "ytliplbifgldjeaa", sum := "a15e0616daef6f46f6c89e225be29e851f51693285d5228449b8287016b2faaf", func := "loop.example/closingsticks/laws.FnExactPolyMost", spec := "fnExactPolyMost", plainKeys := false, apart := false, narrowed := true }
def FnExactPolyMostUptoSaid : Prop := fnExactPolyMostUptoRow.holds Try.pinned (OpenSpec.upto fnExactPolyMostSpec)

/-- 'laws.FnExactPolyParts', WHERE WHAT IT READS IS OF BULK AT MOST 1048576: true; the input reads as it did. -/
def fnExactPolyPartsUptoRow : OpenClaim := { program := "ytliplbifgldjeaa", sum := "a15e0616daef6f46f6c89e225be29e851f51693285d5228449b8287016b2faaf", func := "loop.example/closingsticks/laws.FnExactPolyParts", spec := "fnExactPolyParts", plainKeys := false, apart := false, narrowed := true }
def FnExactPolyPartsUptoSaid : Prop := fnExactPolyPartsUptoRow.holds Try.pinned (OpenSpec.upto fnExactPolyPartsSpec)

/-- 'laws.FnExactPolyFix', WHERE WHAT IT READS IS OF BULK AT MOST 1048576: true; the input reads as it did. -/
def fnExactPolyFixUptoRow : OpenClaim := { program := "ytliplbifgldjeaa", sum := "a15e0616daef6f46f6c89e225be29e851f51693285d5228449b8287016b2faaf", func := "loop.example/closingsticks/laws.FnExactPolyFix", spec := "fnExactPolyFix", plainKeys := false, apart := false, narrowed := true }
def FnExactPolyFixUptoSaid : Prop := fnExactPolyFixUptoRow.holds Try.pinned (OpenSpec.upto fnExactPolyFixSpec)

end Rows
end Go.Proofs.Ytliplbifgldjeaa
