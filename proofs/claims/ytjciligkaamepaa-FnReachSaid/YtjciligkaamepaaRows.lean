/-
  No cell of these rows narrows 'for every input' (looked for: loops, veiled, ifaces, maps, wideKeys, modest, calm, conditions, laid).
  DERIVED. THE GIVEN ROWS OF THIS SEAT. 15 by the template 'for every input the law returns true; each argument reads behind the call as it read before'; 0 by the template 'total and deterministic' (their statements: YtjciligkaamepaaTotals.lean).
  GIVEN WITH THE SEED: the statements are not yours to turn. If you find one false, say at which input.
  Laid BY PROGRAM, IN A SANDBOX (cutbox-rows.mjs): the forced cells as the released guide's own fill.sh prints them over the translation 49ad0cf6a7025ded… (all of the seat's roots in one cut). By AI agents, Wed Nov 11 2026. No macro, syntax, notation, axiom, sorry.
-/
import Derived.Test.YtjciligkaamepaaChecked
import GoSem.Claim
import GoSem.ClaimJoined
import GoSem.ClaimMapViews
import Derived.JoinedTies
import Derived.KernelRfl
namespace Go.Proofs.Ytjciligkaamepaa
/- THE CELL 'sum', in the pinned program and in every row, IS THE sha256 OF THE DUMP (.gsa) THAT YtjciligkaamepaaProg.lean LOADS. Nothing in Lean hashes anything: it is a label: what it is worth is what the hold of that sum in a sandbox is worth. -/
noncomputable def Try.pinned : Pinned := { name := "ytjciligkaamepaa", sum := "49ad0cf6a7025ded75a69de83df51f037e56ea5ce49777da505f1bde70a4fde1", checked := Try.checked }
namespace Rows
def none {H : Type} : Left H := { results := [], args := [] }

/-- 'laws.FnReach': WHATEVER THE INPUT: true; the input reads as it did. -/
def fnReachSpec : ChangeSpec := { name := "fnReach", fn := fun _ => fun
  | [d] => { results := [.lit (.bool true)], args := [d] }
  | _ => none }
def fnReachRow : OpenClaim := { program := "ytjciligkaamepaa", sum := "49ad0cf6a7025ded75a69de83df51f037e56ea5ce49777da505f1bde70a4fde1", func := "loop.example/closingsticks/laws.FnReach", spec := "fnReach", apart := false }
def FnReachSaid : Prop := fnReachRow.holds Try.pinned (OpenSpec.ofChange fnReachSpec)

/-- ITS FALSE NEIGHBOUR: 'it returns false'. Refute it at one input. -/
def fnReachWrong : ChangeSpec := { name := "fnReach", fn := fun _ => fun
  | [d] => { results := [.lit (.bool false)], args := [d] }
  | _ => none }
def FnReachWrongFalsely : Prop := fnReachRow.holds Try.pinned (OpenSpec.ofChange fnReachWrong)

/-- 'laws.FnStep': WHATEVER THE INPUT: true; the input reads as it did. -/
def fnStepSpec : ChangeSpec := { name := "fnStep", fn := fun _ => fun
  | [d] => { results := [.lit (.bool true)], args := [d] }
  | _ => none }
def fnStepRow : OpenClaim := { program := "ytjciligkaamepaa", sum := "49ad0cf6a7025ded75a69de83df51f037e56ea5ce49777da505f1bde70a4fde1", func := "loop.example/closingsticks/laws.FnStep", spec := "fnStep", apart := false }
def FnStepSaid : Prop := fnStepRow.holds Try.pinned (OpenSpec.ofChange fnStepSpec)

/-- ITS FALSE NEIGHBOUR: 'it returns false'. Refute it at one input. -/
def fnStepWrong : ChangeSpec := { name := "fnStep", fn := fun _ => fun
  | [d] => { results := [.lit (.bool false)], args := [d] }
  | _ => none }
def FnStepWrongFalsely : Prop := fnStepRow.holds Try.pinned (OpenSpec.ofChange fnStepWrong)

/-- 'laws.FnTo': WHATEVER THE INPUT: true; the input reads as it did. -/
def fnToSpec : ChangeSpec := { name := "fnTo", fn := fun _ => fun
  | [d] => { results := [.lit (.bool true)], args := [d] }
  | _ => none }
def fnToRow : OpenClaim := { program := "ytjciligkaamepaa", sum := "49ad0cf6a7025ded75a69de83df51f037e56ea5ce49777da505f1bde70a4fde1", func := "loop.example/closingsticks/laws.FnTo", spec := "fnTo", recurses := true, apart := false }
def FnToSaid : Prop := fnToRow.holds Try.pinned (OpenSpec.ofChange fnToSpec)

/-- ITS FALSE NEIGHBOUR: 'it returns false'. Refute it at one input. -/
def fnToWrong : ChangeSpec := { name := "fnTo", fn := fun _ => fun
  | [d] => { results := [.lit (.bool false)], args := [d] }
  | _ => none }
def FnToWrongFalsely : Prop := fnToRow.holds Try.pinned (OpenSpec.ofChange fnToWrong)

/-- 'laws.FnMeet': WHATEVER THE INPUT: true; the input reads as it did. -/
def fnMeetSpec : ChangeSpec := { name := "fnMeet", fn := fun _ => fun
  | [d] => { results := [.lit (.bool true)], args := [d] }
  | _ => none }
def fnMeetRow : OpenClaim := { program := "ytjciligkaamepaa", sum := "49ad0cf6a7025ded75a69de83df51f037e56ea5ce49777da505f1bde70a4fde1", func := "loop.example/closingsticks/laws.FnMeet", spec := "fnMeet", apart := false }
def FnMeetSaid : Prop := fnMeetRow.holds Try.pinned (OpenSpec.ofChange fnMeetSpec)

/-- ITS FALSE NEIGHBOUR: 'it returns false'. Refute it at one input. -/
def fnMeetWrong : ChangeSpec := { name := "fnMeet", fn := fun _ => fun
  | [d] => { results := [.lit (.bool false)], args := [d] }
  | _ => none }
def FnMeetWrongFalsely : Prop := fnMeetRow.holds Try.pinned (OpenSpec.ofChange fnMeetWrong)

/-- 'laws.FnMeetAll': WHATEVER THE INPUT: true; the input reads as it did. -/
def fnMeetAllSpec : ChangeSpec := { name := "fnMeetAll", fn := fun _ => fun
  | [d] => { results := [.lit (.bool true)], args := [d] }
  | _ => none }
def fnMeetAllRow : OpenClaim := { program := "ytjciligkaamepaa", sum := "49ad0cf6a7025ded75a69de83df51f037e56ea5ce49777da505f1bde70a4fde1", func := "loop.example/closingsticks/laws.FnMeetAll", spec := "fnMeetAll", apart := false }
def FnMeetAllSaid : Prop := fnMeetAllRow.holds Try.pinned (OpenSpec.ofChange fnMeetAllSpec)

/-- ITS FALSE NEIGHBOUR: 'it returns false'. Refute it at one input. -/
def fnMeetAllWrong : ChangeSpec := { name := "fnMeetAll", fn := fun _ => fun
  | [d] => { results := [.lit (.bool false)], args := [d] }
  | _ => none }
def FnMeetAllWrongFalsely : Prop := fnMeetAllRow.holds Try.pinned (OpenSpec.ofChange fnMeetAllWrong)

/-- 'laws.FnChainClose': WHATEVER THE INPUT: true; the input reads as it did. -/
def fnChainCloseSpec : ChangeSpec := { name := "fnChainClose", fn := fun _ => fun
  | [d] => { results := [.lit (.bool true)], args := [d] }
  | _ => none }
def fnChainCloseRow : OpenClaim := { program := "ytjciligkaamepaa", sum := "49ad0cf6a7025ded75a69de83df51f037e56ea5ce49777da505f1bde70a4fde1", func := "loop.example/closingsticks/laws.FnChainClose", spec := "fnChainClose", apart := false }
def FnChainCloseSaid : Prop := fnChainCloseRow.holds Try.pinned (OpenSpec.ofChange fnChainCloseSpec)

/-- ITS FALSE NEIGHBOUR: 'it returns false'. Refute it at one input. -/
def fnChainCloseWrong : ChangeSpec := { name := "fnChainClose", fn := fun _ => fun
  | [d] => { results := [.lit (.bool false)], args := [d] }
  | _ => none }
def FnChainCloseWrongFalsely : Prop := fnChainCloseRow.holds Try.pinned (OpenSpec.ofChange fnChainCloseWrong)

/-- 'laws.FnHold': WHATEVER THE INPUT: true; the input reads as it did. -/
def fnHoldSpec : ChangeSpec := { name := "fnHold", fn := fun _ => fun
  | [d] => { results := [.lit (.bool true)], args := [d] }
  | _ => none }
def fnHoldRow : OpenClaim := { program := "ytjciligkaamepaa", sum := "49ad0cf6a7025ded75a69de83df51f037e56ea5ce49777da505f1bde70a4fde1", func := "loop.example/closingsticks/laws.FnHold", spec := "fnHold", recurses := true, apart := false }
def FnHoldSaid : Prop := fnHoldRow.holds Try.pinned (OpenSpec.ofChange fnHoldSpec)

/-- ITS FALSE NEIGHBOUR: 'it returns false'. Refute it at one input. -/
def fnHoldWrong : ChangeSpec := { name := "fnHold", fn := fun _ => fun
  | [d] => { results := [.lit (.bool false)], args := [d] }
  | _ => none }
def FnHoldWrongFalsely : Prop := fnHoldRow.holds Try.pinned (OpenSpec.ofChange fnHoldWrong)

/-- 'laws.FnBest': WHATEVER THE INPUT: true; the input reads as it did. -/
def fnBestSpec : ChangeSpec := { name := "fnBest", fn := fun _ => fun
  | [d] => { results := [.lit (.bool true)], args := [d] }
  | _ => none }
def fnBestRow : OpenClaim := { program := "ytjciligkaamepaa", sum := "49ad0cf6a7025ded75a69de83df51f037e56ea5ce49777da505f1bde70a4fde1", func := "loop.example/closingsticks/laws.FnBest", spec := "fnBest", apart := false }
def FnBestSaid : Prop := fnBestRow.holds Try.pinned (OpenSpec.ofChange fnBestSpec)

/-- ITS FALSE NEIGHBOUR: 'it returns false'. Refute it at one input. -/
def fnBestWrong : ChangeSpec := { name := "fnBest", fn := fun _ => fun
  | [d] => { results := [.lit (.bool false)], args := [d] }
  | _ => none }
def FnBestWrongFalsely : Prop := fnBestRow.holds Try.pinned (OpenSpec.ofChange fnBestWrong)

/-- 'laws.FnExactChainReach': WHATEVER THE INPUT: true; the input reads as it did. -/
def fnExactChainReachSpec : ChangeSpec := { name := "fnExactChainReach", fn := fun _ => fun
  | [d] => { results := [.lit (.bool true)], args := [d] }
  | _ => none }
def fnExactChainReachRow : OpenClaim := { program := "ytjciligkaamepaa", sum := "49ad0cf6a7025ded75a69de83df51f037e56ea5ce49777da505f1bde70a4fde1", func := "loop.example/closingsticks/laws.FnExactChainReach", spec := "fnExactChainReach", apart := false }
def FnExactChainReachSaid : Prop := fnExactChainReachRow.holds Try.pinned (OpenSpec.ofChange fnExactChainReachSpec)

/-- ITS FALSE NEIGHBOUR: 'it returns false'. Refute it at one input. -/
def fnExactChainReachWrong : ChangeSpec := { name := "fnExactChainReach", fn := fun _ => fun
  | [d] => { results := [.lit (.bool false)], args := [d] }
  | _ => none }
def FnExactChainReachWrongFalsely : Prop := fnExactChainReachRow.holds Try.pinned (OpenSpec.ofChange fnExactChainReachWrong)

/-- 'laws.FnExactChainStep': WHATEVER THE INPUT: true; the input reads as it did. -/
def fnExactChainStepSpec : ChangeSpec := { name := "fnExactChainStep", fn := fun _ => fun
  | [d] => { results := [.lit (.bool true)], args := [d] }
  | _ => none }
def fnExactChainStepRow : OpenClaim := { program := "ytjciligkaamepaa", sum := "49ad0cf6a7025ded75a69de83df51f037e56ea5ce49777da505f1bde70a4fde1", func := "loop.example/closingsticks/laws.FnExactChainStep", spec := "fnExactChainStep", apart := false }
def FnExactChainStepSaid : Prop := fnExactChainStepRow.holds Try.pinned (OpenSpec.ofChange fnExactChainStepSpec)

/-- ITS FALSE NEIGHBOUR: 'it returns false'. Refute it at one input. -/
def fnExactChainStepWrong : ChangeSpec := { name := "fnExactChainStep", fn := fun _ => fun
  | [d] => { results := [.lit (.bool false)], args := [d] }
  | _ => none }
def FnExactChainStepWrongFalsely : Prop := fnExactChainStepRow.holds Try.pinned (OpenSpec.ofChange fnExactChainStepWrong)

/-- 'laws.FnExactChainTo': WHATEVER THE INPUT: true; the input reads as it did. -/
def fnExactChainToSpec : ChangeSpec := { name := "fnExactChainTo", fn := fun _ => fun
  | [d1, d2] => { results := [.lit (.bool true)], args := [d1, d2] }
  | _ => none }
def fnExactChainToRow : OpenClaim := { program := "ytjciligkaamepaa", sum := "49ad0cf6a7025ded75a69de83df51f037e56ea5ce49777da505f1bde70a4fde1", func := "loop.example/closingsticks/laws.FnExactChainTo", spec := "fnExactChainTo", apart := false }
def FnExactChainToSaid : Prop := fnExactChainToRow.holds Try.pinned (OpenSpec.ofChange fnExactChainToSpec)

/-- ITS FALSE NEIGHBOUR: 'it returns false'. Refute it at one input. -/
def fnExactChainToWrong : ChangeSpec := { name := "fnExactChainTo", fn := fun _ => fun
  | [d1, d2] => { results := [.lit (.bool false)], args := [d1, d2] }
  | _ => none }
def FnExactChainToWrongFalsely : Prop := fnExactChainToRow.holds Try.pinned (OpenSpec.ofChange fnExactChainToWrong)

/-- 'laws.FnExactChainMeet': WHATEVER THE INPUT: true; the input reads as it did. -/
def fnExactChainMeetSpec : ChangeSpec := { name := "fnExactChainMeet", fn := fun _ => fun
  | [d1, d2, d3] => { results := [.lit (.bool true)], args := [d1, d2, d3] }
  | _ => none }
def fnExactChainMeetRow : OpenClaim := { program := "ytjciligkaamepaa", sum := "49ad0cf6a7025ded75a69de83df51f037e56ea5ce49777da505f1bde70a4fde1", func := "loop.example/closingsticks/laws.FnExactChainMeet", spec := "fnExactChainMeet", apart := false }
def FnExactChainMeetSaid : Prop := fnExactChainMeetRow.holds Try.pinned (OpenSpec.ofChange fnExactChainMeetSpec)

/-- ITS FALSE NEIGHBOUR: 'it returns false'. Refute it at one input. -/
def fnExactChainMeetWrong : ChangeSpec := { name := "fnExactChainMeet", fn := fun _ => fun
  | [d1, d2, d3] => { results := [.lit (.bool false)], args := [d1, d2, d3] }
  | _ => none }
def FnExactChainMeetWrongFalsely : Prop := fnExactChainMeetRow.holds Try.pinned (OpenSpec.ofChange fnExactChainMeetWrong)

/-- 'laws.FnExactChainClose': WHATEVER THE INPUT: true; the input reads as it did. -/
def fnExactChainCloseSpec : ChangeSpec := { name := "fnExactChainClose", fn := fun _ => fun
  | [d] => { results := [.lit (.bool true)], args := [d] }
  | _ => none }
def fnExactChainCloseRow : OpenClaim := { program := "ytjciligkaamepaa", sum := "49ad0cf6a7025ded75a69de83df51f037e56ea5ce49777da505f1bde70a4fde1", func := "loop.example/closingsticks/laws.FnExactChainClose", spec := "fnExactChainClose", apart := false }
def FnExactChainCloseSaid : Prop := fnExactChainCloseRow.holds Try.pinned (OpenSpec.ofChange fnExactChainCloseSpec)

/-- ITS FALSE NEIGHBOUR: 'it returns false'. Refute it at one input. -/
def fnExactChainCloseWrong : ChangeSpec := { name := "fnExactChainClose", fn := fun _ => fun
  | [d] => { results := [.lit (.bool false)], args := [d] }
  | _ => none }
def FnExactChainCloseWrongFalsely : Prop := fnExactChainCloseRow.holds Try.pinned (OpenSpec.ofChange fnExactChainCloseWrong)

/-- 'laws.FnExactChainHold': WHATEVER THE INPUT: true; the input reads as it did. -/
def fnExactChainHoldSpec : ChangeSpec := { name := "fnExactChainHold", fn := fun _ => fun
  | [d] => { results := [.lit (.bool true)], args := [d] }
  | _ => none }
def fnExactChainHoldRow : OpenClaim := { program := "ytjciligkaamepaa", sum := "49ad0cf6a7025ded75a69de83df51f037e56ea5ce49777da505f1bde70a4fde1", func := "loop.example/closingsticks/laws.FnExactChainHold", spec := "fnExactChainHold", apart := false }
def FnExactChainHoldSaid : Prop := fnExactChainHoldRow.holds Try.pinned (OpenSpec.ofChange fnExactChainHoldSpec)

/-- ITS FALSE NEIGHBOUR: 'it returns false'. Refute it at one input. -/
def fnExactChainHoldWrong : ChangeSpec := { name := "fnExactChainHold", fn := fun _ => fun
  | [d] => { results := [.lit (.bool false)], args := [d] }
  | _ => none }
def FnExactChainHoldWrongFalsely : Prop := fnExactChainHoldRow.holds Try.pinned (OpenSpec.ofChange fnExactChainHoldWrong)

/-- 'laws.FnExactChainBest': WHATEVER THE INPUT: true; the input reads as it did. -/
def fnExactChainBestSpec : ChangeSpec := { name := "fnExactChainBest", fn := fun _ => fun
  | [d1, d2] => { results := [.lit (.bool true)], args := [d1, d2] }
  | _ => none }
def fnExactChainBestRow : OpenClaim := { program := "ytjciligkaamepaa", sum := "49ad0cf6a7025ded75a69de83df51f037e56ea5ce49777da505f1bde70a4fde1", func := "loop.example/closingsticks/laws.FnExactChainBest", spec := "fnExactChainBest", apart := false }
def FnExactChainBestSaid : Prop := fnExactChainBestRow.holds Try.pinned (OpenSpec.ofChange fnExactChainBestSpec)

/-- ITS FALSE NEIGHBOUR: 'it returns false'. Refute it at one input. -/
def fnExactChainBestWrong : ChangeSpec := { name := "fnExactChainBest", fn := fun _ => fun
  | [d1, d2] => { results := [.lit (.bool false)], args := [d1, d2] }
  | _ => none }
def FnExactChainBestWrongFalsely : Prop := fnExactChainBestRow.holds Try.pinned (OpenSpec.ofChange fnExactChainBestWrong)

/- THE SECOND FORM. 'bulk': how many values and letters a reading holds, each counted each time it is reached (what is shared counts as often as it is met; a slice's spare places count too). A statement '..UptoSaid' is the law's where the arguments, and the package variables that the reading takes, are together of bulk at most 1048576: NARROWER than '..Said'. Prove '..Said' where nothing that the law and all that it calls make is longer than what came in: it says more and counts as full. Else prove '..UptoSaid'. A law counts once. -/
mutual
def uptoBulk {H : Type} : DataW H → Nat
  | .lit (.string bytes) => bytes.length + 1
  | .lit _ => 1
  | .nil => 1
  | .ptr d => uptoBulk d + 1
  | .slice elems spare => uptoBulkAll elems + uptoBulkAll spare + 1
  | .agg parts => uptoBulkAll parts + 1
  | .iface _ d => uptoBulk d + 1
  | .map entries => uptoBulkEntries entries + 1
  | .held _ => 1
def uptoBulkAll {H : Type} : List (DataW H) → Nat
  | [] => 0
  | d :: r => uptoBulk d + uptoBulkAll r
def uptoBulkEntries {H : Type} : List (Lit × DataW H) → Nat
  | [] => 0
  | x :: r => uptoBulkEntry x + uptoBulkEntries r
def uptoBulkEntry {H : Type} : Lit × DataW H → Nat
  | (.string bytes, d) => bytes.length + uptoBulk d + 1
  | (_, d) => uptoBulk d + 1
 end
def uptoSmall : (H : Type) → List (DataW H) → Bool := fun _ ds => decide (uptoBulkAll ds ≤ 1048576)
def OpenSpec.upto (s : _root_.Go.ChangeSpec) : _root_.Go.OpenSpec := { _root_.Go.OpenSpec.ofChange s with cond := some uptoSmall }

/-- 'laws.FnReach', WHERE WHAT IT READS IS OF BULK AT MOST 1048576: true; the input reads as it did. -/
def fnReachUptoRow : OpenClaim := { program := "ytjciligkaamepaa", sum := "49ad0cf6a7025ded75a69de83df51f037e56ea5ce49777da505f1bde70a4fde1", func := "loop.example/closingsticks/laws.FnReach", spec := "fnReach", apart := false, narrowed := true }
def FnReachUptoSaid : Prop := fnReachUptoRow.holds Try.pinned (OpenSpec.upto fnReachSpec)

/-- 'laws.FnStep', WHERE WHAT IT READS IS OF BULK AT MOST 1048576: true; the input reads as it did. -/
def fnStepUptoRow : OpenClaim := { program := "ytjciligkaamepaa", sum := "49ad0cf6a7025ded75a69de83df51f037e56ea5ce49777da505f1bde70a4fde1", func := "loop.example/closingsticks/laws.FnStep", spec := "fnStep", apart := false, narrowed := true }
def FnStepUptoSaid : Prop := fnStepUptoRow.holds Try.pinned (OpenSpec.upto fnStepSpec)

/-- 'laws.FnTo', WHERE WHAT IT READS IS OF BULK AT MOST 1048576: true; the input reads as it did. -/
def fnToUptoRow : OpenClaim := { program := "ytjciligkaamepaa", sum := "49ad0cf6a7025ded75a69de83df51f037e56ea5ce49777da505f1bde70a4fde1", func := "loop.example/closingsticks/laws.FnTo", spec := "fnTo", recurses := true, apart := false, narrowed := true }
def FnToUptoSaid : Prop := fnToUptoRow.holds Try.pinned (OpenSpec.upto fnToSpec)

/-- 'laws.FnMeet', WHERE WHAT IT READS IS OF BULK AT MOST 1048576: true; the input reads as it did. -/
def fnMeetUptoRow : OpenClaim := { program := "ytjciligkaamepaa", sum := "49ad0cf6a7025ded75a69de83df51f037e56ea5ce49777da505f1bde70a4fde1", func := "loop.example/closingsticks/laws.FnMeet", spec := "fnMeet", apart := false, narrowed := true }
def FnMeetUptoSaid : Prop := fnMeetUptoRow.holds Try.pinned (OpenSpec.upto fnMeetSpec)

/-- 'laws.FnMeetAll', WHERE WHAT IT READS IS OF BULK AT MOST 1048576: true; the input reads as it did. -/
def fnMeetAllUptoRow : OpenClaim := { program := "ytjciligkaamepaa", sum := "49ad0cf6a7025ded75a69de83df51f037e56ea5ce49777da505f1bde70a4fde1", func := "loop.example/closingsticks/laws.FnMeetAll", spec := "fnMeetAll", apart := false, narrowed := true }
def FnMeetAllUptoSaid : Prop := fnMeetAllUptoRow.holds Try.pinned (OpenSpec.upto fnMeetAllSpec)

/-- 'laws.FnChainClose', WHERE WHAT IT READS IS OF BULK AT MOST 1048576: true; the input reads as it did. -/
def fnChainCloseUptoRow : OpenClaim := { program := "ytjciligkaamepaa", sum := "49ad0cf6a7025ded75a69de83df51f037e56ea5ce49777da505f1bde70a4fde1", func := "loop.example/closingsticks/laws.FnChainClose", spec := "fnChainClose", apart := false, narrowed := true }
def FnChainCloseUptoSaid : Prop := fnChainCloseUptoRow.holds Try.pinned (OpenSpec.upto fnChainCloseSpec)

/-- 'laws.FnHold', WHERE WHAT IT READS IS OF BULK AT MOST 1048576: true; the input reads as it did. -/
def fnHoldUptoRow : OpenClaim := { program := "ytjciligkaamepaa", sum := "49ad0cf6a7025ded75a69de83df51f037e56ea5ce49777da505f1bde70a4fde1", func := "loop.example/closingsticks/laws.FnHold", spec := "fnHold", recurses := true, apart := false, narrowed := true }
def FnHoldUptoSaid : Prop := fnHoldUptoRow.holds Try.pinned (OpenSpec.upto fnHoldSpec)

/-- 'laws.FnBest', WHERE WHAT IT READS IS OF BULK AT MOST 1048576: true; the input reads as it did. -/
def fnBestUptoRow : OpenClaim := { program := "ytjciligkaamepaa", sum := "49ad0cf6a7025ded75a69de83df51f037e56ea5ce49777da505f1bde70a4fde1", func := "loop.example/closingsticks/laws.FnBest", spec := "fnBest", apart := false, narrowed := true }
def FnBestUptoSaid : Prop := fnBestUptoRow.holds Try.pinned (OpenSpec.upto fnBestSpec)

/-- 'laws.FnExactChainReach', WHERE WHAT IT READS IS OF BULK AT MOST 1048576: true; the input reads as it did. -/
def fnExactChainReachUptoRow : OpenClaim := { program := "ytjciligkaamepaa", sum := "49ad0cf6a7025ded75a69de83df51f037e56ea5ce49777da505f1bde70a4fde1", func := "loop.example/closingsticks/laws.FnExactChainReach", spec := "fnExactChainReach", apart := false, narrowed := true }
def FnExactChainReachUptoSaid : Prop := fnExactChainReachUptoRow.holds Try.pinned (OpenSpec.upto fnExactChainReachSpec)

/-- 'laws.FnExactChainStep', WHERE WHAT IT READS IS OF BULK AT MOST 1048576: true; the input reads as it did. -/
def fnExactChainStepUptoRow : OpenClaim := { program := "ytjciligkaamepaa", sum := "49ad0cf6a7025ded75a69de83df51f037e56ea5ce49777da505f1bde70a4fde1", func := "loop.example/closingsticks/laws.FnExactChainStep", spec := "fnExactChainStep", apart := false, narrowed := true }
def FnExactChainStepUptoSaid : Prop := fnExactChainStepUptoRow.holds Try.pinned (OpenSpec.upto fnExactChainStepSpec)

/-- 'laws.FnExactChainTo', WHERE WHAT IT READS IS OF BULK AT MOST 1048576: true; the input reads as it did. -/
def fnExactChainToUptoRow : OpenClaim := { program := "ytjciligkaamepaa", sum := "49ad0cf6a7025ded75a69de83df51f037e56ea5ce49777da505f1bde70a4fde1", func := "loop.example/closingsticks/laws.FnExactChainTo", spec := "fnExactChainTo", apart := false, narrowed := true }
def FnExactChainToUptoSaid : Prop := fnExactChainToUptoRow.holds Try.pinned (OpenSpec.upto fnExactChainToSpec)

/-- 'laws.FnExactChainMeet', WHERE WHAT IT READS IS OF BULK AT MOST 1048576: true; the input reads as it did. -/
def fnExactChainMeetUptoRow : OpenClaim := { program := "ytjciligkaamepaa", sum := "49ad0cf6a7025ded75a69de83df51f037e56ea5ce49777da505f1bde70a4fde1", func := "loop.example/closingsticks/laws.FnExactChainMeet", spec := "fnExactChainMeet", apart := false, narrowed := true }
def FnExactChainMeetUptoSaid : Prop := fnExactChainMeetUptoRow.holds Try.pinned (OpenSpec.upto fnExactChainMeetSpec)

/-- 'laws.FnExactChainClose', WHERE WHAT IT READS IS OF BULK AT MOST 1048576: true; the input reads as it did. -/
def fnExactChainCloseUptoRow : OpenClaim := { program := "ytjciligkaamepaa", sum := "49ad0cf6a7025ded75a69de83df51f037e56ea5ce49777da505f1bde70a4fde1", func := "loop.example/closingsticks/laws.FnExactChainClose", spec := "fnExactChainClose", apart := false, narrowed := true }
def FnExactChainCloseUptoSaid : Prop := fnExactChainCloseUptoRow.holds Try.pinned (OpenSpec.upto fnExactChainCloseSpec)

/-- 'laws.FnExactChainHold', WHERE WHAT IT READS IS OF BULK AT MOST 1048576: true; the input reads as it did. -/
def fnExactChainHoldUptoRow : OpenClaim := { program := "ytjciligkaamepaa", sum := "49ad0cf6a7025ded75a69de83df51f037e56ea5ce49777da505f1bde70a4fde1", func := "loop.example/closingsticks/laws.FnExactChainHold", spec := "fnExactChainHold", apart := false, narrowed := true }
def FnExactChainHoldUptoSaid : Prop := fnExactChainHoldUptoRow.holds Try.pinned (OpenSpec.upto fnExactChainHoldSpec)

/-- 'laws.FnExactChainBest', WHERE WHAT IT READS IS OF BULK AT MOST 1048576: true; the input reads as it did. -/
def fnExactChainBestUptoRow : OpenClaim := { program := "ytjciligkaamepaa", sum := "49ad0cf6a7025ded75a69de83df51f037e56ea5ce49777da505f1bde70a4fde1", func := "loop.example/closingsticks/laws.FnExactChainBest", spec := "fnExactChainBest", apart := false, narrowed := true }
def FnExactChainBestUptoSaid : Prop := fnExactChainBestUptoRow.holds Try.pinned (OpenSpec.upto fnExactChainBestSpec)

end Rows
end Go.Proofs.Ytjciligkaamepaa
