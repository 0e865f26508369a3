/-
  NARROWER THAN 'FOR EVERY INPUT', by the rows' own cells (each row's printed sentence says how): FnExactTermLength: ifaces, laid · FnExactTermEnd: ifaces, laid · FnExactTermArea: ifaces, laid · FnExactTermCloses: ifaces, laid.
  DERIVED. THE GIVEN ROWS OF THIS SEAT. 4 by the template 'for every input the law returns true; each argument reads behind the call as it read before'; 0 by the template 'total and deterministic' (their statements: YtegpidlhhneilaaDoorTotals.lean).
  GIVEN WITH THE SEED: the statements are not yours to turn. If you find one false, say at which input.
  Laid BY PROGRAM, IN A SANDBOX (cutbox-rows.mjs): the forced cells as the released guide's own fill.sh prints them over the translation 98b0b99a62135db6… (all of the seat's roots in one cut). By AI agents, Wed Nov 11 2026. No macro, syntax, notation, axiom, sorry.
-/
import Derived.Test.YtegpidlhhneilaaDoorChecked
import GoSem.Claim
import GoSem.ClaimJoined
import GoSem.ClaimMapViews
import Derived.JoinedTies
import Derived.KernelRfl
namespace Go.Proofs.YtegpidlhhneilaaDoor
/- THE CELL 'sum', in the pinned program and in every row, IS THE sha256 OF THE DUMP (.gsa) THAT YtegpidlhhneilaaDoorProg.lean LOADS. Nothing in Lean hashes anything: it is a label: what it is worth is what the hold of that sum in a sandbox is worth. -/
noncomputable def Tryd.pinned : Pinned := { name := "ytegpidlhhneilaadoor", sum := "98b0b99a62135db6927c126ed267179394ea6d36be79e3b6eeb0fec8e6580000", checked := Tryd.checked }
namespace Rows
def none {H : Type} : Left H := { results := [], args := [] }

/- WHAT THE LISTED PACKAGE-LEVEL VARIABLES READ AS WHEN THE CALL BEGINS. Each datum BY PROGRAM (the guide's laid-datum.mjs) off the statement by which the dump's own 'gosem.cut.vars' lays the variable. In a bare row this is a premise. The card (YtegpidlhhneilaaDoorCards.lean) ties it to the program's text. -/
def laid_loop_example_closingsticks_impl_errLong {H : Type} : DataW H := .iface "*errors.errorString" (.ptr (.agg [.lit (.string [97, 32, 119, 97, 108, 107, 32, 111, 102, 32, 109, 111, 114, 101, 32, 116, 104, 97, 110, 32, 50, 48, 48, 32, 108, 101, 116, 116, 101, 114, 115])]))

/-- 'laws.FnExactTermLength': WHATEVER THE INPUT: true; the input reads as it did. -/
def fnExactTermLengthSpec : ChangeSpec := { name := "fnExactTermLength", vars := ["loop.example/closingsticks/impl.errLong"], fn := fun _ => fun
  | [d, g1] => { results := [.lit (.bool true)], args := [d], vars := [g1] }
  | _ => none }
def fnExactTermLengthRow : OpenClaim := { program := "ytegpidlhhneilaadoor", sum := "98b0b99a62135db6927c126ed267179394ea6d36be79e3b6eeb0fec8e6580000", func := "loop.example/closingsticks/laws.FnExactTermLength", spec := "fnExactTermLength", inPlace := ["internal/bytealg.IndexByteString"], unfollowed := true, recurses := true, named := ["loop.example/closingsticks/impl.errLong"], ifaces := true, apart := false, laid := [("loop.example/closingsticks/impl.errLong", laid_loop_example_closingsticks_impl_errLong)] }
def FnExactTermLengthSaid : Prop := fnExactTermLengthRow.holds Tryd.pinned (OpenSpec.ofChange fnExactTermLengthSpec)

/-- ITS FALSE NEIGHBOUR: 'it returns false'. Refute it at one input. -/
def fnExactTermLengthWrong : ChangeSpec := { name := "fnExactTermLength", vars := ["loop.example/closingsticks/impl.errLong"], fn := fun _ => fun
  | [d, g1] => { results := [.lit (.bool false)], args := [d], vars := [g1] }
  | _ => none }
def FnExactTermLengthWrongFalsely : Prop := fnExactTermLengthRow.holds Tryd.pinned (OpenSpec.ofChange fnExactTermLengthWrong)

/-- 'laws.FnExactTermEnd': WHATEVER THE INPUT: true; the input reads as it did. -/
def fnExactTermEndSpec : ChangeSpec := { name := "fnExactTermEnd", vars := ["loop.example/closingsticks/impl.errLong"], fn := fun _ => fun
  | [d, g1] => { results := [.lit (.bool true)], args := [d], vars := [g1] }
  | _ => none }
def fnExactTermEndRow : OpenClaim := { program := "ytegpidlhhneilaadoor", sum := "98b0b99a62135db6927c126ed267179394ea6d36be79e3b6eeb0fec8e6580000", func := "loop.example/closingsticks/laws.FnExactTermEnd", spec := "fnExactTermEnd", inPlace := ["internal/bytealg.IndexByteString"], unfollowed := true, recurses := true, named := ["loop.example/closingsticks/impl.errLong"], ifaces := true, apart := false, laid := [("loop.example/closingsticks/impl.errLong", laid_loop_example_closingsticks_impl_errLong)] }
def FnExactTermEndSaid : Prop := fnExactTermEndRow.holds Tryd.pinned (OpenSpec.ofChange fnExactTermEndSpec)

/-- ITS FALSE NEIGHBOUR: 'it returns false'. Refute it at one input. -/
def fnExactTermEndWrong : ChangeSpec := { name := "fnExactTermEnd", vars := ["loop.example/closingsticks/impl.errLong"], fn := fun _ => fun
  | [d, g1] => { results := [.lit (.bool false)], args := [d], vars := [g1] }
  | _ => none }
def FnExactTermEndWrongFalsely : Prop := fnExactTermEndRow.holds Tryd.pinned (OpenSpec.ofChange fnExactTermEndWrong)

/-- 'laws.FnExactTermArea': WHATEVER THE INPUT: true; the input reads as it did. -/
def fnExactTermAreaSpec : ChangeSpec := { name := "fnExactTermArea", vars := ["loop.example/closingsticks/impl.errLong"], fn := fun _ => fun
  | [d, g1] => { results := [.lit (.bool true)], args := [d], vars := [g1] }
  | _ => none }
def fnExactTermAreaRow : OpenClaim := { program := "ytegpidlhhneilaadoor", sum := "98b0b99a62135db6927c126ed267179394ea6d36be79e3b6eeb0fec8e6580000", func := "loop.example/closingsticks/laws.FnExactTermArea", spec := "fnExactTermArea", inPlace := ["internal/bytealg.IndexByteString"], unfollowed := true, recurses := true, named := ["loop.example/closingsticks/impl.errLong"], ifaces := true, apart := false, laid := [("loop.example/closingsticks/impl.errLong", laid_loop_example_closingsticks_impl_errLong)] }
def FnExactTermAreaSaid : Prop := fnExactTermAreaRow.holds Tryd.pinned (OpenSpec.ofChange fnExactTermAreaSpec)

/-- ITS FALSE NEIGHBOUR: 'it returns false'. Refute it at one input. -/
def fnExactTermAreaWrong : ChangeSpec := { name := "fnExactTermArea", vars := ["loop.example/closingsticks/impl.errLong"], fn := fun _ => fun
  | [d, g1] => { results := [.lit (.bool false)], args := [d], vars := [g1] }
  | _ => none }
def FnExactTermAreaWrongFalsely : Prop := fnExactTermAreaRow.holds Tryd.pinned (OpenSpec.ofChange fnExactTermAreaWrong)

/-- 'laws.FnExactTermCloses': WHATEVER THE INPUT: true; the input reads as it did. -/
def fnExactTermClosesSpec : ChangeSpec := { name := "fnExactTermCloses", vars := ["loop.example/closingsticks/impl.errLong"], fn := fun _ => fun
  | [d, g1] => { results := [.lit (.bool true)], args := [d], vars := [g1] }
  | _ => none }
def fnExactTermClosesRow : OpenClaim := { program := "ytegpidlhhneilaadoor", sum := "98b0b99a62135db6927c126ed267179394ea6d36be79e3b6eeb0fec8e6580000", func := "loop.example/closingsticks/laws.FnExactTermCloses", spec := "fnExactTermCloses", inPlace := ["internal/bytealg.IndexByteString"], unfollowed := true, recurses := true, named := ["loop.example/closingsticks/impl.errLong"], ifaces := true, apart := false, laid := [("loop.example/closingsticks/impl.errLong", laid_loop_example_closingsticks_impl_errLong)] }
def FnExactTermClosesSaid : Prop := fnExactTermClosesRow.holds Tryd.pinned (OpenSpec.ofChange fnExactTermClosesSpec)

/-- ITS FALSE NEIGHBOUR: 'it returns false'. Refute it at one input. -/
def fnExactTermClosesWrong : ChangeSpec := { name := "fnExactTermCloses", vars := ["loop.example/closingsticks/impl.errLong"], fn := fun _ => fun
  | [d, g1] => { results := [.lit (.bool false)], args := [d], vars := [g1] }
  | _ => none }
def FnExactTermClosesWrongFalsely : Prop := fnExactTermClosesRow.holds Tryd.pinned (OpenSpec.ofChange fnExactTermClosesWrong)

/- THE SECOND FORM. 'bulk': how many values and letters a reading holds, each counted each time it is reached (what is shared counts as often as it is met; a slice's spare places count too). A statement '..UptoSaid' is the law's where the arguments, and the package variables that the reading takes, are together of bulk at most 1048576: NARROWER than '..Said'. Prove '..Said' where nothing that the law and all that it calls make is longer than what came in: it says more and counts as full. Else prove '..UptoSaid'. A law counts once. -/
mutual
def uptoBulk {H : Type} : DataW H → Nat
  | .lit (.string bytes) => bytes.length + 1
  | .lit _ => 1
  | .nil => 1
  | .ptr d => uptoBulk d + 1
  | .slice elems spare => uptoBulkAll elems + uptoBulkAll spare + 1
  | .agg parts => uptoBulkAll parts + 1
  | .iface _ d => uptoBulk d + 1
  | .map entries => uptoBulkEntries entries + 1
  | .held _ => 1
def uptoBulkAll {H : Type} : List (DataW H) → Nat
  | [] => 0
  | d :: r => uptoBulk d + uptoBulkAll r
def uptoBulkEntries {H : Type} : List (Lit × DataW H) → Nat
  | [] => 0
  | x :: r => uptoBulkEntry x + uptoBulkEntries r
def uptoBulkEntry {H : Type} : Lit × DataW H → Nat
  | (.string bytes, d) => bytes.length + uptoBulk d + 1
  | (_, d) => uptoBulk d + 1
 end
def uptoSmall : (H : Type) → List (DataW H) → Bool := fun _ ds => decide (uptoBulkAll ds ≤ 1048576)
def OpenSpec.upto (s : _root_.Go.ChangeSpec) : _root_.Go.OpenSpec := { _root_.Go.OpenSpec.ofChange s with cond := some uptoSmall }

/-- 'laws.FnExactTermLength', WHERE WHAT IT READS IS OF BULK AT MOST 1048576: true; the input reads as it did. -/
def fnExactTermLengthUptoRow : OpenClaim := { program := "ytegpidlhhneilaadoor", sum := "98b0b99a62135db6927c126ed267179394ea6d36be79e3b6eeb0fec8e6580000", func := "loop.example/closingsticks/laws.FnExactTermLength", spec := "fnExactTermLength", inPlace := ["internal/bytealg.IndexByteString"], unfollowed := true, recurses := true, named := ["loop.example/closingsticks/impl.errLong"], ifaces := true, apart := false, laid := [("loop.example/closingsticks/impl.errLong", laid_loop_example_closingsticks_impl_errLong)], narrowed := true }
def FnExactTermLengthUptoSaid : Prop := fnExactTermLengthUptoRow.holds Tryd.pinned (OpenSpec.upto fnExactTermLengthSpec)

/-- 'laws.FnExactTermEnd', WHERE WHAT IT READS IS OF BULK AT MOST 1048576: true; the input reads as it did. -/
def fnExactTermEndUptoRow : OpenClaim := { program := "ytegpidlhhneilaadoor", sum := "98b0b99a62135db6927c126ed267179394ea6d36be79e3b6eeb0fec8e6580000", func := "loop.example/closingsticks/laws.FnExactTermEnd", spec := "fnExactTermEnd", inPlace := ["internal/bytealg.IndexByteString"], unfollowed := true, recurses := true, named := ["loop.example/closingsticks/impl.errLong"], ifaces := true, apart := false, laid := [("loop.example/closingsticks/impl.errLong", laid_loop_example_closingsticks_impl_errLong)], narrowed := true }
def FnExactTermEndUptoSaid : Prop := fnExactTermEndUptoRow.holds Tryd.pinned (OpenSpec.upto fnExactTermEndSpec)

/-- 'laws.FnExactTermArea', WHERE WHAT IT READS IS OF BULK AT MOST 1048576: true; the input reads as it did. -/
def fnExactTermAreaUptoRow : OpenClaim := { program := "ytegpidlhhneilaadoor", sum := "98b0b99a62135db6927c126ed267179394ea6d36be79e3b6eeb0fec8e6580000", func := "loop.example/closingsticks/laws.FnExactTermArea", spec := "fnExactTermArea", inPlace := ["internal/bytealg.IndexByteString"], unfollowed := true, recurses := true, named := ["loop.example/closingsticks/impl.errLong"], ifaces := true, apart := false, laid := [("loop.example/closingsticks/impl.errLong", laid_loop_example_closingsticks_impl_errLong)], narrowed := true }
def FnExactTermAreaUptoSaid : Prop := fnExactTermAreaUptoRow.holds Tryd.pinned (OpenSpec.upto fnExactTermAreaSpec)

/-- 'laws.FnExactTermCloses', WHERE WHAT IT READS IS OF BULK AT MOST 1048576: true; the input reads as it did. -/
def fnExactTermClosesUptoRow : OpenClaim := { program := "ytegpidlhhneilaadoor", sum := "98b0b99a62135db6927c126ed267179394ea6d36be79e3b6eeb0fec8e6580000", func := "loop.example/closingsticks/laws.FnExactTermCloses", spec := "fnExactTermCloses", inPlace := ["internal/bytealg.IndexByteString"], unfollowed := true, recurses := true, named := ["loop.example/closingsticks/impl.errLong"], ifaces := true, apart := false, laid := [("loop.example/closingsticks/impl.errLong", laid_loop_example_closingsticks_impl_errLong)], narrowed := true }
def FnExactTermClosesUptoSaid : Prop := fnExactTermClosesUptoRow.holds Tryd.pinned (OpenSpec.upto fnExactTermClosesSpec)

end Rows
end Go.Proofs.YtegpidlhhneilaaDoor
