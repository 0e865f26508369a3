/-
  DERIVED. GIVEN WITH THE SEED: THE CARDS: each row of YtegpidlhhneilaaDoorRows.lean that lists a variable, with what it lists TIED to the program's text (the seventh form; the later family's looks); each row that meets fmt, with fmt's text TOLD by the authors' own Lean function (tested against real Go, not proved from fmt's source: count such statements apart). THE CARD IS WHAT COUNTS. Prove the row's statement (the work); the ties are given (YtegpidlhhneilaaDoorTie.lean); close each card by the builder's one call (the guide's Derived/Test/ToyasCard.lean, 'card_holds'). Laid BY PROGRAM, IN A SANDBOX (cutbox-door.mjs). By AI agents, Wed Nov 11 2026. No macro, syntax, notation, axiom, sorry.
-/
import Derived.Test.YtegpidlhhneilaaDoorRows
import GoSem.ClaimSeven
namespace Go.Proofs.YtegpidlhhneilaaDoor
namespace Rows

/-- THE TIED CARD OF 'laws.FnExactTermLength'. -/
def fnExactTermLengthCard : Claim7 := { stood := { row := fnExactTermLengthRow, standIns := [], harness := (true, "a6785954a8e70e090720b549cd4e8474a49827c8f19078599f807c76dae5eb9d"), looks := false }, kinds := [], alts := [], laidByText := true, laidKinds := [.sentinel], laidTests := true, laidLooks := .later }
def FnExactTermLengthCardSaid : Prop := Claim7.holds Tryd.pinned (.plain (OpenSpec.ofChange fnExactTermLengthSpec)) fnExactTermLengthCard

/-- THE TIED CARD OF 'laws.FnExactTermEnd'. -/
def fnExactTermEndCard : Claim7 := { stood := { row := fnExactTermEndRow, standIns := [], harness := (true, "a6785954a8e70e090720b549cd4e8474a49827c8f19078599f807c76dae5eb9d"), looks := false }, kinds := [], alts := [], laidByText := true, laidKinds := [.sentinel], laidTests := true, laidLooks := .later }
def FnExactTermEndCardSaid : Prop := Claim7.holds Tryd.pinned (.plain (OpenSpec.ofChange fnExactTermEndSpec)) fnExactTermEndCard

/-- THE TIED CARD OF 'laws.FnExactTermArea'. -/
def fnExactTermAreaCard : Claim7 := { stood := { row := fnExactTermAreaRow, standIns := [], harness := (true, "a6785954a8e70e090720b549cd4e8474a49827c8f19078599f807c76dae5eb9d"), looks := false }, kinds := [], alts := [], laidByText := true, laidKinds := [.sentinel], laidTests := true, laidLooks := .later }
def FnExactTermAreaCardSaid : Prop := Claim7.holds Tryd.pinned (.plain (OpenSpec.ofChange fnExactTermAreaSpec)) fnExactTermAreaCard

/-- THE TIED CARD OF 'laws.FnExactTermCloses'. -/
def fnExactTermClosesCard : Claim7 := { stood := { row := fnExactTermClosesRow, standIns := [], harness := (true, "a6785954a8e70e090720b549cd4e8474a49827c8f19078599f807c76dae5eb9d"), looks := false }, kinds := [], alts := [], laidByText := true, laidKinds := [.sentinel], laidTests := true, laidLooks := .later }
def FnExactTermClosesCardSaid : Prop := Claim7.holds Tryd.pinned (.plain (OpenSpec.ofChange fnExactTermClosesSpec)) fnExactTermClosesCard

/-- THE SECOND FORM's CARD OF 'laws.FnExactTermLength'. -/
def fnExactTermLengthUptoCard : Claim7 := { stood := { row := fnExactTermLengthUptoRow, standIns := [], harness := (true, "a6785954a8e70e090720b549cd4e8474a49827c8f19078599f807c76dae5eb9d"), looks := false }, kinds := [], alts := [], laidByText := true, laidKinds := [.sentinel], laidTests := true, laidLooks := .later }
def FnExactTermLengthUptoCardSaid : Prop := Claim7.holds Tryd.pinned (.plain (OpenSpec.upto fnExactTermLengthSpec)) fnExactTermLengthUptoCard

/-- THE SECOND FORM's CARD OF 'laws.FnExactTermEnd'. -/
def fnExactTermEndUptoCard : Claim7 := { stood := { row := fnExactTermEndUptoRow, standIns := [], harness := (true, "a6785954a8e70e090720b549cd4e8474a49827c8f19078599f807c76dae5eb9d"), looks := false }, kinds := [], alts := [], laidByText := true, laidKinds := [.sentinel], laidTests := true, laidLooks := .later }
def FnExactTermEndUptoCardSaid : Prop := Claim7.holds Tryd.pinned (.plain (OpenSpec.upto fnExactTermEndSpec)) fnExactTermEndUptoCard

/-- THE SECOND FORM's CARD OF 'laws.FnExactTermArea'. -/
def fnExactTermAreaUptoCard : Claim7 := { stood := { row := fnExactTermAreaUptoRow, standIns := [], harness := (true, "a6785954a8e70e090720b549cd4e8474a49827c8f19078599f807c76dae5eb9d"), looks := false }, kinds := [], alts := [], laidByText := true, laidKinds := [.sentinel], laidTests := true, laidLooks := .later }
def FnExactTermAreaUptoCardSaid : Prop := Claim7.holds Tryd.pinned (.plain (OpenSpec.upto fnExactTermAreaSpec)) fnExactTermAreaUptoCard

/-- THE SECOND FORM's CARD OF 'laws.FnExactTermCloses'. -/
def fnExactTermClosesUptoCard : Claim7 := { stood := { row := fnExactTermClosesUptoRow, standIns := [], harness := (true, "a6785954a8e70e090720b549cd4e8474a49827c8f19078599f807c76dae5eb9d"), looks := false }, kinds := [], alts := [], laidByText := true, laidKinds := [.sentinel], laidTests := true, laidLooks := .later }
def FnExactTermClosesUptoCardSaid : Prop := Claim7.holds Tryd.pinned (.plain (OpenSpec.upto fnExactTermClosesSpec)) fnExactTermClosesUptoCard
end Rows
end Go.Proofs.YtegpidlhhneilaaDoor
