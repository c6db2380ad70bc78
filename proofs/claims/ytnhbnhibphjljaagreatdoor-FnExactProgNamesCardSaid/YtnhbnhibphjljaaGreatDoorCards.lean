/-
  DERIVED. GIVEN WITH THE SEED: THE CARDS: each row of YtnhbnhibphjljaaGreatDoorRows.lean that lists a variable, with what it lists TIED to the program's text (the seventh form; the later family's looks); each row that meets fmt, with fmt's text TOLD by the authors' own Lean function (tested against real Go, not proved from fmt's source: count such statements apart). THE CARD IS WHAT COUNTS. Prove the row's statement (the work); the ties are given (YtnhbnhibphjljaaGreatDoorTie.lean); close each card by the builder's one call (the guide's Derived/Test/ToyasCard.lean, 'card_holds'). Laid BY PROGRAM, IN A SANDBOX (cutbox-door.mjs). By AI agents, Wed Nov 11 2026. No macro, syntax, notation, axiom, sorry.
-/
import Derived.Test.YtnhbnhibphjljaaGreatDoorRows
import GoSem.ClaimSeven
namespace Go.Proofs.YtnhbnhibphjljaaGreatDoor
namespace Rows

/-- THE TIED CARD OF 'laws.FnExactProgCheck'. -/
def fnExactProgCheckCard : Claim7 := { stood := { row := fnExactProgCheckRow, standIns := [], harness := (true, "8757a5a9f84c47a8f0decb62d942ac5235bce92adcfe6be75009c099f74fde3a"), looks := true }, kinds := [], alts := [], laidByText := true, laidKinds := [.handle], laidTests := true, laidLooks := .later }
def FnExactProgCheckCardSaid : Prop := Claim7.holds Tryz.pinned (.plain (OpenSpec.ofChange fnExactProgCheckSpec)) fnExactProgCheckCard

/-- THE TIED CARD OF 'laws.FnExactProgNames'. -/
def fnExactProgNamesCard : Claim7 := { stood := { row := fnExactProgNamesRow, standIns := [], harness := (true, "8757a5a9f84c47a8f0decb62d942ac5235bce92adcfe6be75009c099f74fde3a"), looks := true }, kinds := [], alts := [], laidByText := true, laidKinds := [.handle], laidTests := true, laidLooks := .later }
def FnExactProgNamesCardSaid : Prop := Claim7.holds Tryz.pinned (.plain (OpenSpec.ofChange fnExactProgNamesSpec)) fnExactProgNamesCard

/-- THE TIED CARD OF 'laws.FnExactProgHeads'. -/
def fnExactProgHeadsCard : Claim7 := { stood := { row := fnExactProgHeadsRow, standIns := [], harness := (true, "8757a5a9f84c47a8f0decb62d942ac5235bce92adcfe6be75009c099f74fde3a"), looks := true }, kinds := [], alts := [], laidByText := true, laidKinds := [.handle], laidTests := true, laidLooks := .later }
def FnExactProgHeadsCardSaid : Prop := Claim7.holds Tryz.pinned (.plain (OpenSpec.ofChange fnExactProgHeadsSpec)) fnExactProgHeadsCard

/-- THE TIED CARD OF 'laws.FnExactProgStrata'. -/
def fnExactProgStrataCard : Claim7 := { stood := { row := fnExactProgStrataRow, standIns := [], harness := (true, "8757a5a9f84c47a8f0decb62d942ac5235bce92adcfe6be75009c099f74fde3a"), looks := true }, kinds := [], alts := [], laidByText := true, laidKinds := [.handle], laidTests := true, laidLooks := .later }
def FnExactProgStrataCardSaid : Prop := Claim7.holds Tryz.pinned (.plain (OpenSpec.ofChange fnExactProgStrataSpec)) fnExactProgStrataCard

/-- THE TIED CARD OF 'laws.FnExactProgNeeds'. -/
def fnExactProgNeedsCard : Claim7 := { stood := { row := fnExactProgNeedsRow, standIns := [], harness := (true, "8757a5a9f84c47a8f0decb62d942ac5235bce92adcfe6be75009c099f74fde3a"), looks := true }, kinds := [], alts := [], laidByText := true, laidKinds := [.handle], laidTests := true, laidLooks := .later }
def FnExactProgNeedsCardSaid : Prop := Claim7.holds Tryz.pinned (.plain (OpenSpec.ofChange fnExactProgNeedsSpec)) fnExactProgNeedsCard

/-- THE TIED CARD OF 'laws.FnExactBaseNew'. -/
def fnExactBaseNewCard : Claim7 := { stood := { row := fnExactBaseNewRow, standIns := [], harness := (true, "8757a5a9f84c47a8f0decb62d942ac5235bce92adcfe6be75009c099f74fde3a"), looks := true }, kinds := [], alts := [], laidByText := true, laidKinds := [.handle], laidTests := true, laidLooks := .later }
def FnExactBaseNewCardSaid : Prop := Claim7.holds Tryz.pinned (.plain (OpenSpec.ofChange fnExactBaseNewSpec)) fnExactBaseNewCard

/-- THE TIED CARD OF 'laws.FnExactServeNew'. -/
def fnExactServeNewCard : Claim7 := { stood := { row := fnExactServeNewRow, standIns := [], harness := (true, "8757a5a9f84c47a8f0decb62d942ac5235bce92adcfe6be75009c099f74fde3a"), looks := true }, kinds := [], alts := [], laidByText := true, laidKinds := [.handle], laidTests := true, laidLooks := .later }
def FnExactServeNewCardSaid : Prop := Claim7.holds Tryz.pinned (.plain (OpenSpec.ofChange fnExactServeNewSpec)) fnExactServeNewCard

/-- THE TIED CARD OF 'laws.FnExactFactsFit'. -/
def fnExactFactsFitCard : Claim7 := { stood := { row := fnExactFactsFitRow, standIns := [], harness := (true, "8757a5a9f84c47a8f0decb62d942ac5235bce92adcfe6be75009c099f74fde3a"), looks := true }, kinds := [], alts := [], laidByText := true, laidKinds := [.handle], laidTests := true, laidLooks := .later }
def FnExactFactsFitCardSaid : Prop := Claim7.holds Tryz.pinned (.plain (OpenSpec.ofChange fnExactFactsFitSpec)) fnExactFactsFitCard

/-- THE TIED CARD OF 'laws.FnProgCheck'. -/
def fnProgCheckCard : Claim7 := { stood := { row := fnProgCheckRow, standIns := [], harness := (true, "8757a5a9f84c47a8f0decb62d942ac5235bce92adcfe6be75009c099f74fde3a"), looks := true }, kinds := [], alts := [], laidByText := true, laidKinds := [.handle], laidTests := true, laidLooks := .later }
def FnProgCheckCardSaid : Prop := Claim7.holds Tryz.pinned (.plain (OpenSpec.ofChange fnProgCheckSpec)) fnProgCheckCard

/-- THE TIED CARD OF 'laws.FnProgStrata'. -/
def fnProgStrataCard : Claim7 := { stood := { row := fnProgStrataRow, standIns := [], harness := (true, "8757a5a9f84c47a8f0decb62d942ac5235bce92adcfe6be75009c099f74fde3a"), looks := true }, kinds := [], alts := [], laidByText := true, laidKinds := [.handle], laidTests := true, laidLooks := .later }
def FnProgStrataCardSaid : Prop := Claim7.holds Tryz.pinned (.plain (OpenSpec.ofChange fnProgStrataSpec)) fnProgStrataCard

/-- THE TIED CARD OF 'laws.FnProgNeeds'. -/
def fnProgNeedsCard : Claim7 := { stood := { row := fnProgNeedsRow, standIns := [], harness := (true, "8757a5a9f84c47a8f0decb62d942ac5235bce92adcfe6be75009c099f74fde3a"), looks := true }, kinds := [], alts := [], laidByText := true, laidKinds := [.handle], laidTests := true, laidLooks := .later }
def FnProgNeedsCardSaid : Prop := Claim7.holds Tryz.pinned (.plain (OpenSpec.ofChange fnProgNeedsSpec)) fnProgNeedsCard

/-- THE SECOND FORM's CARD OF 'laws.FnExactProgCheck'. -/
def fnExactProgCheckUptoCard : Claim7 := { stood := { row := fnExactProgCheckUptoRow, standIns := [], harness := (true, "8757a5a9f84c47a8f0decb62d942ac5235bce92adcfe6be75009c099f74fde3a"), looks := true }, kinds := [], alts := [], laidByText := true, laidKinds := [.handle], laidTests := true, laidLooks := .later }
def FnExactProgCheckUptoCardSaid : Prop := Claim7.holds Tryz.pinned (.plain (OpenSpec.upto fnExactProgCheckSpec)) fnExactProgCheckUptoCard

/-- THE SECOND FORM's CARD OF 'laws.FnExactProgNames'. -/
def fnExactProgNamesUptoCard : Claim7 := { stood := { row := fnExactProgNamesUptoRow, standIns := [], harness := (true, "8757a5a9f84c47a8f0decb62d942ac5235bce92adcfe6be75009c099f74fde3a"), looks := true }, kinds := [], alts := [], laidByText := true, laidKinds := [.handle], laidTests := true, laidLooks := .later }
def FnExactProgNamesUptoCardSaid : Prop := Claim7.holds Tryz.pinned (.plain (OpenSpec.upto fnExactProgNamesSpec)) fnExactProgNamesUptoCard

/-- THE SECOND FORM's CARD OF 'laws.FnExactProgHeads'. -/
def fnExactProgHeadsUptoCard : Claim7 := { stood := { row := fnExactProgHeadsUptoRow, standIns := [], harness := (true, "8757a5a9f84c47a8f0decb62d942ac5235bce92adcfe6be75009c099f74fde3a"), looks := true }, kinds := [], alts := [], laidByText := true, laidKinds := [.handle], laidTests := true, laidLooks := .later }
def FnExactProgHeadsUptoCardSaid : Prop := Claim7.holds Tryz.pinned (.plain (OpenSpec.upto fnExactProgHeadsSpec)) fnExactProgHeadsUptoCard

/-- THE SECOND FORM's CARD OF 'laws.FnExactProgStrata'. -/
def fnExactProgStrataUptoCard : Claim7 := { stood := { row := fnExactProgStrataUptoRow, standIns := [], harness := (true, "8757a5a9f84c47a8f0decb62d942ac5235bce92adcfe6be75009c099f74fde3a"), looks := true }, kinds := [], alts := [], laidByText := true, laidKinds := [.handle], laidTests := true, laidLooks := .later }
def FnExactProgStrataUptoCardSaid : Prop := Claim7.holds Tryz.pinned (.plain (OpenSpec.upto fnExactProgStrataSpec)) fnExactProgStrataUptoCard

/-- THE SECOND FORM's CARD OF 'laws.FnExactProgNeeds'. -/
def fnExactProgNeedsUptoCard : Claim7 := { stood := { row := fnExactProgNeedsUptoRow, standIns := [], harness := (true, "8757a5a9f84c47a8f0decb62d942ac5235bce92adcfe6be75009c099f74fde3a"), looks := true }, kinds := [], alts := [], laidByText := true, laidKinds := [.handle], laidTests := true, laidLooks := .later }
def FnExactProgNeedsUptoCardSaid : Prop := Claim7.holds Tryz.pinned (.plain (OpenSpec.upto fnExactProgNeedsSpec)) fnExactProgNeedsUptoCard

/-- THE SECOND FORM's CARD OF 'laws.FnExactBaseNew'. -/
def fnExactBaseNewUptoCard : Claim7 := { stood := { row := fnExactBaseNewUptoRow, standIns := [], harness := (true, "8757a5a9f84c47a8f0decb62d942ac5235bce92adcfe6be75009c099f74fde3a"), looks := true }, kinds := [], alts := [], laidByText := true, laidKinds := [.handle], laidTests := true, laidLooks := .later }
def FnExactBaseNewUptoCardSaid : Prop := Claim7.holds Tryz.pinned (.plain (OpenSpec.upto fnExactBaseNewSpec)) fnExactBaseNewUptoCard

/-- THE SECOND FORM's CARD OF 'laws.FnExactServeNew'. -/
def fnExactServeNewUptoCard : Claim7 := { stood := { row := fnExactServeNewUptoRow, standIns := [], harness := (true, "8757a5a9f84c47a8f0decb62d942ac5235bce92adcfe6be75009c099f74fde3a"), looks := true }, kinds := [], alts := [], laidByText := true, laidKinds := [.handle], laidTests := true, laidLooks := .later }
def FnExactServeNewUptoCardSaid : Prop := Claim7.holds Tryz.pinned (.plain (OpenSpec.upto fnExactServeNewSpec)) fnExactServeNewUptoCard

/-- THE SECOND FORM's CARD OF 'laws.FnExactFactsFit'. -/
def fnExactFactsFitUptoCard : Claim7 := { stood := { row := fnExactFactsFitUptoRow, standIns := [], harness := (true, "8757a5a9f84c47a8f0decb62d942ac5235bce92adcfe6be75009c099f74fde3a"), looks := true }, kinds := [], alts := [], laidByText := true, laidKinds := [.handle], laidTests := true, laidLooks := .later }
def FnExactFactsFitUptoCardSaid : Prop := Claim7.holds Tryz.pinned (.plain (OpenSpec.upto fnExactFactsFitSpec)) fnExactFactsFitUptoCard

/-- THE SECOND FORM's CARD OF 'laws.FnProgCheck'. -/
def fnProgCheckUptoCard : Claim7 := { stood := { row := fnProgCheckUptoRow, standIns := [], harness := (true, "8757a5a9f84c47a8f0decb62d942ac5235bce92adcfe6be75009c099f74fde3a"), looks := true }, kinds := [], alts := [], laidByText := true, laidKinds := [.handle], laidTests := true, laidLooks := .later }
def FnProgCheckUptoCardSaid : Prop := Claim7.holds Tryz.pinned (.plain (OpenSpec.upto fnProgCheckSpec)) fnProgCheckUptoCard

/-- THE SECOND FORM's CARD OF 'laws.FnProgStrata'. -/
def fnProgStrataUptoCard : Claim7 := { stood := { row := fnProgStrataUptoRow, standIns := [], harness := (true, "8757a5a9f84c47a8f0decb62d942ac5235bce92adcfe6be75009c099f74fde3a"), looks := true }, kinds := [], alts := [], laidByText := true, laidKinds := [.handle], laidTests := true, laidLooks := .later }
def FnProgStrataUptoCardSaid : Prop := Claim7.holds Tryz.pinned (.plain (OpenSpec.upto fnProgStrataSpec)) fnProgStrataUptoCard

/-- THE SECOND FORM's CARD OF 'laws.FnProgNeeds'. -/
def fnProgNeedsUptoCard : Claim7 := { stood := { row := fnProgNeedsUptoRow, standIns := [], harness := (true, "8757a5a9f84c47a8f0decb62d942ac5235bce92adcfe6be75009c099f74fde3a"), looks := true }, kinds := [], alts := [], laidByText := true, laidKinds := [.handle], laidTests := true, laidLooks := .later }
def FnProgNeedsUptoCardSaid : Prop := Claim7.holds Tryz.pinned (.plain (OpenSpec.upto fnProgNeedsSpec)) fnProgNeedsUptoCard
end Rows
end Go.Proofs.YtnhbnhibphjljaaGreatDoor
