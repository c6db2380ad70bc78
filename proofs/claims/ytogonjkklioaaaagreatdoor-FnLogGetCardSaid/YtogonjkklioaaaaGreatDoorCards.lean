/-
  DERIVED. GIVEN WITH THE SEED: THE CARDS: each row of YtogonjkklioaaaaGreatDoorRows.lean that lists a variable, with what it lists TIED to the program's text (the seventh form; the later family's looks); each row that meets fmt, with fmt's text TOLD by the authors' own Lean function (tested against real Go, not proved from fmt's source: count such statements apart). THE CARD IS WHAT COUNTS. Prove the row's statement (the work); the ties are given (YtogonjkklioaaaaGreatDoorTie.lean); close each card by the builder's one call (the guide's Derived/Test/ToyasCard.lean, 'card_holds'). Laid BY PROGRAM, IN A SANDBOX (cutbox-door.mjs). By AI agents, Wed Nov 11 2026. No macro, syntax, notation, axiom, sorry.
-/
import Derived.Test.YtogonjkklioaaaaGreatDoorRows
import GoSem.ClaimSeven
namespace Go.Proofs.YtogonjkklioaaaaGreatDoor
namespace Rows

/-- THE TIED CARD OF 'laws.FnChangeText'. -/
def fnChangeTextCard : Claim7 := { stood := { row := fnChangeTextRow, standIns := [], harness := (true, "c92229624fd646c05176f33b30616ee934e108cb27597642ec8bba20663d297d"), looks := true }, kinds := [], alts := [], laidByText := true, laidKinds := [.data, .sentinel, .pinned], laidTests := true, laidLooks := .later }
def FnChangeTextCardSaid : Prop := Claim7.holds Tryz.pinned (.plain (OpenSpec.ofChange fnChangeTextSpec)) fnChangeTextCard

/-- THE TIED CARD OF 'laws.FnExactLogGet'. -/
def fnExactLogGetCard : Claim7 := { stood := { row := fnExactLogGetRow, standIns := [], harness := (true, "c92229624fd646c05176f33b30616ee934e108cb27597642ec8bba20663d297d"), looks := true }, kinds := [], alts := [], laidByText := true, laidKinds := [.data, .data, .data, .data, .sentinel, .pinned], laidTests := true, laidLooks := .later }
def FnExactLogGetCardSaid : Prop := Claim7.holds Tryz.pinned (.plain (OpenSpec.ofChange fnExactLogGetSpec)) fnExactLogGetCard

/-- THE TIED CARD OF 'laws.FnLogGet'. -/
def fnLogGetCard : Claim7 := { stood := { row := fnLogGetRow, standIns := [], harness := (true, "c92229624fd646c05176f33b30616ee934e108cb27597642ec8bba20663d297d"), looks := true }, kinds := [], alts := [], laidByText := true, laidKinds := [.data, .data, .data, .data, .sentinel, .pinned], laidTests := true, laidLooks := .later }
def FnLogGetCardSaid : Prop := Claim7.holds Tryz.pinned (.plain (OpenSpec.ofChange fnLogGetSpec)) fnLogGetCard

/-- THE TIED CARD OF 'laws.FnLogTorn'. -/
def fnLogTornCard : Claim7 := { stood := { row := fnLogTornRow, standIns := [], harness := (true, "c92229624fd646c05176f33b30616ee934e108cb27597642ec8bba20663d297d"), looks := true }, kinds := [], alts := [], laidByText := true, laidKinds := [.data, .data, .data, .data, .sentinel, .pinned], laidTests := true, laidLooks := .later }
def FnLogTornCardSaid : Prop := Claim7.holds Tryz.pinned (.plain (OpenSpec.ofChange fnLogTornSpec)) fnLogTornCard

/-- THE SECOND FORM's CARD OF 'laws.FnChangeText'. -/
def fnChangeTextUptoCard : Claim7 := { stood := { row := fnChangeTextUptoRow, standIns := [], harness := (true, "c92229624fd646c05176f33b30616ee934e108cb27597642ec8bba20663d297d"), looks := true }, kinds := [], alts := [], laidByText := true, laidKinds := [.data, .sentinel, .pinned], laidTests := true, laidLooks := .later }
def FnChangeTextUptoCardSaid : Prop := Claim7.holds Tryz.pinned (.plain (OpenSpec.upto fnChangeTextSpec)) fnChangeTextUptoCard

/-- THE SECOND FORM's CARD OF 'laws.FnExactLogGet'. -/
def fnExactLogGetUptoCard : Claim7 := { stood := { row := fnExactLogGetUptoRow, standIns := [], harness := (true, "c92229624fd646c05176f33b30616ee934e108cb27597642ec8bba20663d297d"), looks := true }, kinds := [], alts := [], laidByText := true, laidKinds := [.data, .data, .data, .data, .sentinel, .pinned], laidTests := true, laidLooks := .later }
def FnExactLogGetUptoCardSaid : Prop := Claim7.holds Tryz.pinned (.plain (OpenSpec.upto fnExactLogGetSpec)) fnExactLogGetUptoCard

/-- THE SECOND FORM's CARD OF 'laws.FnLogGet'. -/
def fnLogGetUptoCard : Claim7 := { stood := { row := fnLogGetUptoRow, standIns := [], harness := (true, "c92229624fd646c05176f33b30616ee934e108cb27597642ec8bba20663d297d"), looks := true }, kinds := [], alts := [], laidByText := true, laidKinds := [.data, .data, .data, .data, .sentinel, .pinned], laidTests := true, laidLooks := .later }
def FnLogGetUptoCardSaid : Prop := Claim7.holds Tryz.pinned (.plain (OpenSpec.upto fnLogGetSpec)) fnLogGetUptoCard

/-- THE SECOND FORM's CARD OF 'laws.FnLogTorn'. -/
def fnLogTornUptoCard : Claim7 := { stood := { row := fnLogTornUptoRow, standIns := [], harness := (true, "c92229624fd646c05176f33b30616ee934e108cb27597642ec8bba20663d297d"), looks := true }, kinds := [], alts := [], laidByText := true, laidKinds := [.data, .data, .data, .data, .sentinel, .pinned], laidTests := true, laidLooks := .later }
def FnLogTornUptoCardSaid : Prop := Claim7.holds Tryz.pinned (.plain (OpenSpec.upto fnLogTornSpec)) fnLogTornUptoCard
end Rows
end Go.Proofs.YtogonjkklioaaaaGreatDoor
