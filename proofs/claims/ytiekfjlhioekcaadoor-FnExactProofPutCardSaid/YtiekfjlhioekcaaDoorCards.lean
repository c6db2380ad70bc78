/-
  DERIVED. GIVEN WITH THE SEED: THE CARDS: each row of YtiekfjlhioekcaaDoorRows.lean that lists a variable, with what it lists TIED to the program's text (the seventh form; the later family's looks); each row that meets fmt, with fmt's text TOLD by the authors' own Lean function (tested against real Go, not proved from fmt's source: count such statements apart). THE CARD IS WHAT COUNTS. Prove the row's statement (the work); the ties are given (YtiekfjlhioekcaaDoorTie.lean); close each card by the builder's one call (the guide's Derived/Test/ToyasCard.lean, 'card_holds'). Laid BY PROGRAM, IN A SANDBOX (cutbox-door.mjs). By AI agents, Wed Nov 11 2026. No macro, syntax, notation, axiom, sorry.
-/
import Derived.Test.YtiekfjlhioekcaaDoorRows
import GoSem.ClaimSeven
namespace Go.Proofs.YtiekfjlhioekcaaDoor
namespace Rows

/-- THE TIED CARD OF 'laws.FnExactProofPut'. -/
def fnExactProofPutCard : Claim7 := { stood := { row := fnExactProofPutRow, standIns := [], harness := (true, "fb71f95237062cf084fad009e1642ac2da4291047ff9a790fd2ece08daae8991"), looks := false }, kinds := [], alts := [], laidByText := true, laidKinds := [.data, .data, .data], laidTests := true, laidLooks := .later }
def FnExactProofPutCardSaid : Prop := Claim7.holds Tryd.pinned (.plain (OpenSpec.ofChange fnExactProofPutSpec)) fnExactProofPutCard

/-- THE SECOND FORM's CARD OF 'laws.FnExactProofPut'. -/
def fnExactProofPutUptoCard : Claim7 := { stood := { row := fnExactProofPutUptoRow, standIns := [], harness := (true, "fb71f95237062cf084fad009e1642ac2da4291047ff9a790fd2ece08daae8991"), looks := false }, kinds := [], alts := [], laidByText := true, laidKinds := [.data, .data, .data], laidTests := true, laidLooks := .later }
def FnExactProofPutUptoCardSaid : Prop := Claim7.holds Tryd.pinned (.plain (OpenSpec.upto fnExactProofPutSpec)) fnExactProofPutUptoCard
end Rows
end Go.Proofs.YtiekfjlhioekcaaDoor
