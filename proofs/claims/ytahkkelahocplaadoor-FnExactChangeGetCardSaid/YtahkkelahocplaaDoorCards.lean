/-
  DERIVED. GIVEN WITH THE SEED: THE CARDS: each row of YtahkkelahocplaaDoorRows.lean that lists a variable, with what it lists TIED to the program's text (the seventh form; the later family's looks); each row that meets fmt, with fmt's text TOLD by the authors' own Lean function (tested against real Go, not proved from fmt's source: count such statements apart). THE CARD IS WHAT COUNTS. Prove the row's statement (the work); the ties are given (YtahkkelahocplaaDoorTie.lean); close each card by the builder's one call (the guide's Derived/Test/ToyasCard.lean, 'card_holds'). Laid BY PROGRAM, IN A SANDBOX (cutbox-door.mjs). By AI agents, Wed Nov 11 2026. No macro, syntax, notation, axiom, sorry.
-/
import Derived.Test.YtahkkelahocplaaDoorRows
import GoSem.ClaimSeven
namespace Go.Proofs.YtahkkelahocplaaDoor
namespace Rows

/-- THE TIED CARD OF 'laws.FnExactAtomGet'. -/
def fnExactAtomGetCard : Claim7 := { stood := { row := fnExactAtomGetRow, standIns := [], harness := (true, "a68b194fff20b8ea806d613c82b5e757e0beeae38dbde38fbd567198bd462b98"), looks := true }, kinds := [], alts := [], laidByText := true, laidKinds := [.data, .pinned], laidTests := true, laidLooks := .later }
def FnExactAtomGetCardSaid : Prop := Claim7.holds Tryd.pinned (.plain (OpenSpec.ofChange fnExactAtomGetSpec)) fnExactAtomGetCard

/-- THE TIED CARD OF 'laws.FnAtomText'. -/
def fnAtomTextCard : Claim7 := { stood := { row := fnAtomTextRow, standIns := [], harness := (true, "a68b194fff20b8ea806d613c82b5e757e0beeae38dbde38fbd567198bd462b98"), looks := true }, kinds := [], alts := [], laidByText := true, laidKinds := [.data, .pinned], laidTests := true, laidLooks := .later }
def FnAtomTextCardSaid : Prop := Claim7.holds Tryd.pinned (.plain (OpenSpec.ofChange fnAtomTextSpec)) fnAtomTextCard

/-- THE TIED CARD OF 'laws.FnExactRuleGet'. -/
def fnExactRuleGetCard : Claim7 := { stood := { row := fnExactRuleGetRow, standIns := [], harness := (true, "a68b194fff20b8ea806d613c82b5e757e0beeae38dbde38fbd567198bd462b98"), looks := true }, kinds := [], alts := [], laidByText := true, laidKinds := [.data, .pinned], laidTests := true, laidLooks := .later }
def FnExactRuleGetCardSaid : Prop := Claim7.holds Tryd.pinned (.plain (OpenSpec.ofChange fnExactRuleGetSpec)) fnExactRuleGetCard

/-- THE TIED CARD OF 'laws.FnRuleText'. -/
def fnRuleTextCard : Claim7 := { stood := { row := fnRuleTextRow, standIns := [], harness := (true, "a68b194fff20b8ea806d613c82b5e757e0beeae38dbde38fbd567198bd462b98"), looks := true }, kinds := [], alts := [], laidByText := true, laidKinds := [.data, .pinned], laidTests := true, laidLooks := .later }
def FnRuleTextCardSaid : Prop := Claim7.holds Tryd.pinned (.plain (OpenSpec.ofChange fnRuleTextSpec)) fnRuleTextCard

/-- THE TIED CARD OF 'laws.FnExactAskGet'. -/
def fnExactAskGetCard : Claim7 := { stood := { row := fnExactAskGetRow, standIns := [], harness := (true, "a68b194fff20b8ea806d613c82b5e757e0beeae38dbde38fbd567198bd462b98"), looks := true }, kinds := [], alts := [], laidByText := true, laidKinds := [.data, .pinned], laidTests := true, laidLooks := .later }
def FnExactAskGetCardSaid : Prop := Claim7.holds Tryd.pinned (.plain (OpenSpec.ofChange fnExactAskGetSpec)) fnExactAskGetCard

/-- THE TIED CARD OF 'laws.FnAskText'. -/
def fnAskTextCard : Claim7 := { stood := { row := fnAskTextRow, standIns := [], harness := (true, "a68b194fff20b8ea806d613c82b5e757e0beeae38dbde38fbd567198bd462b98"), looks := true }, kinds := [], alts := [], laidByText := true, laidKinds := [.data, .pinned], laidTests := true, laidLooks := .later }
def FnAskTextCardSaid : Prop := Claim7.holds Tryd.pinned (.plain (OpenSpec.ofChange fnAskTextSpec)) fnAskTextCard

/-- THE TIED CARD OF 'laws.FnExactChangeGet'. -/
def fnExactChangeGetCard : Claim7 := { stood := { row := fnExactChangeGetRow, standIns := [], harness := (true, "a68b194fff20b8ea806d613c82b5e757e0beeae38dbde38fbd567198bd462b98"), looks := true }, kinds := [], alts := [], laidByText := true, laidKinds := [.data, .sentinel, .pinned], laidTests := true, laidLooks := .later }
def FnExactChangeGetCardSaid : Prop := Claim7.holds Tryd.pinned (.plain (OpenSpec.ofChange fnExactChangeGetSpec)) fnExactChangeGetCard

/-- THE SECOND FORM's CARD OF 'laws.FnExactAtomGet'. -/
def fnExactAtomGetUptoCard : Claim7 := { stood := { row := fnExactAtomGetUptoRow, standIns := [], harness := (true, "a68b194fff20b8ea806d613c82b5e757e0beeae38dbde38fbd567198bd462b98"), looks := true }, kinds := [], alts := [], laidByText := true, laidKinds := [.data, .pinned], laidTests := true, laidLooks := .later }
def FnExactAtomGetUptoCardSaid : Prop := Claim7.holds Tryd.pinned (.plain (OpenSpec.upto fnExactAtomGetSpec)) fnExactAtomGetUptoCard

/-- THE SECOND FORM's CARD OF 'laws.FnAtomText'. -/
def fnAtomTextUptoCard : Claim7 := { stood := { row := fnAtomTextUptoRow, standIns := [], harness := (true, "a68b194fff20b8ea806d613c82b5e757e0beeae38dbde38fbd567198bd462b98"), looks := true }, kinds := [], alts := [], laidByText := true, laidKinds := [.data, .pinned], laidTests := true, laidLooks := .later }
def FnAtomTextUptoCardSaid : Prop := Claim7.holds Tryd.pinned (.plain (OpenSpec.upto fnAtomTextSpec)) fnAtomTextUptoCard

/-- THE SECOND FORM's CARD OF 'laws.FnExactRuleGet'. -/
def fnExactRuleGetUptoCard : Claim7 := { stood := { row := fnExactRuleGetUptoRow, standIns := [], harness := (true, "a68b194fff20b8ea806d613c82b5e757e0beeae38dbde38fbd567198bd462b98"), looks := true }, kinds := [], alts := [], laidByText := true, laidKinds := [.data, .pinned], laidTests := true, laidLooks := .later }
def FnExactRuleGetUptoCardSaid : Prop := Claim7.holds Tryd.pinned (.plain (OpenSpec.upto fnExactRuleGetSpec)) fnExactRuleGetUptoCard

/-- THE SECOND FORM's CARD OF 'laws.FnRuleText'. -/
def fnRuleTextUptoCard : Claim7 := { stood := { row := fnRuleTextUptoRow, standIns := [], harness := (true, "a68b194fff20b8ea806d613c82b5e757e0beeae38dbde38fbd567198bd462b98"), looks := true }, kinds := [], alts := [], laidByText := true, laidKinds := [.data, .pinned], laidTests := true, laidLooks := .later }
def FnRuleTextUptoCardSaid : Prop := Claim7.holds Tryd.pinned (.plain (OpenSpec.upto fnRuleTextSpec)) fnRuleTextUptoCard

/-- THE SECOND FORM's CARD OF 'laws.FnExactAskGet'. -/
def fnExactAskGetUptoCard : Claim7 := { stood := { row := fnExactAskGetUptoRow, standIns := [], harness := (true, "a68b194fff20b8ea806d613c82b5e757e0beeae38dbde38fbd567198bd462b98"), looks := true }, kinds := [], alts := [], laidByText := true, laidKinds := [.data, .pinned], laidTests := true, laidLooks := .later }
def FnExactAskGetUptoCardSaid : Prop := Claim7.holds Tryd.pinned (.plain (OpenSpec.upto fnExactAskGetSpec)) fnExactAskGetUptoCard

/-- THE SECOND FORM's CARD OF 'laws.FnAskText'. -/
def fnAskTextUptoCard : Claim7 := { stood := { row := fnAskTextUptoRow, standIns := [], harness := (true, "a68b194fff20b8ea806d613c82b5e757e0beeae38dbde38fbd567198bd462b98"), looks := true }, kinds := [], alts := [], laidByText := true, laidKinds := [.data, .pinned], laidTests := true, laidLooks := .later }
def FnAskTextUptoCardSaid : Prop := Claim7.holds Tryd.pinned (.plain (OpenSpec.upto fnAskTextSpec)) fnAskTextUptoCard

/-- THE SECOND FORM's CARD OF 'laws.FnExactChangeGet'. -/
def fnExactChangeGetUptoCard : Claim7 := { stood := { row := fnExactChangeGetUptoRow, standIns := [], harness := (true, "a68b194fff20b8ea806d613c82b5e757e0beeae38dbde38fbd567198bd462b98"), looks := true }, kinds := [], alts := [], laidByText := true, laidKinds := [.data, .sentinel, .pinned], laidTests := true, laidLooks := .later }
def FnExactChangeGetUptoCardSaid : Prop := Claim7.holds Tryd.pinned (.plain (OpenSpec.upto fnExactChangeGetSpec)) fnExactChangeGetUptoCard
end Rows
end Go.Proofs.YtahkkelahocplaaDoor
