/-
  NARROWER THAN 'FOR EVERY INPUT', by the rows' own cells (each row's printed sentence says how): FnExactProgCheck: laid · FnExactProgNames: laid · FnExactProgHeads: laid · FnExactProgStrata: laid · FnExactProgNeeds: laid · FnExactBaseNew: laid · FnExactServeNew: laid · FnExactFactsFit: laid · FnProgCheck: laid · FnProgStrata: laid · FnProgNeeds: laid.
  DERIVED. THE GIVEN ROWS OF THIS SEAT. 11 by the template 'for every input the law returns true; each argument reads behind the call as it read before'; 0 by the template 'total and deterministic' (their statements: YtnhbnhibphjljaaGreatDoorTotals.lean).
  GIVEN WITH THE SEED: the statements are not yours to turn. If you find one false, say at which input.
  Laid BY PROGRAM, IN A SANDBOX (cutbox-rows.mjs): the forced cells as the released guide's own fill.sh prints them over the translation 60d4911431f5ebd8… (all of the seat's roots in one cut). By AI agents, Wed Nov 11 2026. No macro, syntax, notation, axiom, sorry.
-/
import Derived.Test.YtnhbnhibphjljaaGreatDoorChecked
import GoSem.Claim
import GoSem.ClaimJoined
import GoSem.ClaimMapViews
import Derived.JoinedTies
import Derived.KernelRfl
namespace Go.Proofs.YtnhbnhibphjljaaGreatDoor
/- THE CELL 'sum', in the pinned program and in every row, IS THE sha256 OF THE DUMP (.gsa) THAT YtnhbnhibphjljaaGreatDoorProg.lean LOADS. Nothing in Lean hashes anything: it is a label: what it is worth is what the hold of that sum in a sandbox is worth. -/
noncomputable def Tryz.pinned : Pinned := { name := "ytnhbnhibphjljaagreatdoor", sum := "60d4911431f5ebd8959f844f220ca754fb9e4d4f7c4bc8fe5205e0147ee488dc", checked := Tryz.checked }
namespace Rows
def none {H : Type} : Left H := { results := [], args := [] }

/- WHAT THE LISTED PACKAGE-LEVEL VARIABLES READ AS WHEN THE CALL BEGINS. Each datum BY PROGRAM (the guide's laid-datum.mjs) off the statement by which the dump's own 'gosem.cut.vars' lays the variable. In a bare row this is a premise. The card (YtnhbnhibphjljaaGreatDoorCards.lean) ties it to the program's text. -/
def laid_errors_errorType {H : Type} : DataW H := .iface "internal/reflectlite.rtype" (.agg [.ptr (.lit (.string [101, 114, 114, 111, 114]))])

/-- 'laws.FnExactProgCheck': WHATEVER THE INPUT: true; the input reads as it did. -/
def fnExactProgCheckSpec : ChangeSpec := { name := "fnExactProgCheck", fn := fun _ => fun
  | [d] => { results := [.lit (.bool true)], args := [d] }
  | _ => none }
def fnExactProgCheckRow : OpenClaim := { program := "ytnhbnhibphjljaagreatdoor", sum := "60d4911431f5ebd8959f844f220ca754fb9e4d4f7c4bc8fe5205e0147ee488dc", func := "loop.example/springhead/laws.FnExactProgCheck", spec := "fnExactProgCheck", inPlace := ["internal/reflectlite.ValueOf", "(internal/reflectlite.Value).Type", "(internal/reflectlite.Value).IsNil", "internal/reflectlite.TypeOf", "(internal/reflectlite.Value).Elem", "(internal/reflectlite.Value).Set"], unfollowed := true, recurses := true, named := ["errors.errorType"], apart := false, laid := [("errors.errorType", laid_errors_errorType)] }
def FnExactProgCheckSaid : Prop := fnExactProgCheckRow.holds Tryz.pinned (OpenSpec.ofChange fnExactProgCheckSpec)

/-- ITS FALSE NEIGHBOUR: 'it returns false'. Refute it at one input. -/
def fnExactProgCheckWrong : ChangeSpec := { name := "fnExactProgCheck", fn := fun _ => fun
  | [d] => { results := [.lit (.bool false)], args := [d] }
  | _ => none }
def FnExactProgCheckWrongFalsely : Prop := fnExactProgCheckRow.holds Tryz.pinned (OpenSpec.ofChange fnExactProgCheckWrong)

/-- 'laws.FnExactProgNames': WHATEVER THE INPUT: true; the input reads as it did. -/
def fnExactProgNamesSpec : ChangeSpec := { name := "fnExactProgNames", fn := fun _ => fun
  | [d] => { results := [.lit (.bool true)], args := [d] }
  | _ => none }
def fnExactProgNamesRow : OpenClaim := { program := "ytnhbnhibphjljaagreatdoor", sum := "60d4911431f5ebd8959f844f220ca754fb9e4d4f7c4bc8fe5205e0147ee488dc", func := "loop.example/springhead/laws.FnExactProgNames", spec := "fnExactProgNames", inPlace := ["internal/reflectlite.ValueOf", "(internal/reflectlite.Value).Type", "(internal/reflectlite.Value).IsNil", "internal/reflectlite.TypeOf", "(internal/reflectlite.Value).Elem", "(internal/reflectlite.Value).Set"], unfollowed := true, recurses := true, named := ["errors.errorType"], apart := false, laid := [("errors.errorType", laid_errors_errorType)] }
def FnExactProgNamesSaid : Prop := fnExactProgNamesRow.holds Tryz.pinned (OpenSpec.ofChange fnExactProgNamesSpec)

/-- ITS FALSE NEIGHBOUR: 'it returns false'. Refute it at one input. -/
def fnExactProgNamesWrong : ChangeSpec := { name := "fnExactProgNames", fn := fun _ => fun
  | [d] => { results := [.lit (.bool false)], args := [d] }
  | _ => none }
def FnExactProgNamesWrongFalsely : Prop := fnExactProgNamesRow.holds Tryz.pinned (OpenSpec.ofChange fnExactProgNamesWrong)

/-- 'laws.FnExactProgHeads': WHATEVER THE INPUT: true; the input reads as it did. -/
def fnExactProgHeadsSpec : ChangeSpec := { name := "fnExactProgHeads", fn := fun _ => fun
  | [d1, d2] => { results := [.lit (.bool true)], args := [d1, d2] }
  | _ => none }
def fnExactProgHeadsRow : OpenClaim := { program := "ytnhbnhibphjljaagreatdoor", sum := "60d4911431f5ebd8959f844f220ca754fb9e4d4f7c4bc8fe5205e0147ee488dc", func := "loop.example/springhead/laws.FnExactProgHeads", spec := "fnExactProgHeads", inPlace := ["internal/reflectlite.ValueOf", "(internal/reflectlite.Value).Type", "(internal/reflectlite.Value).IsNil", "internal/reflectlite.TypeOf", "(internal/reflectlite.Value).Elem", "(internal/reflectlite.Value).Set"], unfollowed := true, recurses := true, named := ["errors.errorType"], apart := false, laid := [("errors.errorType", laid_errors_errorType)] }
def FnExactProgHeadsSaid : Prop := fnExactProgHeadsRow.holds Tryz.pinned (OpenSpec.ofChange fnExactProgHeadsSpec)

/-- ITS FALSE NEIGHBOUR: 'it returns false'. Refute it at one input. -/
def fnExactProgHeadsWrong : ChangeSpec := { name := "fnExactProgHeads", fn := fun _ => fun
  | [d1, d2] => { results := [.lit (.bool false)], args := [d1, d2] }
  | _ => none }
def FnExactProgHeadsWrongFalsely : Prop := fnExactProgHeadsRow.holds Tryz.pinned (OpenSpec.ofChange fnExactProgHeadsWrong)

/-- 'laws.FnExactProgStrata': WHATEVER THE INPUT: true; the input reads as it did. -/
def fnExactProgStrataSpec : ChangeSpec := { name := "fnExactProgStrata", fn := fun _ => fun
  | [d] => { results := [.lit (.bool true)], args := [d] }
  | _ => none }
def fnExactProgStrataRow : OpenClaim := { program := "ytnhbnhibphjljaagreatdoor", sum := "60d4911431f5ebd8959f844f220ca754fb9e4d4f7c4bc8fe5205e0147ee488dc", func := "loop.example/springhead/laws.FnExactProgStrata", spec := "fnExactProgStrata", inPlace := ["internal/reflectlite.ValueOf", "(internal/reflectlite.Value).Type", "(internal/reflectlite.Value).IsNil", "internal/reflectlite.TypeOf", "(internal/reflectlite.Value).Elem", "(internal/reflectlite.Value).Set"], unfollowed := true, recurses := true, named := ["errors.errorType"], apart := false, laid := [("errors.errorType", laid_errors_errorType)] }
def FnExactProgStrataSaid : Prop := fnExactProgStrataRow.holds Tryz.pinned (OpenSpec.ofChange fnExactProgStrataSpec)

/-- ITS FALSE NEIGHBOUR: 'it returns false'. Refute it at one input. -/
def fnExactProgStrataWrong : ChangeSpec := { name := "fnExactProgStrata", fn := fun _ => fun
  | [d] => { results := [.lit (.bool false)], args := [d] }
  | _ => none }
def FnExactProgStrataWrongFalsely : Prop := fnExactProgStrataRow.holds Tryz.pinned (OpenSpec.ofChange fnExactProgStrataWrong)

/-- 'laws.FnExactProgNeeds': WHATEVER THE INPUT: true; the input reads as it did. -/
def fnExactProgNeedsSpec : ChangeSpec := { name := "fnExactProgNeeds", fn := fun _ => fun
  | [d1, d2] => { results := [.lit (.bool true)], args := [d1, d2] }
  | _ => none }
def fnExactProgNeedsRow : OpenClaim := { program := "ytnhbnhibphjljaagreatdoor", sum := "60d4911431f5ebd8959f844f220ca754fb9e4d4f7c4bc8fe5205e0147ee488dc", func := "loop.example/springhead/laws.FnExactProgNeeds", spec := "fnExactProgNeeds", inPlace := ["internal/reflectlite.ValueOf", "(internal/reflectlite.Value).Type", "(internal/reflectlite.Value).IsNil", "internal/reflectlite.TypeOf", "(internal/reflectlite.Value).Elem", "(internal/reflectlite.Value).Set"], unfollowed := true, recurses := true, named := ["errors.errorType"], apart := false, laid := [("errors.errorType", laid_errors_errorType)] }
def FnExactProgNeedsSaid : Prop := fnExactProgNeedsRow.holds Tryz.pinned (OpenSpec.ofChange fnExactProgNeedsSpec)

/-- ITS FALSE NEIGHBOUR: 'it returns false'. Refute it at one input. -/
def fnExactProgNeedsWrong : ChangeSpec := { name := "fnExactProgNeeds", fn := fun _ => fun
  | [d1, d2] => { results := [.lit (.bool false)], args := [d1, d2] }
  | _ => none }
def FnExactProgNeedsWrongFalsely : Prop := fnExactProgNeedsRow.holds Tryz.pinned (OpenSpec.ofChange fnExactProgNeedsWrong)

/-- 'laws.FnExactBaseNew': WHATEVER THE INPUT: true; the input reads as it did. -/
def fnExactBaseNewSpec : ChangeSpec := { name := "fnExactBaseNew", fn := fun _ => fun
  | [d] => { results := [.lit (.bool true)], args := [d] }
  | _ => none }
def fnExactBaseNewRow : OpenClaim := { program := "ytnhbnhibphjljaagreatdoor", sum := "60d4911431f5ebd8959f844f220ca754fb9e4d4f7c4bc8fe5205e0147ee488dc", func := "loop.example/springhead/laws.FnExactBaseNew", spec := "fnExactBaseNew", inPlace := ["internal/reflectlite.ValueOf", "(internal/reflectlite.Value).Type", "(internal/reflectlite.Value).IsNil", "internal/reflectlite.TypeOf", "(internal/reflectlite.Value).Elem", "(internal/reflectlite.Value).Set"], unfollowed := true, recurses := true, named := ["errors.errorType"], apart := false, laid := [("errors.errorType", laid_errors_errorType)] }
def FnExactBaseNewSaid : Prop := fnExactBaseNewRow.holds Tryz.pinned (OpenSpec.ofChange fnExactBaseNewSpec)

/-- ITS FALSE NEIGHBOUR: 'it returns false'. Refute it at one input. -/
def fnExactBaseNewWrong : ChangeSpec := { name := "fnExactBaseNew", fn := fun _ => fun
  | [d] => { results := [.lit (.bool false)], args := [d] }
  | _ => none }
def FnExactBaseNewWrongFalsely : Prop := fnExactBaseNewRow.holds Tryz.pinned (OpenSpec.ofChange fnExactBaseNewWrong)

/-- 'laws.FnExactServeNew': WHATEVER THE INPUT: true; the input reads as it did. -/
def fnExactServeNewSpec : ChangeSpec := { name := "fnExactServeNew", fn := fun _ => fun
  | [d] => { results := [.lit (.bool true)], args := [d] }
  | _ => none }
def fnExactServeNewRow : OpenClaim := { program := "ytnhbnhibphjljaagreatdoor", sum := "60d4911431f5ebd8959f844f220ca754fb9e4d4f7c4bc8fe5205e0147ee488dc", func := "loop.example/springhead/laws.FnExactServeNew", spec := "fnExactServeNew", inPlace := ["internal/reflectlite.ValueOf", "(internal/reflectlite.Value).Type", "(internal/reflectlite.Value).IsNil", "internal/reflectlite.TypeOf", "(internal/reflectlite.Value).Elem", "(internal/reflectlite.Value).Set"], unfollowed := true, recurses := true, named := ["errors.errorType"], apart := false, laid := [("errors.errorType", laid_errors_errorType)] }
def FnExactServeNewSaid : Prop := fnExactServeNewRow.holds Tryz.pinned (OpenSpec.ofChange fnExactServeNewSpec)

/-- ITS FALSE NEIGHBOUR: 'it returns false'. Refute it at one input. -/
def fnExactServeNewWrong : ChangeSpec := { name := "fnExactServeNew", fn := fun _ => fun
  | [d] => { results := [.lit (.bool false)], args := [d] }
  | _ => none }
def FnExactServeNewWrongFalsely : Prop := fnExactServeNewRow.holds Tryz.pinned (OpenSpec.ofChange fnExactServeNewWrong)

/-- 'laws.FnExactFactsFit': WHATEVER THE INPUT: true; the input reads as it did. -/
def fnExactFactsFitSpec : ChangeSpec := { name := "fnExactFactsFit", fn := fun _ => fun
  | [d1, d2] => { results := [.lit (.bool true)], args := [d1, d2] }
  | _ => none }
def fnExactFactsFitRow : OpenClaim := { program := "ytnhbnhibphjljaagreatdoor", sum := "60d4911431f5ebd8959f844f220ca754fb9e4d4f7c4bc8fe5205e0147ee488dc", func := "loop.example/springhead/laws.FnExactFactsFit", spec := "fnExactFactsFit", inPlace := ["internal/reflectlite.ValueOf", "(internal/reflectlite.Value).Type", "(internal/reflectlite.Value).IsNil", "internal/reflectlite.TypeOf", "(internal/reflectlite.Value).Elem", "(internal/reflectlite.Value).Set", "internal/bytealg.abigen_runtime_cmpstring"], unfollowed := true, recurses := true, named := ["errors.errorType"], apart := false, laid := [("errors.errorType", laid_errors_errorType)] }
def FnExactFactsFitSaid : Prop := fnExactFactsFitRow.holds Tryz.pinned (OpenSpec.ofChange fnExactFactsFitSpec)

/-- ITS FALSE NEIGHBOUR: 'it returns false'. Refute it at one input. -/
def fnExactFactsFitWrong : ChangeSpec := { name := "fnExactFactsFit", fn := fun _ => fun
  | [d1, d2] => { results := [.lit (.bool false)], args := [d1, d2] }
  | _ => none }
def FnExactFactsFitWrongFalsely : Prop := fnExactFactsFitRow.holds Tryz.pinned (OpenSpec.ofChange fnExactFactsFitWrong)

/-- 'laws.FnProgCheck': WHATEVER THE INPUT: true; the input reads as it did. -/
def fnProgCheckSpec : ChangeSpec := { name := "fnProgCheck", fn := fun _ => fun
  | [d] => { results := [.lit (.bool true)], args := [d] }
  | _ => none }
def fnProgCheckRow : OpenClaim := { program := "ytnhbnhibphjljaagreatdoor", sum := "60d4911431f5ebd8959f844f220ca754fb9e4d4f7c4bc8fe5205e0147ee488dc", func := "loop.example/springhead/laws.FnProgCheck", spec := "fnProgCheck", inPlace := ["internal/reflectlite.ValueOf", "(internal/reflectlite.Value).Type", "(internal/reflectlite.Value).IsNil", "internal/reflectlite.TypeOf", "(internal/reflectlite.Value).Elem", "(internal/reflectlite.Value).Set"], unfollowed := true, recurses := true, named := ["errors.errorType"], apart := false, laid := [("errors.errorType", laid_errors_errorType)] }
def FnProgCheckSaid : Prop := fnProgCheckRow.holds Tryz.pinned (OpenSpec.ofChange fnProgCheckSpec)

/-- ITS FALSE NEIGHBOUR: 'it returns false'. Refute it at one input. -/
def fnProgCheckWrong : ChangeSpec := { name := "fnProgCheck", fn := fun _ => fun
  | [d] => { results := [.lit (.bool false)], args := [d] }
  | _ => none }
def FnProgCheckWrongFalsely : Prop := fnProgCheckRow.holds Tryz.pinned (OpenSpec.ofChange fnProgCheckWrong)

/-- 'laws.FnProgStrata': WHATEVER THE INPUT: true; the input reads as it did. -/
def fnProgStrataSpec : ChangeSpec := { name := "fnProgStrata", fn := fun _ => fun
  | [d] => { results := [.lit (.bool true)], args := [d] }
  | _ => none }
def fnProgStrataRow : OpenClaim := { program := "ytnhbnhibphjljaagreatdoor", sum := "60d4911431f5ebd8959f844f220ca754fb9e4d4f7c4bc8fe5205e0147ee488dc", func := "loop.example/springhead/laws.FnProgStrata", spec := "fnProgStrata", inPlace := ["internal/reflectlite.ValueOf", "(internal/reflectlite.Value).Type", "(internal/reflectlite.Value).IsNil", "internal/reflectlite.TypeOf", "(internal/reflectlite.Value).Elem", "(internal/reflectlite.Value).Set"], unfollowed := true, recurses := true, named := ["errors.errorType"], apart := false, laid := [("errors.errorType", laid_errors_errorType)] }
def FnProgStrataSaid : Prop := fnProgStrataRow.holds Tryz.pinned (OpenSpec.ofChange fnProgStrataSpec)

/-- ITS FALSE NEIGHBOUR: 'it returns false'. Refute it at one input. -/
def fnProgStrataWrong : ChangeSpec := { name := "fnProgStrata", fn := fun _ => fun
  | [d] => { results := [.lit (.bool false)], args := [d] }
  | _ => none }
def FnProgStrataWrongFalsely : Prop := fnProgStrataRow.holds Tryz.pinned (OpenSpec.ofChange fnProgStrataWrong)

/-- 'laws.FnProgNeeds': WHATEVER THE INPUT: true; the input reads as it did. -/
def fnProgNeedsSpec : ChangeSpec := { name := "fnProgNeeds", fn := fun _ => fun
  | [d] => { results := [.lit (.bool true)], args := [d] }
  | _ => none }
def fnProgNeedsRow : OpenClaim := { program := "ytnhbnhibphjljaagreatdoor", sum := "60d4911431f5ebd8959f844f220ca754fb9e4d4f7c4bc8fe5205e0147ee488dc", func := "loop.example/springhead/laws.FnProgNeeds", spec := "fnProgNeeds", inPlace := ["internal/reflectlite.ValueOf", "(internal/reflectlite.Value).Type", "(internal/reflectlite.Value).IsNil", "internal/reflectlite.TypeOf", "(internal/reflectlite.Value).Elem", "(internal/reflectlite.Value).Set"], unfollowed := true, recurses := true, named := ["errors.errorType"], apart := false, laid := [("errors.errorType", laid_errors_errorType)] }
def FnProgNeedsSaid : Prop := fnProgNeedsRow.holds Tryz.pinned (OpenSpec.ofChange fnProgNeedsSpec)

/-- ITS FALSE NEIGHBOUR: 'it returns false'. Refute it at one input. -/
def fnProgNeedsWrong : ChangeSpec := { name := "fnProgNeeds", fn := fun _ => fun
  | [d] => { results := [.lit (.bool false)], args := [d] }
  | _ => none }
def FnProgNeedsWrongFalsely : Prop := fnProgNeedsRow.holds Tryz.pinned (OpenSpec.ofChange fnProgNeedsWrong)

/- THE SECOND FORM. 'bulk': how many values and letters a reading holds, each counted each time it is reached (what is shared counts as often as it is met; a slice's spare places count too). A statement '..UptoSaid' is the law's where the arguments, and the package variables that the reading takes, are together of bulk at most 1048576: NARROWER than '..Said'. Prove '..Said' where nothing that the law and all that it calls make is longer than what came in: it says more and counts as full. Else prove '..UptoSaid'. A law counts once. -/
mutual
def uptoBulk {H : Type} : DataW H → Nat
  | .lit (.string bytes) => bytes.length + 1
  | .lit _ => 1
  | .nil => 1
  | .ptr d => uptoBulk d + 1
  | .slice elems spare => uptoBulkAll elems + uptoBulkAll spare + 1
  | .agg parts => uptoBulkAll parts + 1
  | .iface _ d => uptoBulk d + 1
  | .map entries => uptoBulkEntries entries + 1
  | .held _ => 1
def uptoBulkAll {H : Type} : List (DataW H) → Nat
  | [] => 0
  | d :: r => uptoBulk d + uptoBulkAll r
def uptoBulkEntries {H : Type} : List (Lit × DataW H) → Nat
  | [] => 0
  | x :: r => uptoBulkEntry x + uptoBulkEntries r
def uptoBulkEntry {H : Type} : Lit × DataW H → Nat
  | (.string bytes, d) => bytes.length + uptoBulk d + 1
  | (_, d) => uptoBulk d + 1
 end
def uptoSmall : (H : Type) → List (DataW H) → Bool := fun _ ds => decide (uptoBulkAll ds ≤ 1048576)
def OpenSpec.upto (s : _root_.Go.ChangeSpec) : _root_.Go.OpenSpec := { _root_.Go.OpenSpec.ofChange s with cond := some uptoSmall }

/-- 'laws.FnExactProgCheck', WHERE WHAT IT READS IS OF BULK AT MOST 1048576: true; the input reads as it did. -/
def fnExactProgCheckUptoRow : OpenClaim := { program := "ytnhbnhibphjljaagreatdoor", sum := "60d4911431f5ebd8959f844f220ca754fb9e4d4f7c4bc8fe5205e0147ee488dc", func := "loop.example/springhead/laws.FnExactProgCheck", spec := "fnExactProgCheck", inPlace := ["internal/reflectlite.ValueOf", "(internal/reflectlite.Value).Type", "(internal/reflectlite.Value).IsNil", "internal/reflectlite.TypeOf", "(internal/reflectlite.Value).Elem", "(internal/reflectlite.Value).Set"], unfollowed := true, recurses := true, named := ["errors.errorType"], apart := false, laid := [("errors.errorType", laid_errors_errorType)], narrowed := true }
def FnExactProgCheckUptoSaid : Prop := fnExactProgCheckUptoRow.holds Tryz.pinned (OpenSpec.upto fnExactProgCheckSpec)

/-- 'laws.FnExactProgNames', WHERE WHAT IT READS IS OF BULK AT MOST 1048576: true; the input reads as it did. -/
def fnExactProgNamesUptoRow : OpenClaim := { program := "ytnhbnhibphjljaagreatdoor", sum := "60d4911431f5ebd8959f844f220ca754fb9e4d4f7c4bc8fe5205e0147ee488dc", func := "loop.example/springhead/laws.FnExactProgNames", spec := "fnExactProgNames", inPlace := ["internal/reflectlite.ValueOf", "(internal/reflectlite.Value).Type", "(internal/reflectlite.Value).IsNil", "internal/reflectlite.TypeOf", "(internal/reflectlite.Value).Elem", "(internal/reflectlite.Value).Set"], unfollowed := true, recurses := true, named := ["errors.errorType"], apart := false, laid := [("errors.errorType", laid_errors_errorType)], narrowed := true }
def FnExactProgNamesUptoSaid : Prop := fnExactProgNamesUptoRow.holds Tryz.pinned (OpenSpec.upto fnExactProgNamesSpec)

/-- 'laws.FnExactProgHeads', WHERE WHAT IT READS IS OF BULK AT MOST 1048576: true; the input reads as it did. -/
def fnExactProgHeadsUptoRow : OpenClaim := { program := "ytnhbnhibphjljaagreatdoor", sum := "60d4911431f5ebd8959f844f220ca754fb9e4d4f7c4bc8fe5205e0147ee488dc", func := "loop.example/springhead/laws.FnExactProgHeads", spec := "fnExactProgHeads", inPlace := ["internal/reflectlite.ValueOf", "(internal/reflectlite.Value).Type", "(internal/reflectlite.Value).IsNil", "internal/reflectlite.TypeOf", "(internal/reflectlite.Value).Elem", "(internal/reflectlite.Value).Set"], unfollowed := true, recurses := true, named := ["errors.errorType"], apart := false, laid := [("errors.errorType", laid_errors_errorType)], narrowed := true }
def FnExactProgHeadsUptoSaid : Prop := fnExactProgHeadsUptoRow.holds Tryz.pinned (OpenSpec.upto fnExactProgHeadsSpec)

/-- 'laws.FnExactProgStrata', WHERE WHAT IT READS IS OF BULK AT MOST 1048576: true; the input reads as it did. -/
def fnExactProgStrataUptoRow : OpenClaim := { program := "ytnhbnhibphjljaagreatdoor", sum := "60d4911431f5ebd8959f844f220ca754fb9e4d4f7c4bc8fe5205e0147ee488dc", func := "loop.example/springhead/laws.FnExactProgStrata", spec := "fnExactProgStrata", inPlace := ["internal/reflectlite.ValueOf", "(internal/reflectlite.Value).Type", "(internal/reflectlite.Value).IsNil", "internal/reflectlite.TypeOf", "(internal/reflectlite.Value).Elem", "(internal/reflectlite.Value).Set"], unfollowed := true, recurses := true, named := ["errors.errorType"], apart := false, laid := [("errors.errorType", laid_errors_errorType)], narrowed := true }
def FnExactProgStrataUptoSaid : Prop := fnExactProgStrataUptoRow.holds Tryz.pinned (OpenSpec.upto fnExactProgStrataSpec)

/-- 'laws.FnExactProgNeeds', WHERE WHAT IT READS IS OF BULK AT MOST 1048576: true; the input reads as it did. -/
def fnExactProgNeedsUptoRow : OpenClaim := { program := "ytnhbnhibphjljaagreatdoor", sum := "60d4911431f5ebd8959f844f220ca754fb9e4d4f7c4bc8fe5205e0147ee488dc", func := "loop.example/springhead/laws.FnExactProgNeeds", spec := "fnExactProgNeeds", inPlace := ["internal/reflectlite.ValueOf", "(internal/reflectlite.Value).Type", "(internal/reflectlite.Value).IsNil", "internal/reflectlite.TypeOf", "(internal/reflectlite.Value).Elem", "(internal/reflectlite.Value).Set"], unfollowed := true, recurses := true, named := ["errors.errorType"], apart := false, laid := [("errors.errorType", laid_errors_errorType)], narrowed := true }
def FnExactProgNeedsUptoSaid : Prop := fnExactProgNeedsUptoRow.holds Tryz.pinned (OpenSpec.upto fnExactProgNeedsSpec)

/-- 'laws.FnExactBaseNew', WHERE WHAT IT READS IS OF BULK AT MOST 1048576: true; the input reads as it did. -/
def fnExactBaseNewUptoRow : OpenClaim := { program := "ytnhbnhibphjljaagreatdoor", sum := "60d4911431f5ebd8959f844f220ca754fb9e4d4f7c4bc8fe5205e0147ee488dc", func := "loop.example/springhead/laws.FnExactBaseNew", spec := "fnExactBaseNew", inPlace := ["internal/reflectlite.ValueOf", "(internal/reflectlite.Value).Type", "(internal/reflectlite.Value).IsNil", "internal/reflectlite.TypeOf", "(internal/reflectlite.Value).Elem", "(internal/reflectlite.Value).Set"], unfollowed := true, recurses := true, named := ["errors.errorType"], apart := false, laid := [("errors.errorType", laid_errors_errorType)], narrowed := true }
def FnExactBaseNewUptoSaid : Prop := fnExactBaseNewUptoRow.holds Tryz.pinned (OpenSpec.upto fnExactBaseNewSpec)

/-- 'laws.FnExactServeNew', WHERE WHAT IT READS IS OF BULK AT MOST 1048576: true; the input reads as it did. -/
def fnExactServeNewUptoRow : OpenClaim := { program := "ytnhbnhibphjljaagreatdoor", sum := "60d4911431f5ebd8959f844f220ca754fb9e4d4f7c4bc8fe5205e0147ee488dc", func := "loop.example/springhead/laws.FnExactServeNew", spec := "fnExactServeNew", inPlace := ["internal/reflectlite.ValueOf", "(internal/reflectlite.Value).Type", "(internal/reflectlite.Value).IsNil", "internal/reflectlite.TypeOf", "(internal/reflectlite.Value).Elem", "(internal/reflectlite.Value).Set"], unfollowed := true, recurses := true, named := ["errors.errorType"], apart := false, laid := [("errors.errorType", laid_errors_errorType)], narrowed := true }
def FnExactServeNewUptoSaid : Prop := fnExactServeNewUptoRow.holds Tryz.pinned (OpenSpec.upto fnExactServeNewSpec)

/-- 'laws.FnExactFactsFit', WHERE WHAT IT READS IS OF BULK AT MOST 1048576: true; the input reads as it did. -/
def fnExactFactsFitUptoRow : OpenClaim := { program := "ytnhbnhibphjljaagreatdoor", sum := "60d4911431f5ebd8959f844f220ca754fb9e4d4f7c4bc8fe5205e0147ee488dc", func := "loop.example/springhead/laws.FnExactFactsFit", spec := "fnExactFactsFit", inPlace := ["internal/reflectlite.ValueOf", "(internal/reflectlite.Value).Type", "(internal/reflectlite.Value).IsNil", "internal/reflectlite.TypeOf", "(internal/reflectlite.Value).Elem", "(internal/reflectlite.Value).Set", "internal/bytealg.abigen_runtime_cmpstring"], unfollowed := true, recurses := true, named := ["errors.errorType"], apart := false, laid := [("errors.errorType", laid_errors_errorType)], narrowed := true }
def FnExactFactsFitUptoSaid : Prop := fnExactFactsFitUptoRow.holds Tryz.pinned (OpenSpec.upto fnExactFactsFitSpec)

/-- 'laws.FnProgCheck', WHERE WHAT IT READS IS OF BULK AT MOST 1048576: true; the input reads as it did. -/
def fnProgCheckUptoRow : OpenClaim := { program := "ytnhbnhibphjljaagreatdoor", sum := "60d4911431f5ebd8959f844f220ca754fb9e4d4f7c4bc8fe5205e0147ee488dc", func := "loop.example/springhead/laws.FnProgCheck", spec := "fnProgCheck", inPlace := ["internal/reflectlite.ValueOf", "(internal/reflectlite.Value).Type", "(internal/reflectlite.Value).IsNil", "internal/reflectlite.TypeOf", "(internal/reflectlite.Value).Elem", "(internal/reflectlite.Value).Set"], unfollowed := true, recurses := true, named := ["errors.errorType"], apart := false, laid := [("errors.errorType", laid_errors_errorType)], narrowed := true }
def FnProgCheckUptoSaid : Prop := fnProgCheckUptoRow.holds Tryz.pinned (OpenSpec.upto fnProgCheckSpec)

/-- 'laws.FnProgStrata', WHERE WHAT IT READS IS OF BULK AT MOST 1048576: true; the input reads as it did. -/
def fnProgStrataUptoRow : OpenClaim := { program := "ytnhbnhibphjljaagreatdoor", sum := "60d4911431f5ebd8959f844f220ca754fb9e4d4f7c4bc8fe5205e0147ee488dc", func := "loop.example/springhead/laws.FnProgStrata", spec := "fnProgStrata", inPlace := ["internal/reflectlite.ValueOf", "(internal/reflectlite.Value).Type", "(internal/reflectlite.Value).IsNil", "internal/reflectlite.TypeOf", "(internal/reflectlite.Value).Elem", "(internal/reflectlite.Value).Set"], unfollowed := true, recurses := true, named := ["errors.errorType"], apart := false, laid := [("errors.errorType", laid_errors_errorType)], narrowed := true }
def FnProgStrataUptoSaid : Prop := fnProgStrataUptoRow.holds Tryz.pinned (OpenSpec.upto fnProgStrataSpec)

/-- 'laws.FnProgNeeds', WHERE WHAT IT READS IS OF BULK AT MOST 1048576: true; the input reads as it did. -/
def fnProgNeedsUptoRow : OpenClaim := { program := "ytnhbnhibphjljaagreatdoor", sum := "60d4911431f5ebd8959f844f220ca754fb9e4d4f7c4bc8fe5205e0147ee488dc", func := "loop.example/springhead/laws.FnProgNeeds", spec := "fnProgNeeds", inPlace := ["internal/reflectlite.ValueOf", "(internal/reflectlite.Value).Type", "(internal/reflectlite.Value).IsNil", "internal/reflectlite.TypeOf", "(internal/reflectlite.Value).Elem", "(internal/reflectlite.Value).Set"], unfollowed := true, recurses := true, named := ["errors.errorType"], apart := false, laid := [("errors.errorType", laid_errors_errorType)], narrowed := true }
def FnProgNeedsUptoSaid : Prop := fnProgNeedsUptoRow.holds Tryz.pinned (OpenSpec.upto fnProgNeedsSpec)

end Rows
end Go.Proofs.YtnhbnhibphjljaaGreatDoor
