/-
  No cell of these rows narrows 'for every input' (looked for: loops, veiled, ifaces, maps, wideKeys, modest, calm, conditions, laid).
  DERIVED. THE GIVEN ROWS OF THIS SEAT. 6 by the template 'for every input the law returns true; each argument reads behind the call as it read before'; 0 by the template 'total and deterministic' (their statements: YtladamhhgleojaaTotals.lean).
  GIVEN WITH THE SEED: the statements are not yours to turn. If you find one false, say at which input.
  Laid BY PROGRAM, IN A SANDBOX (cutbox-rows.mjs): the forced cells as the released guide's own fill.sh prints them over the translation 02a59ec37969697a… (all of the seat's roots in one cut). By AI agents, Wed Nov 11 2026. No macro, syntax, notation, axiom, sorry.
-/
import Derived.Test.YtladamhhgleojaaChecked
import GoSem.Claim
import GoSem.ClaimJoined
import GoSem.ClaimMapViews
import Derived.JoinedTies
import Derived.KernelRfl
namespace Go.Proofs.Ytladamhhgleojaa
/- THE CELL 'sum', in the pinned program and in every row, IS THE sha256 OF THE DUMP (.gsa) THAT YtladamhhgleojaaProg.lean LOADS. Nothing in Lean hashes anything: it is a label: what it is worth is what the hold of that sum in a sandbox is worth. -/
noncomputable def Try.pinned : Pinned := { name := "ytladamhhgleojaa", sum := "02a59ec37969697ad346f1dd8901cc0e2203f1adbbdf586d0c44177dfb8d7f49", checked := Try.checked }
namespace Rows
def none {H : Type} : Left H := { results := [], args := [] }

/-- 'laws.FnFactsAdd': WHATEVER THE INPUT: true; the input reads as it did. -/
def fnFactsAddSpec : ChangeSpec := { name := "fnFactsAdd", fn := fun _ => fun
  | [d] => { results := [.lit (.bool true)], args := [d] }
  | _ => none }
def fnFactsAddRow : OpenClaim := { program := "ytladamhhgleojaa", sum := "02a59ec37969697ad346f1dd8901cc0e2203f1adbbdf586d0c44177dfb8d7f49", func := "loop.example/springhead/laws.FnFactsAdd", spec := "fnFactsAdd", inPlace := ["internal/bytealg.abigen_runtime_cmpstring"], unfollowed := true, recurses := true, apart := false }
def FnFactsAddSaid : Prop := fnFactsAddRow.holds Try.pinned (OpenSpec.ofChange fnFactsAddSpec)

/-- ITS FALSE NEIGHBOUR: 'it returns false'. Refute it at one input. -/
def fnFactsAddWrong : ChangeSpec := { name := "fnFactsAdd", fn := fun _ => fun
  | [d] => { results := [.lit (.bool false)], args := [d] }
  | _ => none }
def FnFactsAddWrongFalsely : Prop := fnFactsAddRow.holds Try.pinned (OpenSpec.ofChange fnFactsAddWrong)

/-- 'laws.FnChangeBoth': WHATEVER THE INPUT: true; the input reads as it did. -/
def fnChangeBothSpec : ChangeSpec := { name := "fnChangeBoth", fn := fun _ => fun
  | [d1, d2] => { results := [.lit (.bool true)], args := [d1, d2] }
  | _ => none }
def fnChangeBothRow : OpenClaim := { program := "ytladamhhgleojaa", sum := "02a59ec37969697ad346f1dd8901cc0e2203f1adbbdf586d0c44177dfb8d7f49", func := "loop.example/springhead/laws.FnChangeBoth", spec := "fnChangeBoth", inPlace := ["internal/bytealg.abigen_runtime_cmpstring"], unfollowed := true, recurses := true, apart := false }
def FnChangeBothSaid : Prop := fnChangeBothRow.holds Try.pinned (OpenSpec.ofChange fnChangeBothSpec)

/-- ITS FALSE NEIGHBOUR: 'it returns false'. Refute it at one input. -/
def fnChangeBothWrong : ChangeSpec := { name := "fnChangeBoth", fn := fun _ => fun
  | [d1, d2] => { results := [.lit (.bool false)], args := [d1, d2] }
  | _ => none }
def FnChangeBothWrongFalsely : Prop := fnChangeBothRow.holds Try.pinned (OpenSpec.ofChange fnChangeBothWrong)

/-- 'laws.FnSum': WHATEVER THE INPUT: true; the input reads as it did. -/
def fnSumSpec : ChangeSpec := { name := "fnSum", fn := fun _ => fun
  | [d1, d2] => { results := [.lit (.bool true)], args := [d1, d2] }
  | _ => none }
def fnSumRow : OpenClaim := { program := "ytladamhhgleojaa", sum := "02a59ec37969697ad346f1dd8901cc0e2203f1adbbdf586d0c44177dfb8d7f49", func := "loop.example/springhead/laws.FnSum", spec := "fnSum", apart := false }
def FnSumSaid : Prop := fnSumRow.holds Try.pinned (OpenSpec.ofChange fnSumSpec)

/-- ITS FALSE NEIGHBOUR: 'it returns false'. Refute it at one input. -/
def fnSumWrong : ChangeSpec := { name := "fnSum", fn := fun _ => fun
  | [d1, d2] => { results := [.lit (.bool false)], args := [d1, d2] }
  | _ => none }
def FnSumWrongFalsely : Prop := fnSumRow.holds Try.pinned (OpenSpec.ofChange fnSumWrong)

/-- 'laws.FnExactRulePut': WHATEVER THE INPUT: true; the input reads as it did. -/
def fnExactRulePutSpec : ChangeSpec := { name := "fnExactRulePut", fn := fun _ => fun
  | [d] => { results := [.lit (.bool true)], args := [d] }
  | _ => none }
def fnExactRulePutRow : OpenClaim := { program := "ytladamhhgleojaa", sum := "02a59ec37969697ad346f1dd8901cc0e2203f1adbbdf586d0c44177dfb8d7f49", func := "loop.example/springhead/laws.FnExactRulePut", spec := "fnExactRulePut", inPlace := ["internal/abi.NoEscape", "internal/bytealg.MakeNoZero"], unfollowed := true, recurses := true, apart := false }
def FnExactRulePutSaid : Prop := fnExactRulePutRow.holds Try.pinned (OpenSpec.ofChange fnExactRulePutSpec)

/-- ITS FALSE NEIGHBOUR: 'it returns false'. Refute it at one input. -/
def fnExactRulePutWrong : ChangeSpec := { name := "fnExactRulePut", fn := fun _ => fun
  | [d] => { results := [.lit (.bool false)], args := [d] }
  | _ => none }
def FnExactRulePutWrongFalsely : Prop := fnExactRulePutRow.holds Try.pinned (OpenSpec.ofChange fnExactRulePutWrong)

/-- 'laws.FnExactAskVars': WHATEVER THE INPUT: true; the input reads as it did. -/
def fnExactAskVarsSpec : ChangeSpec := { name := "fnExactAskVars", fn := fun _ => fun
  | [d] => { results := [.lit (.bool true)], args := [d] }
  | _ => none }
def fnExactAskVarsRow : OpenClaim := { program := "ytladamhhgleojaa", sum := "02a59ec37969697ad346f1dd8901cc0e2203f1adbbdf586d0c44177dfb8d7f49", func := "loop.example/springhead/laws.FnExactAskVars", spec := "fnExactAskVars", unfollowed := true, recurses := true, apart := false }
def FnExactAskVarsSaid : Prop := fnExactAskVarsRow.holds Try.pinned (OpenSpec.ofChange fnExactAskVarsSpec)

/-- ITS FALSE NEIGHBOUR: 'it returns false'. Refute it at one input. -/
def fnExactAskVarsWrong : ChangeSpec := { name := "fnExactAskVars", fn := fun _ => fun
  | [d] => { results := [.lit (.bool false)], args := [d] }
  | _ => none }
def FnExactAskVarsWrongFalsely : Prop := fnExactAskVarsRow.holds Try.pinned (OpenSpec.ofChange fnExactAskVarsWrong)

/-- 'laws.FnExactAskRule': WHATEVER THE INPUT: true; the input reads as it did. -/
def fnExactAskRuleSpec : ChangeSpec := { name := "fnExactAskRule", fn := fun _ => fun
  | [d1, d2] => { results := [.lit (.bool true)], args := [d1, d2] }
  | _ => none }
def fnExactAskRuleRow : OpenClaim := { program := "ytladamhhgleojaa", sum := "02a59ec37969697ad346f1dd8901cc0e2203f1adbbdf586d0c44177dfb8d7f49", func := "loop.example/springhead/laws.FnExactAskRule", spec := "fnExactAskRule", unfollowed := true, recurses := true, apart := false }
def FnExactAskRuleSaid : Prop := fnExactAskRuleRow.holds Try.pinned (OpenSpec.ofChange fnExactAskRuleSpec)

/-- ITS FALSE NEIGHBOUR: 'it returns false'. Refute it at one input. -/
def fnExactAskRuleWrong : ChangeSpec := { name := "fnExactAskRule", fn := fun _ => fun
  | [d1, d2] => { results := [.lit (.bool false)], args := [d1, d2] }
  | _ => none }
def FnExactAskRuleWrongFalsely : Prop := fnExactAskRuleRow.holds Try.pinned (OpenSpec.ofChange fnExactAskRuleWrong)

/- THE SECOND FORM. 'bulk': how many values and letters a reading holds, each counted each time it is reached (what is shared counts as often as it is met; a slice's spare places count too). A statement '..UptoSaid' is the law's where the arguments, and the package variables that the reading takes, are together of bulk at most 1048576: NARROWER than '..Said'. Prove '..Said' where nothing that the law and all that it calls make is longer than what came in: it says more and counts as full. Else prove '..UptoSaid'. A law counts once. -/
mutual
def uptoBulk {H : Type} : DataW H → Nat
  | .lit (.string bytes) => bytes.length + 1
  | .lit _ => 1
  | .nil => 1
  | .ptr d => uptoBulk d + 1
  | .slice elems spare => uptoBulkAll elems + uptoBulkAll spare + 1
  | .agg parts => uptoBulkAll parts + 1
  | .iface _ d => uptoBulk d + 1
  | .map entries => uptoBulkEntries entries + 1
  | .held _ => 1
def uptoBulkAll {H : Type} : List (DataW H) → Nat
  | [] => 0
  | d :: r => uptoBulk d + uptoBulkAll r
def uptoBulkEntries {H : Type} : List (Lit × DataW H) → Nat
  | [] => 0
  | x :: r => uptoBulkEntry x + uptoBulkEntries r
def uptoBulkEntry {H : Type} : Lit × DataW H → Nat
  | (.string bytes, d) => bytes.length + uptoBulk d + 1
  | (_, d) => uptoBulk d + 1
 end
def uptoSmall : (H : Type) → List (DataW H) → Bool := fun _ ds => decide (uptoBulkAll ds ≤ 1048576)
def OpenSpec.upto (s : _root_.Go.ChangeSpec) : _root_.Go.OpenSpec := { _root_.Go.OpenSpec.ofChange s with cond := some uptoSmall }

/-- 'laws.FnFactsAdd', WHERE WHAT IT READS IS OF BULK AT MOST 1048576: true; the input reads as it did. -/
def fnFactsAddUptoRow : OpenClaim := { program := "ytladamhhgleojaa", sum := "02a59ec37969697ad346f1dd8901cc0e2203f1adbbdf586d0c44177dfb8d7f49", func := "loop.example/springhead/laws.FnFactsAdd", spec := "fnFactsAdd", inPlace := ["internal/bytealg.abigen_runtime_cmpstring"], unfollowed := true, recurses := true, apart := false, narrowed := true }
def FnFactsAddUptoSaid : Prop := fnFactsAddUptoRow.holds Try.pinned (OpenSpec.upto fnFactsAddSpec)

/-- 'laws.FnChangeBoth', WHERE WHAT IT READS IS OF BULK AT MOST 1048576: true; the input reads as it did. -/
def fnChangeBothUptoRow : OpenClaim := { program := "ytladamhhgleojaa", sum := "02a59ec37969697ad346f1dd8901cc0e2203f1adbbdf586d0c44177dfb8d7f49", func := "loop.example/springhead/laws.FnChangeBoth", spec := "fnChangeBoth", inPlace := ["internal/bytealg.abigen_runtime_cmpstring"], unfollowed := true, recurses := true, apart := false, narrowed := true }
def FnChangeBothUptoSaid : Prop := fnChangeBothUptoRow.holds Try.pinned (OpenSpec.upto fnChangeBothSpec)

/-- 'laws.FnSum', WHERE WHAT IT READS IS OF BULK AT MOST 1048576: true; the input reads as it did. -/
def fnSumUptoRow : OpenClaim := { program := "ytladamhhgleojaa", sum := "02a59ec37969697ad346f1dd8901cc0e2203f1adbbdf586d0c44177dfb8d7f49", func := "loop.example/springhead/laws.FnSum", spec := "fnSum", apart := false, narrowed := true }
def FnSumUptoSaid : Prop := fnSumUptoRow.holds Try.pinned (OpenSpec.upto fnSumSpec)

/-- 'laws.FnExactRulePut', WHERE WHAT IT READS IS OF BULK AT MOST 1048576: true; the input reads as it did. -/
def fnExactRulePutUptoRow : OpenClaim := { program := "ytladamhhgleojaa", sum := "02a59ec37969697ad346f1dd8901cc0e2203f1adbbdf586d0c44177dfb8d7f49", func := "loop.example/springhead/laws.FnExactRulePut", spec := "fnExactRulePut", inPlace := ["internal/abi.NoEscape", "internal/bytealg.MakeNoZero"], unfollowed := true, recurses := true, apart := false, narrowed := true }
def FnExactRulePutUptoSaid : Prop := fnExactRulePutUptoRow.holds Try.pinned (OpenSpec.upto fnExactRulePutSpec)

/-- 'laws.FnExactAskVars', WHERE WHAT IT READS IS OF BULK AT MOST 1048576: true; the input reads as it did. -/
def fnExactAskVarsUptoRow : OpenClaim := { program := "ytladamhhgleojaa", sum := "02a59ec37969697ad346f1dd8901cc0e2203f1adbbdf586d0c44177dfb8d7f49", func := "loop.example/springhead/laws.FnExactAskVars", spec := "fnExactAskVars", unfollowed := true, recurses := true, apart := false, narrowed := true }
def FnExactAskVarsUptoSaid : Prop := fnExactAskVarsUptoRow.holds Try.pinned (OpenSpec.upto fnExactAskVarsSpec)

/-- 'laws.FnExactAskRule', WHERE WHAT IT READS IS OF BULK AT MOST 1048576: true; the input reads as it did. -/
def fnExactAskRuleUptoRow : OpenClaim := { program := "ytladamhhgleojaa", sum := "02a59ec37969697ad346f1dd8901cc0e2203f1adbbdf586d0c44177dfb8d7f49", func := "loop.example/springhead/laws.FnExactAskRule", spec := "fnExactAskRule", unfollowed := true, recurses := true, apart := false, narrowed := true }
def FnExactAskRuleUptoSaid : Prop := fnExactAskRuleUptoRow.holds Try.pinned (OpenSpec.upto fnExactAskRuleSpec)

end Rows
end Go.Proofs.Ytladamhhgleojaa
