/-
  NARROWER THAN 'FOR EVERY INPUT', by the rows' own cells (each row's printed sentence says how): FnExactProofSize: loops.
  DERIVED. THE GIVEN ROWS OF THIS SEAT. 11 by the template 'for every input the law returns true; each argument reads behind the call as it read before'; 0 by the template 'total and deterministic' (their statements: YtbhkihnekendbaaTotals.lean).
  GIVEN WITH THE SEED: the statements are not yours to turn. If you find one false, say at which input.
  Laid BY PROGRAM, IN A SANDBOX (cutbox-rows.mjs): the forced cells as the released guide's own fill.sh prints them over the translation c6515662ccdb404d… (all of the seat's roots in one cut). By AI agents, Wed Nov 11 2026. No macro, syntax, notation, axiom, sorry.
-/
import Derived.Test.YtbhkihnekendbaaChecked
import GoSem.Claim
import GoSem.ClaimJoined
import GoSem.ClaimMapViews
import Derived.JoinedTies
import Derived.KernelRfl
namespace Go.Proofs.Ytbhkihnekendbaa
/- THE CELL 'sum', in the pinned program and in every row, IS THE sha256 OF THE DUMP (.gsa) THAT YtbhkihnekendbaaProg.lean LOADS. Nothing in Lean hashes anything: it is a label: what it is worth is what the hold of that sum in a sandbox is worth. -/
noncomputable def Try.pinned : Pinned := { name := "ytbhkihnekendbaa", sum := "c6515662ccdb404decc63b20963d2ab2e3ed2674f78e036be75938a207e5f8b3", checked := Try.checked }
namespace Rows
def none {H : Type} : Left H := { results := [], args := [] }

/-- 'laws.FnFactsAdd': WHATEVER THE INPUT: true; the input reads as it did. -/
def fnFactsAddSpec : ChangeSpec := { name := "fnFactsAdd", fn := fun _ => fun
  | [d] => { results := [.lit (.bool true)], args := [d] }
  | _ => none }
def fnFactsAddRow : OpenClaim := { program := "ytbhkihnekendbaa", sum := "c6515662ccdb404decc63b20963d2ab2e3ed2674f78e036be75938a207e5f8b3", func := "loop.example/springhead/laws.FnFactsAdd", spec := "fnFactsAdd", inPlace := ["internal/bytealg.abigen_runtime_cmpstring"], unfollowed := true, recurses := true, apart := false }
def FnFactsAddSaid : Prop := fnFactsAddRow.holds Try.pinned (OpenSpec.ofChange fnFactsAddSpec)

/-- ITS FALSE NEIGHBOUR: 'it returns false'. Refute it at one input. -/
def fnFactsAddWrong : ChangeSpec := { name := "fnFactsAdd", fn := fun _ => fun
  | [d] => { results := [.lit (.bool false)], args := [d] }
  | _ => none }
def FnFactsAddWrongFalsely : Prop := fnFactsAddRow.holds Try.pinned (OpenSpec.ofChange fnFactsAddWrong)

/-- 'laws.FnFactsGone': WHATEVER THE INPUT: true; the input reads as it did. -/
def fnFactsGoneSpec : ChangeSpec := { name := "fnFactsGone", fn := fun _ => fun
  | [d] => { results := [.lit (.bool true)], args := [d] }
  | _ => none }
def fnFactsGoneRow : OpenClaim := { program := "ytbhkihnekendbaa", sum := "c6515662ccdb404decc63b20963d2ab2e3ed2674f78e036be75938a207e5f8b3", func := "loop.example/springhead/laws.FnFactsGone", spec := "fnFactsGone", inPlace := ["internal/bytealg.abigen_runtime_cmpstring"], unfollowed := true, recurses := true, apart := false }
def FnFactsGoneSaid : Prop := fnFactsGoneRow.holds Try.pinned (OpenSpec.ofChange fnFactsGoneSpec)

/-- ITS FALSE NEIGHBOUR: 'it returns false'. Refute it at one input. -/
def fnFactsGoneWrong : ChangeSpec := { name := "fnFactsGone", fn := fun _ => fun
  | [d] => { results := [.lit (.bool false)], args := [d] }
  | _ => none }
def FnFactsGoneWrongFalsely : Prop := fnFactsGoneRow.holds Try.pinned (OpenSpec.ofChange fnFactsGoneWrong)

/-- 'laws.FnChangeOf': WHATEVER THE INPUT: true; the input reads as it did. -/
def fnChangeOfSpec : ChangeSpec := { name := "fnChangeOf", fn := fun _ => fun
  | [d] => { results := [.lit (.bool true)], args := [d] }
  | _ => none }
def fnChangeOfRow : OpenClaim := { program := "ytbhkihnekendbaa", sum := "c6515662ccdb404decc63b20963d2ab2e3ed2674f78e036be75938a207e5f8b3", func := "loop.example/springhead/laws.FnChangeOf", spec := "fnChangeOf", inPlace := ["internal/bytealg.abigen_runtime_cmpstring"], unfollowed := true, recurses := true, apart := false }
def FnChangeOfSaid : Prop := fnChangeOfRow.holds Try.pinned (OpenSpec.ofChange fnChangeOfSpec)

/-- ITS FALSE NEIGHBOUR: 'it returns false'. Refute it at one input. -/
def fnChangeOfWrong : ChangeSpec := { name := "fnChangeOf", fn := fun _ => fun
  | [d] => { results := [.lit (.bool false)], args := [d] }
  | _ => none }
def FnChangeOfWrongFalsely : Prop := fnChangeOfRow.holds Try.pinned (OpenSpec.ofChange fnChangeOfWrong)

/-- 'laws.FnChangeDo': WHATEVER THE INPUT: true; the input reads as it did. -/
def fnChangeDoSpec : ChangeSpec := { name := "fnChangeDo", fn := fun _ => fun
  | [d] => { results := [.lit (.bool true)], args := [d] }
  | _ => none }
def fnChangeDoRow : OpenClaim := { program := "ytbhkihnekendbaa", sum := "c6515662ccdb404decc63b20963d2ab2e3ed2674f78e036be75938a207e5f8b3", func := "loop.example/springhead/laws.FnChangeDo", spec := "fnChangeDo", inPlace := ["internal/bytealg.abigen_runtime_cmpstring"], unfollowed := true, recurses := true, apart := false }
def FnChangeDoSaid : Prop := fnChangeDoRow.holds Try.pinned (OpenSpec.ofChange fnChangeDoSpec)

/-- ITS FALSE NEIGHBOUR: 'it returns false'. Refute it at one input. -/
def fnChangeDoWrong : ChangeSpec := { name := "fnChangeDo", fn := fun _ => fun
  | [d] => { results := [.lit (.bool false)], args := [d] }
  | _ => none }
def FnChangeDoWrongFalsely : Prop := fnChangeDoRow.holds Try.pinned (OpenSpec.ofChange fnChangeDoWrong)

/-- 'laws.FnChangeBoth': WHATEVER THE INPUT: true; the input reads as it did. -/
def fnChangeBothSpec : ChangeSpec := { name := "fnChangeBoth", fn := fun _ => fun
  | [d1, d2] => { results := [.lit (.bool true)], args := [d1, d2] }
  | _ => none }
def fnChangeBothRow : OpenClaim := { program := "ytbhkihnekendbaa", sum := "c6515662ccdb404decc63b20963d2ab2e3ed2674f78e036be75938a207e5f8b3", func := "loop.example/springhead/laws.FnChangeBoth", spec := "fnChangeBoth", inPlace := ["internal/bytealg.abigen_runtime_cmpstring"], unfollowed := true, recurses := true, apart := false }
def FnChangeBothSaid : Prop := fnChangeBothRow.holds Try.pinned (OpenSpec.ofChange fnChangeBothSpec)

/-- ITS FALSE NEIGHBOUR: 'it returns false'. Refute it at one input. -/
def fnChangeBothWrong : ChangeSpec := { name := "fnChangeBoth", fn := fun _ => fun
  | [d1, d2] => { results := [.lit (.bool false)], args := [d1, d2] }
  | _ => none }
def FnChangeBothWrongFalsely : Prop := fnChangeBothRow.holds Try.pinned (OpenSpec.ofChange fnChangeBothWrong)

/-- 'laws.FnExactAtomPut': WHATEVER THE INPUT: true; the input reads as it did. -/
def fnExactAtomPutSpec : ChangeSpec := { name := "fnExactAtomPut", fn := fun _ => fun
  | [d] => { results := [.lit (.bool true)], args := [d] }
  | _ => none }
def fnExactAtomPutRow : OpenClaim := { program := "ytbhkihnekendbaa", sum := "c6515662ccdb404decc63b20963d2ab2e3ed2674f78e036be75938a207e5f8b3", func := "loop.example/springhead/laws.FnExactAtomPut", spec := "fnExactAtomPut", inPlace := ["internal/abi.NoEscape", "internal/bytealg.MakeNoZero"], unfollowed := true, recurses := true, apart := false }
def FnExactAtomPutSaid : Prop := fnExactAtomPutRow.holds Try.pinned (OpenSpec.ofChange fnExactAtomPutSpec)

/-- ITS FALSE NEIGHBOUR: 'it returns false'. Refute it at one input. -/
def fnExactAtomPutWrong : ChangeSpec := { name := "fnExactAtomPut", fn := fun _ => fun
  | [d] => { results := [.lit (.bool false)], args := [d] }
  | _ => none }
def FnExactAtomPutWrongFalsely : Prop := fnExactAtomPutRow.holds Try.pinned (OpenSpec.ofChange fnExactAtomPutWrong)

/-- 'laws.FnExactRulePut': WHATEVER THE INPUT: true; the input reads as it did. -/
def fnExactRulePutSpec : ChangeSpec := { name := "fnExactRulePut", fn := fun _ => fun
  | [d] => { results := [.lit (.bool true)], args := [d] }
  | _ => none }
def fnExactRulePutRow : OpenClaim := { program := "ytbhkihnekendbaa", sum := "c6515662ccdb404decc63b20963d2ab2e3ed2674f78e036be75938a207e5f8b3", func := "loop.example/springhead/laws.FnExactRulePut", spec := "fnExactRulePut", inPlace := ["internal/abi.NoEscape", "internal/bytealg.MakeNoZero"], unfollowed := true, recurses := true, apart := false }
def FnExactRulePutSaid : Prop := fnExactRulePutRow.holds Try.pinned (OpenSpec.ofChange fnExactRulePutSpec)

/-- ITS FALSE NEIGHBOUR: 'it returns false'. Refute it at one input. -/
def fnExactRulePutWrong : ChangeSpec := { name := "fnExactRulePut", fn := fun _ => fun
  | [d] => { results := [.lit (.bool false)], args := [d] }
  | _ => none }
def FnExactRulePutWrongFalsely : Prop := fnExactRulePutRow.holds Try.pinned (OpenSpec.ofChange fnExactRulePutWrong)

/-- 'laws.FnExactAskOk': WHATEVER THE INPUT: true; the input reads as it did. -/
def fnExactAskOkSpec : ChangeSpec := { name := "fnExactAskOk", fn := fun _ => fun
  | [d] => { results := [.lit (.bool true)], args := [d] }
  | _ => none }
def fnExactAskOkRow : OpenClaim := { program := "ytbhkihnekendbaa", sum := "c6515662ccdb404decc63b20963d2ab2e3ed2674f78e036be75938a207e5f8b3", func := "loop.example/springhead/laws.FnExactAskOk", spec := "fnExactAskOk", unfollowed := true, recurses := true, apart := false }
def FnExactAskOkSaid : Prop := fnExactAskOkRow.holds Try.pinned (OpenSpec.ofChange fnExactAskOkSpec)

/-- ITS FALSE NEIGHBOUR: 'it returns false'. Refute it at one input. -/
def fnExactAskOkWrong : ChangeSpec := { name := "fnExactAskOk", fn := fun _ => fun
  | [d] => { results := [.lit (.bool false)], args := [d] }
  | _ => none }
def FnExactAskOkWrongFalsely : Prop := fnExactAskOkRow.holds Try.pinned (OpenSpec.ofChange fnExactAskOkWrong)

/-- 'laws.FnExactAskPut': WHATEVER THE INPUT: true; the input reads as it did. -/
def fnExactAskPutSpec : ChangeSpec := { name := "fnExactAskPut", fn := fun _ => fun
  | [d] => { results := [.lit (.bool true)], args := [d] }
  | _ => none }
def fnExactAskPutRow : OpenClaim := { program := "ytbhkihnekendbaa", sum := "c6515662ccdb404decc63b20963d2ab2e3ed2674f78e036be75938a207e5f8b3", func := "loop.example/springhead/laws.FnExactAskPut", spec := "fnExactAskPut", inPlace := ["internal/abi.NoEscape", "internal/bytealg.MakeNoZero"], unfollowed := true, recurses := true, apart := false }
def FnExactAskPutSaid : Prop := fnExactAskPutRow.holds Try.pinned (OpenSpec.ofChange fnExactAskPutSpec)

/-- ITS FALSE NEIGHBOUR: 'it returns false'. Refute it at one input. -/
def fnExactAskPutWrong : ChangeSpec := { name := "fnExactAskPut", fn := fun _ => fun
  | [d] => { results := [.lit (.bool false)], args := [d] }
  | _ => none }
def FnExactAskPutWrongFalsely : Prop := fnExactAskPutRow.holds Try.pinned (OpenSpec.ofChange fnExactAskPutWrong)

/-- 'laws.FnExactAskRule': WHATEVER THE INPUT: true; the input reads as it did. -/
def fnExactAskRuleSpec : ChangeSpec := { name := "fnExactAskRule", fn := fun _ => fun
  | [d1, d2] => { results := [.lit (.bool true)], args := [d1, d2] }
  | _ => none }
def fnExactAskRuleRow : OpenClaim := { program := "ytbhkihnekendbaa", sum := "c6515662ccdb404decc63b20963d2ab2e3ed2674f78e036be75938a207e5f8b3", func := "loop.example/springhead/laws.FnExactAskRule", spec := "fnExactAskRule", unfollowed := true, recurses := true, apart := false }
def FnExactAskRuleSaid : Prop := fnExactAskRuleRow.holds Try.pinned (OpenSpec.ofChange fnExactAskRuleSpec)

/-- ITS FALSE NEIGHBOUR: 'it returns false'. Refute it at one input. -/
def fnExactAskRuleWrong : ChangeSpec := { name := "fnExactAskRule", fn := fun _ => fun
  | [d1, d2] => { results := [.lit (.bool false)], args := [d1, d2] }
  | _ => none }
def FnExactAskRuleWrongFalsely : Prop := fnExactAskRuleRow.holds Try.pinned (OpenSpec.ofChange fnExactAskRuleWrong)

/-- 'laws.FnExactProofSize': WHATEVER THE INPUT: true; the input reads as it did. -/
def fnExactProofSizeSpec : ChangeSpec := { name := "fnExactProofSize", fn := fun _ => fun
  | [d] => { results := [.lit (.bool true)], args := [d] }
  | _ => none }
def fnExactProofSizeRow : OpenClaim := { program := "ytbhkihnekendbaa", sum := "c6515662ccdb404decc63b20963d2ab2e3ed2674f78e036be75938a207e5f8b3", func := "loop.example/springhead/laws.FnExactProofSize", spec := "fnExactProofSize", unfollowed := true, recurses := true, loops := true, apart := false }
def FnExactProofSizeSaid : Prop := fnExactProofSizeRow.holds Try.pinned (OpenSpec.ofChange fnExactProofSizeSpec)

/-- ITS FALSE NEIGHBOUR: 'it returns false'. Refute it at one input. -/
def fnExactProofSizeWrong : ChangeSpec := { name := "fnExactProofSize", fn := fun _ => fun
  | [d] => { results := [.lit (.bool false)], args := [d] }
  | _ => none }
def FnExactProofSizeWrongFalsely : Prop := fnExactProofSizeRow.holds Try.pinned (OpenSpec.ofChange fnExactProofSizeWrong)

/- THE SECOND FORM. 'bulk': how many values and letters a reading holds, each counted each time it is reached (what is shared counts as often as it is met; a slice's spare places count too). A statement '..UptoSaid' is the law's where the arguments, and the package variables that the reading takes, are together of bulk at most 1048576: NARROWER than '..Said'. Prove '..Said' where nothing that the law and all that it calls make is longer than what came in: it says more and counts as full. Else prove '..UptoSaid'. A law counts once. -/
mutual
def uptoBulk {H : Type} : DataW H → Nat
  | .lit (.string bytes) => bytes.length + 1
  | .lit _ => 1
  | .nil => 1
  | .ptr d => uptoBulk d + 1
  | .slice elems spare => uptoBulkAll elems + uptoBulkAll spare + 1
  | .agg parts => uptoBulkAll parts + 1
  | .iface _ d => uptoBulk d + 1
  | .map entries => uptoBulkEntries entries + 1
  | .held _ => 1
def uptoBulkAll {H : Type} : List (DataW H) → Nat
  | [] => 0
  | d :: r => uptoBulk d + uptoBulkAll r
def uptoBulkEntries {H : Type} : List (Lit × DataW H) → Nat
  | [] => 0
  | x :: r => uptoBulkEntry x + uptoBulkEntries r
def uptoBulkEntry {H : Type} : Lit × DataW H → Nat
  | (.string bytes, d) => bytes.length + uptoBulk d + 1
  | (_, d) => uptoBulk d + 1
 end
def uptoSmall : (H : Type) → List (DataW H) → Bool := fun _ ds => decide (uptoBulkAll ds ≤ 1048576)
def OpenSpec.upto (s : _root_.Go.ChangeSpec) : _root_.Go.OpenSpec := { _root_.Go.OpenSpec.ofChange s with cond := some uptoSmall }

/-- 'laws.FnFactsAdd', WHERE WHAT IT READS IS OF BULK AT MOST 1048576: true; the input reads as it did. -/
def fnFactsAddUptoRow : OpenClaim := { program := "ytbhkihnekendbaa", sum := "c6515662ccdb404decc63b20963d2ab2e3ed2674f78e036be75938a207e5f8b3", func := "loop.example/springhead/laws.FnFactsAdd", spec := "fnFactsAdd", inPlace := ["internal/bytealg.abigen_runtime_cmpstring"], unfollowed := true, recurses := true, apart := false, narrowed := true }
def FnFactsAddUptoSaid : Prop := fnFactsAddUptoRow.holds Try.pinned (OpenSpec.upto fnFactsAddSpec)

/-- 'laws.FnFactsGone', WHERE WHAT IT READS IS OF BULK AT MOST 1048576: true; the input reads as it did. -/
def fnFactsGoneUptoRow : OpenClaim := { program := "ytbhkihnekendbaa", sum := "c6515662ccdb404decc63b20963d2ab2e3ed2674f78e036be75938a207e5f8b3", func := "loop.example/springhead/laws.FnFactsGone", spec := "fnFactsGone", inPlace := ["internal/bytealg.abigen_runtime_cmpstring"], unfollowed := true, recurses := true, apart := false, narrowed := true }
def FnFactsGoneUptoSaid : Prop := fnFactsGoneUptoRow.holds Try.pinned (OpenSpec.upto fnFactsGoneSpec)

/-- 'laws.FnChangeOf', WHERE WHAT IT READS IS OF BULK AT MOST 1048576: true; the input reads as it did. -/
def fnChangeOfUptoRow : OpenClaim := { program := "ytbhkihnekendbaa", sum := "c6515662ccdb404decc63b20963d2ab2e3ed2674f78e036be75938a207e5f8b3", func := "loop.example/springhead/laws.FnChangeOf", spec := "fnChangeOf", inPlace := ["internal/bytealg.abigen_runtime_cmpstring"], unfollowed := true, recurses := true, apart := false, narrowed := true }
def FnChangeOfUptoSaid : Prop := fnChangeOfUptoRow.holds Try.pinned (OpenSpec.upto fnChangeOfSpec)

/-- 'laws.FnChangeDo', WHERE WHAT IT READS IS OF BULK AT MOST 1048576: true; the input reads as it did. -/
def fnChangeDoUptoRow : OpenClaim := { program := "ytbhkihnekendbaa", sum := "c6515662ccdb404decc63b20963d2ab2e3ed2674f78e036be75938a207e5f8b3", func := "loop.example/springhead/laws.FnChangeDo", spec := "fnChangeDo", inPlace := ["internal/bytealg.abigen_runtime_cmpstring"], unfollowed := true, recurses := true, apart := false, narrowed := true }
def FnChangeDoUptoSaid : Prop := fnChangeDoUptoRow.holds Try.pinned (OpenSpec.upto fnChangeDoSpec)

/-- 'laws.FnChangeBoth', WHERE WHAT IT READS IS OF BULK AT MOST 1048576: true; the input reads as it did. -/
def fnChangeBothUptoRow : OpenClaim := { program := "ytbhkihnekendbaa", sum := "c6515662ccdb404decc63b20963d2ab2e3ed2674f78e036be75938a207e5f8b3", func := "loop.example/springhead/laws.FnChangeBoth", spec := "fnChangeBoth", inPlace := ["internal/bytealg.abigen_runtime_cmpstring"], unfollowed := true, recurses := true, apart := false, narrowed := true }
def FnChangeBothUptoSaid : Prop := fnChangeBothUptoRow.holds Try.pinned (OpenSpec.upto fnChangeBothSpec)

/-- 'laws.FnExactAtomPut', WHERE WHAT IT READS IS OF BULK AT MOST 1048576: true; the input reads as it did. -/
def fnExactAtomPutUptoRow : OpenClaim := { program := "ytbhkihnekendbaa", sum := "c6515662ccdb404decc63b20963d2ab2e3ed2674f78e036be75938a207e5f8b3", func := "loop.example/springhead/laws.FnExactAtomPut", spec := "fnExactAtomPut", inPlace := ["internal/abi.NoEscape", "internal/bytealg.MakeNoZero"], unfollowed := true, recurses := true, apart := false, narrowed := true }
def FnExactAtomPutUptoSaid : Prop := fnExactAtomPutUptoRow.holds Try.pinned (OpenSpec.upto fnExactAtomPutSpec)

/-- 'laws.FnExactRulePut', WHERE WHAT IT READS IS OF BULK AT MOST 1048576: true; the input reads as it did. -/
def fnExactRulePutUptoRow : OpenClaim := { program := "ytbhkihnekendbaa", sum := "c6515662ccdb404decc63b20963d2ab2e3ed2674f78e036be75938a207e5f8b3", func := "loop.example/springhead/laws.FnExactRulePut", spec := "fnExactRulePut", inPlace := ["internal/abi.NoEscape", "internal/bytealg.MakeNoZero"], unfollowed := true, recurses := true, apart := false, narrowed := true }
def FnExactRulePutUptoSaid : Prop := fnExactRulePutUptoRow.holds Try.pinned (OpenSpec.upto fnExactRulePutSpec)

/-- 'laws.FnExactAskOk', WHERE WHAT IT READS IS OF BULK AT MOST 1048576: true; the input reads as it did. -/
def fnExactAskOkUptoRow : OpenClaim := { program := "ytbhkihnekendbaa", sum := "c6515662ccdb404decc63b20963d2ab2e3ed2674f78e036be75938a207e5f8b3", func := "loop.example/springhead/laws.FnExactAskOk", spec := "fnExactAskOk", unfollowed := true, recurses := true, apart := false, narrowed := true }
def FnExactAskOkUptoSaid : Prop := fnExactAskOkUptoRow.holds Try.pinned (OpenSpec.upto fnExactAskOkSpec)

/-- 'laws.FnExactAskPut', WHERE WHAT IT READS IS OF BULK AT MOST 1048576: true; the input reads as it did. -/
def fnExactAskPutUptoRow : OpenClaim := { program := "ytbhkihnekendbaa", sum := "c6515662ccdb404decc63b20963d2ab2e3ed2674f78e036be75938a207e5f8b3", func := "loop.example/springhead/laws.FnExactAskPut", spec := "fnExactAskPut", inPlace := ["internal/abi.NoEscape", "internal/bytealg.MakeNoZero"], unfollowed := true, recurses := true, apart := false, narrowed := true }
def FnExactAskPutUptoSaid : Prop := fnExactAskPutUptoRow.holds Try.pinned (OpenSpec.upto fnExactAskPutSpec)

/-- 'laws.FnExactAskRule', WHERE WHAT IT READS IS OF BULK AT MOST 1048576: true; the input reads as it did. -/
def fnExactAskRuleUptoRow : OpenClaim := { program := "ytbhkihnekendbaa", sum := "c6515662ccdb404decc63b20963d2ab2e3ed2674f78e036be75938a207e5f8b3", func := "loop.example/springhead/laws.FnExactAskRule", spec := "fnExactAskRule", unfollowed := true, recurses := true, apart := false, narrowed := true }
def FnExactAskRuleUptoSaid : Prop := fnExactAskRuleUptoRow.holds Try.pinned (OpenSpec.upto fnExactAskRuleSpec)

/-- 'laws.FnExactProofSize', WHERE WHAT IT READS IS OF BULK AT MOST 1048576: true; the input reads as it did. -/
def fnExactProofSizeUptoRow : OpenClaim := { program := "ytbhkihnekendbaa", sum := "c6515662ccdb404decc63b20963d2ab2e3ed2674f78e036be75938a207e5f8b3", func := "loop.example/springhead/laws.FnExactProofSize", spec := "fnExactProofSize", unfollowed := true, recurses := true, loops := true, apart := false, narrowed := true }
def FnExactProofSizeUptoSaid : Prop := fnExactProofSizeUptoRow.holds Try.pinned (OpenSpec.upto fnExactProofSizeSpec)

end Rows
end Go.Proofs.Ytbhkihnekendbaa
