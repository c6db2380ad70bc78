/-
  No cell of these rows narrows 'for every input' (looked for: loops, veiled, ifaces, maps, wideKeys, modest, calm, conditions, laid).
  DERIVED. THE GIVEN ROWS OF THIS SEAT. 12 by the template 'for every input the law returns true; each argument reads behind the call as it read before'; 0 by the template 'total and deterministic' (their statements: YtenklmednmhbkaaTotals.lean).
  GIVEN WITH THE SEED: the statements are not yours to turn. If you find one false, say at which input.
  Laid BY PROGRAM, IN A SANDBOX (cutbox-rows.mjs): the forced cells as the released guide's own fill.sh prints them over the translation 34f7f478fd36780c… (all of the seat's roots in one cut). By AI agents, Wed Nov 11 2026. No macro, syntax, notation, axiom, sorry.
-/
import Derived.Test.YtenklmednmhbkaaChecked
import GoSem.Claim
import GoSem.ClaimJoined
import GoSem.ClaimMapViews
import Derived.JoinedTies
import Derived.KernelRfl
namespace Go.Proofs.Ytenklmednmhbkaa
/- THE CELL 'sum', in the pinned program and in every row, IS THE sha256 OF THE DUMP (.gsa) THAT YtenklmednmhbkaaProg.lean LOADS. Nothing in Lean hashes anything: it is a label: what it is worth is what the hold of that sum in a sandbox is worth. -/
noncomputable def Try.pinned : Pinned := { name := "ytenklmednmhbkaa", sum := "34f7f478fd36780c34e6a20748ccdcce78977a76036f0e42c1ba8b3f53c9ff9a", checked := Try.checked }
namespace Rows
def none {H : Type} : Left H := { results := [], args := [] }

/-- 'laws.FnFactsAdd': WHATEVER THE INPUT: true; the input reads as it did. -/
def fnFactsAddSpec : ChangeSpec := { name := "fnFactsAdd", fn := fun _ => fun
  | [d] => { results := [.lit (.bool true)], args := [d] }
  | _ => none }
def fnFactsAddRow : OpenClaim := { program := "ytenklmednmhbkaa", sum := "34f7f478fd36780c34e6a20748ccdcce78977a76036f0e42c1ba8b3f53c9ff9a", func := "loop.example/springhead/laws.FnFactsAdd", spec := "fnFactsAdd", inPlace := ["internal/bytealg.abigen_runtime_cmpstring"], unfollowed := true, recurses := true, apart := false }
def FnFactsAddSaid : Prop := fnFactsAddRow.holds Try.pinned (OpenSpec.ofChange fnFactsAddSpec)

/-- ITS FALSE NEIGHBOUR: 'it returns false'. Refute it at one input. -/
def fnFactsAddWrong : ChangeSpec := { name := "fnFactsAdd", fn := fun _ => fun
  | [d] => { results := [.lit (.bool false)], args := [d] }
  | _ => none }
def FnFactsAddWrongFalsely : Prop := fnFactsAddRow.holds Try.pinned (OpenSpec.ofChange fnFactsAddWrong)

/-- 'laws.FnFactsGone': WHATEVER THE INPUT: true; the input reads as it did. -/
def fnFactsGoneSpec : ChangeSpec := { name := "fnFactsGone", fn := fun _ => fun
  | [d] => { results := [.lit (.bool true)], args := [d] }
  | _ => none }
def fnFactsGoneRow : OpenClaim := { program := "ytenklmednmhbkaa", sum := "34f7f478fd36780c34e6a20748ccdcce78977a76036f0e42c1ba8b3f53c9ff9a", func := "loop.example/springhead/laws.FnFactsGone", spec := "fnFactsGone", inPlace := ["internal/bytealg.abigen_runtime_cmpstring"], unfollowed := true, recurses := true, apart := false }
def FnFactsGoneSaid : Prop := fnFactsGoneRow.holds Try.pinned (OpenSpec.ofChange fnFactsGoneSpec)

/-- ITS FALSE NEIGHBOUR: 'it returns false'. Refute it at one input. -/
def fnFactsGoneWrong : ChangeSpec := { name := "fnFactsGone", fn := fun _ => fun
  | [d] => { results := [.lit (.bool false)], args := [d] }
  | _ => none }
def FnFactsGoneWrongFalsely : Prop := fnFactsGoneRow.holds Try.pinned (OpenSpec.ofChange fnFactsGoneWrong)

/-- 'laws.FnExactFactsOk': WHATEVER THE INPUT: true; the input reads as it did. -/
def fnExactFactsOkSpec : ChangeSpec := { name := "fnExactFactsOk", fn := fun _ => fun
  | [d] => { results := [.lit (.bool true)], args := [d] }
  | _ => none }
def fnExactFactsOkRow : OpenClaim := { program := "ytenklmednmhbkaa", sum := "34f7f478fd36780c34e6a20748ccdcce78977a76036f0e42c1ba8b3f53c9ff9a", func := "loop.example/springhead/laws.FnExactFactsOk", spec := "fnExactFactsOk", inPlace := ["internal/bytealg.abigen_runtime_cmpstring"], unfollowed := true, recurses := true, apart := false }
def FnExactFactsOkSaid : Prop := fnExactFactsOkRow.holds Try.pinned (OpenSpec.ofChange fnExactFactsOkSpec)

/-- ITS FALSE NEIGHBOUR: 'it returns false'. Refute it at one input. -/
def fnExactFactsOkWrong : ChangeSpec := { name := "fnExactFactsOk", fn := fun _ => fun
  | [d] => { results := [.lit (.bool false)], args := [d] }
  | _ => none }
def FnExactFactsOkWrongFalsely : Prop := fnExactFactsOkRow.holds Try.pinned (OpenSpec.ofChange fnExactFactsOkWrong)

/-- 'laws.FnExactFactsAdd': WHATEVER THE INPUT: true; the input reads as it did. -/
def fnExactFactsAddSpec : ChangeSpec := { name := "fnExactFactsAdd", fn := fun _ => fun
  | [d1, d2] => { results := [.lit (.bool true)], args := [d1, d2] }
  | _ => none }
def fnExactFactsAddRow : OpenClaim := { program := "ytenklmednmhbkaa", sum := "34f7f478fd36780c34e6a20748ccdcce78977a76036f0e42c1ba8b3f53c9ff9a", func := "loop.example/springhead/laws.FnExactFactsAdd", spec := "fnExactFactsAdd", inPlace := ["internal/bytealg.abigen_runtime_cmpstring"], unfollowed := true, recurses := true, apart := false }
def FnExactFactsAddSaid : Prop := fnExactFactsAddRow.holds Try.pinned (OpenSpec.ofChange fnExactFactsAddSpec)

/-- ITS FALSE NEIGHBOUR: 'it returns false'. Refute it at one input. -/
def fnExactFactsAddWrong : ChangeSpec := { name := "fnExactFactsAdd", fn := fun _ => fun
  | [d1, d2] => { results := [.lit (.bool false)], args := [d1, d2] }
  | _ => none }
def FnExactFactsAddWrongFalsely : Prop := fnExactFactsAddRow.holds Try.pinned (OpenSpec.ofChange fnExactFactsAddWrong)

/-- 'laws.FnExactFactsGone': WHATEVER THE INPUT: true; the input reads as it did. -/
def fnExactFactsGoneSpec : ChangeSpec := { name := "fnExactFactsGone", fn := fun _ => fun
  | [d1, d2] => { results := [.lit (.bool true)], args := [d1, d2] }
  | _ => none }
def fnExactFactsGoneRow : OpenClaim := { program := "ytenklmednmhbkaa", sum := "34f7f478fd36780c34e6a20748ccdcce78977a76036f0e42c1ba8b3f53c9ff9a", func := "loop.example/springhead/laws.FnExactFactsGone", spec := "fnExactFactsGone", inPlace := ["internal/bytealg.abigen_runtime_cmpstring"], unfollowed := true, recurses := true, apart := false }
def FnExactFactsGoneSaid : Prop := fnExactFactsGoneRow.holds Try.pinned (OpenSpec.ofChange fnExactFactsGoneSpec)

/-- ITS FALSE NEIGHBOUR: 'it returns false'. Refute it at one input. -/
def fnExactFactsGoneWrong : ChangeSpec := { name := "fnExactFactsGone", fn := fun _ => fun
  | [d1, d2] => { results := [.lit (.bool false)], args := [d1, d2] }
  | _ => none }
def FnExactFactsGoneWrongFalsely : Prop := fnExactFactsGoneRow.holds Try.pinned (OpenSpec.ofChange fnExactFactsGoneWrong)

/-- 'laws.FnExactFactsHas': WHATEVER THE INPUT: true; the input reads as it did. -/
def fnExactFactsHasSpec : ChangeSpec := { name := "fnExactFactsHas", fn := fun _ => fun
  | [d1, d2] => { results := [.lit (.bool true)], args := [d1, d2] }
  | _ => none }
def fnExactFactsHasRow : OpenClaim := { program := "ytenklmednmhbkaa", sum := "34f7f478fd36780c34e6a20748ccdcce78977a76036f0e42c1ba8b3f53c9ff9a", func := "loop.example/springhead/laws.FnExactFactsHas", spec := "fnExactFactsHas", inPlace := ["internal/bytealg.abigen_runtime_cmpstring"], unfollowed := true, recurses := true, apart := false }
def FnExactFactsHasSaid : Prop := fnExactFactsHasRow.holds Try.pinned (OpenSpec.ofChange fnExactFactsHasSpec)

/-- ITS FALSE NEIGHBOUR: 'it returns false'. Refute it at one input. -/
def fnExactFactsHasWrong : ChangeSpec := { name := "fnExactFactsHas", fn := fun _ => fun
  | [d1, d2] => { results := [.lit (.bool false)], args := [d1, d2] }
  | _ => none }
def FnExactFactsHasWrongFalsely : Prop := fnExactFactsHasRow.holds Try.pinned (OpenSpec.ofChange fnExactFactsHasWrong)

/-- 'laws.FnExactChangeOk': WHATEVER THE INPUT: true; the input reads as it did. -/
def fnExactChangeOkSpec : ChangeSpec := { name := "fnExactChangeOk", fn := fun _ => fun
  | [d] => { results := [.lit (.bool true)], args := [d] }
  | _ => none }
def fnExactChangeOkRow : OpenClaim := { program := "ytenklmednmhbkaa", sum := "34f7f478fd36780c34e6a20748ccdcce78977a76036f0e42c1ba8b3f53c9ff9a", func := "loop.example/springhead/laws.FnExactChangeOk", spec := "fnExactChangeOk", inPlace := ["internal/bytealg.abigen_runtime_cmpstring"], unfollowed := true, recurses := true, apart := false }
def FnExactChangeOkSaid : Prop := fnExactChangeOkRow.holds Try.pinned (OpenSpec.ofChange fnExactChangeOkSpec)

/-- ITS FALSE NEIGHBOUR: 'it returns false'. Refute it at one input. -/
def fnExactChangeOkWrong : ChangeSpec := { name := "fnExactChangeOk", fn := fun _ => fun
  | [d] => { results := [.lit (.bool false)], args := [d] }
  | _ => none }
def FnExactChangeOkWrongFalsely : Prop := fnExactChangeOkRow.holds Try.pinned (OpenSpec.ofChange fnExactChangeOkWrong)

/-- 'laws.FnExactChangeOf': WHATEVER THE INPUT: true; the input reads as it did. -/
def fnExactChangeOfSpec : ChangeSpec := { name := "fnExactChangeOf", fn := fun _ => fun
  | [d1, d2] => { results := [.lit (.bool true)], args := [d1, d2] }
  | _ => none }
def fnExactChangeOfRow : OpenClaim := { program := "ytenklmednmhbkaa", sum := "34f7f478fd36780c34e6a20748ccdcce78977a76036f0e42c1ba8b3f53c9ff9a", func := "loop.example/springhead/laws.FnExactChangeOf", spec := "fnExactChangeOf", inPlace := ["internal/bytealg.abigen_runtime_cmpstring"], unfollowed := true, recurses := true, apart := false }
def FnExactChangeOfSaid : Prop := fnExactChangeOfRow.holds Try.pinned (OpenSpec.ofChange fnExactChangeOfSpec)

/-- ITS FALSE NEIGHBOUR: 'it returns false'. Refute it at one input. -/
def fnExactChangeOfWrong : ChangeSpec := { name := "fnExactChangeOf", fn := fun _ => fun
  | [d1, d2] => { results := [.lit (.bool false)], args := [d1, d2] }
  | _ => none }
def FnExactChangeOfWrongFalsely : Prop := fnExactChangeOfRow.holds Try.pinned (OpenSpec.ofChange fnExactChangeOfWrong)

/-- 'laws.FnExactChangeDo': WHATEVER THE INPUT: true; the input reads as it did. -/
def fnExactChangeDoSpec : ChangeSpec := { name := "fnExactChangeDo", fn := fun _ => fun
  | [d1, d2] => { results := [.lit (.bool true)], args := [d1, d2] }
  | _ => none }
def fnExactChangeDoRow : OpenClaim := { program := "ytenklmednmhbkaa", sum := "34f7f478fd36780c34e6a20748ccdcce78977a76036f0e42c1ba8b3f53c9ff9a", func := "loop.example/springhead/laws.FnExactChangeDo", spec := "fnExactChangeDo", inPlace := ["internal/bytealg.abigen_runtime_cmpstring"], unfollowed := true, recurses := true, apart := false }
def FnExactChangeDoSaid : Prop := fnExactChangeDoRow.holds Try.pinned (OpenSpec.ofChange fnExactChangeDoSpec)

/-- ITS FALSE NEIGHBOUR: 'it returns false'. Refute it at one input. -/
def fnExactChangeDoWrong : ChangeSpec := { name := "fnExactChangeDo", fn := fun _ => fun
  | [d1, d2] => { results := [.lit (.bool false)], args := [d1, d2] }
  | _ => none }
def FnExactChangeDoWrongFalsely : Prop := fnExactChangeDoRow.holds Try.pinned (OpenSpec.ofChange fnExactChangeDoWrong)

/-- 'laws.FnExactChangeBoth': WHATEVER THE INPUT: true; the input reads as it did. -/
def fnExactChangeBothSpec : ChangeSpec := { name := "fnExactChangeBoth", fn := fun _ => fun
  | [d1, d2] => { results := [.lit (.bool true)], args := [d1, d2] }
  | _ => none }
def fnExactChangeBothRow : OpenClaim := { program := "ytenklmednmhbkaa", sum := "34f7f478fd36780c34e6a20748ccdcce78977a76036f0e42c1ba8b3f53c9ff9a", func := "loop.example/springhead/laws.FnExactChangeBoth", spec := "fnExactChangeBoth", inPlace := ["internal/bytealg.abigen_runtime_cmpstring"], unfollowed := true, recurses := true, apart := false }
def FnExactChangeBothSaid : Prop := fnExactChangeBothRow.holds Try.pinned (OpenSpec.ofChange fnExactChangeBothSpec)

/-- ITS FALSE NEIGHBOUR: 'it returns false'. Refute it at one input. -/
def fnExactChangeBothWrong : ChangeSpec := { name := "fnExactChangeBoth", fn := fun _ => fun
  | [d1, d2] => { results := [.lit (.bool false)], args := [d1, d2] }
  | _ => none }
def FnExactChangeBothWrongFalsely : Prop := fnExactChangeBothRow.holds Try.pinned (OpenSpec.ofChange fnExactChangeBothWrong)

/-- 'laws.FnChangeOf': WHATEVER THE INPUT: true; the input reads as it did. -/
def fnChangeOfSpec : ChangeSpec := { name := "fnChangeOf", fn := fun _ => fun
  | [d] => { results := [.lit (.bool true)], args := [d] }
  | _ => none }
def fnChangeOfRow : OpenClaim := { program := "ytenklmednmhbkaa", sum := "34f7f478fd36780c34e6a20748ccdcce78977a76036f0e42c1ba8b3f53c9ff9a", func := "loop.example/springhead/laws.FnChangeOf", spec := "fnChangeOf", inPlace := ["internal/bytealg.abigen_runtime_cmpstring"], unfollowed := true, recurses := true, apart := false }
def FnChangeOfSaid : Prop := fnChangeOfRow.holds Try.pinned (OpenSpec.ofChange fnChangeOfSpec)

/-- ITS FALSE NEIGHBOUR: 'it returns false'. Refute it at one input. -/
def fnChangeOfWrong : ChangeSpec := { name := "fnChangeOf", fn := fun _ => fun
  | [d] => { results := [.lit (.bool false)], args := [d] }
  | _ => none }
def FnChangeOfWrongFalsely : Prop := fnChangeOfRow.holds Try.pinned (OpenSpec.ofChange fnChangeOfWrong)

/-- 'laws.FnChangeDo': WHATEVER THE INPUT: true; the input reads as it did. -/
def fnChangeDoSpec : ChangeSpec := { name := "fnChangeDo", fn := fun _ => fun
  | [d] => { results := [.lit (.bool true)], args := [d] }
  | _ => none }
def fnChangeDoRow : OpenClaim := { program := "ytenklmednmhbkaa", sum := "34f7f478fd36780c34e6a20748ccdcce78977a76036f0e42c1ba8b3f53c9ff9a", func := "loop.example/springhead/laws.FnChangeDo", spec := "fnChangeDo", inPlace := ["internal/bytealg.abigen_runtime_cmpstring"], unfollowed := true, recurses := true, apart := false }
def FnChangeDoSaid : Prop := fnChangeDoRow.holds Try.pinned (OpenSpec.ofChange fnChangeDoSpec)

/-- ITS FALSE NEIGHBOUR: 'it returns false'. Refute it at one input. -/
def fnChangeDoWrong : ChangeSpec := { name := "fnChangeDo", fn := fun _ => fun
  | [d] => { results := [.lit (.bool false)], args := [d] }
  | _ => none }
def FnChangeDoWrongFalsely : Prop := fnChangeDoRow.holds Try.pinned (OpenSpec.ofChange fnChangeDoWrong)

/- THE SECOND FORM. 'bulk': how many values and letters a reading holds, each counted each time it is reached (what is shared counts as often as it is met; a slice's spare places count too). A statement '..UptoSaid' is the law's where the arguments, and the package variables that the reading takes, are together of bulk at most 1048576: NARROWER than '..Said'. Prove '..Said' where nothing that the law and all that it calls make is longer than what came in: it says more and counts as full. Else prove '..UptoSaid'. A law counts once. -/
mutual
def uptoBulk {H : Type} : DataW H → Nat
  | .lit (.string bytes) => bytes.length + 1
  | .lit _ => 1
  | .nil => 1
  | .ptr d => uptoBulk d + 1
  | .slice elems spare => uptoBulkAll elems + uptoBulkAll spare + 1
  | .agg parts => uptoBulkAll parts + 1
  | .iface _ d => uptoBulk d + 1
  | .map entries => uptoBulkEntries entries + 1
  | .held _ => 1
def uptoBulkAll {H : Type} : List (DataW H) → Nat
  | [] => 0
  | d :: r => uptoBulk d + uptoBulkAll r
def uptoBulkEntries {H : Type} : List (Lit × DataW H) → Nat
  | [] => 0
  | x :: r => uptoBulkEntry x + uptoBulkEntries r
def uptoBulkEntry {H : Type} : Lit × DataW H → Nat
  | (.string bytes, d) => bytes.length + uptoBulk d + 1
  | (_, d) => uptoBulk d + 1
 end
def uptoSmall : (H : Type) → List (DataW H) → Bool := fun _ ds => decide (uptoBulkAll ds ≤ 1048576)
def OpenSpec.upto (s : _root_.Go.ChangeSpec) : _root_.Go.OpenSpec := { _root_.Go.OpenSpec.ofChange s with cond := some uptoSmall }

/-- 'laws.FnFactsAdd', WHERE WHAT IT READS IS OF BULK AT MOST 1048576: true; the input reads as it did. -/
def fnFactsAddUptoRow : OpenClaim := { program := "ytenklmednmhbkaa", sum := "34f7f478fd36780c34e6a20748ccdcce78977a76036f0e42c1ba8b3f53c9ff9a", func := "loop.example/springhead/laws.FnFactsAdd", spec := "fnFactsAdd", inPlace := ["internal/bytealg.abigen_runtime_cmpstring"], unfollowed := true, recurses := true, apart := false, narrowed := true }
def FnFactsAddUptoSaid : Prop := fnFactsAddUptoRow.holds Try.pinned (OpenSpec.upto fnFactsAddSpec)

/-- 'laws.FnFactsGone', WHERE WHAT IT READS IS OF BULK AT MOST 1048576: true; the input reads as it did. -/
def fnFactsGoneUptoRow : OpenClaim := { program := "ytenklmednmhbkaa", sum := "34f7f478fd36780c34e6a20748ccdcce78977a76036f0e42c1ba8b3f53c9ff9a", func := "loop.example/springhead/laws.FnFactsGone", spec := "fnFactsGone", inPlace := ["internal/bytealg.abigen_runtime_cmpstring"], unfollowed := true, recurses := true, apart := false, narrowed := true }
def FnFactsGoneUptoSaid : Prop := fnFactsGoneUptoRow.holds Try.pinned (OpenSpec.upto fnFactsGoneSpec)

/-- 'laws.FnExactFactsOk', WHERE WHAT IT READS IS OF BULK AT MOST 1048576: true; the input reads as it did. -/
def fnExactFactsOkUptoRow : OpenClaim := { program := "ytenklmednmhbkaa", sum := "34f7f478fd36780c34e6a20748ccdcce78977a76036f0e42c1ba8b3f53c9ff9a", func := "loop.example/springhead/laws.FnExactFactsOk", spec := "fnExactFactsOk", inPlace := ["internal/bytealg.abigen_runtime_cmpstring"], unfollowed := true, recurses := true, apart := false, narrowed := true }
def FnExactFactsOkUptoSaid : Prop := fnExactFactsOkUptoRow.holds Try.pinned (OpenSpec.upto fnExactFactsOkSpec)

/-- 'laws.FnExactFactsAdd', WHERE WHAT IT READS IS OF BULK AT MOST 1048576: true; the input reads as it did. -/
def fnExactFactsAddUptoRow : OpenClaim := { program := "ytenklmednmhbkaa", sum := "34f7f478fd36780c34e6a20748ccdcce78977a76036f0e42c1ba8b3f53c9ff9a", func := "loop.example/springhead/laws.FnExactFactsAdd", spec := "fnExactFactsAdd", inPlace := ["internal/bytealg.abigen_runtime_cmpstring"], unfollowed := true, recurses := true, apart := false, narrowed := true }
def FnExactFactsAddUptoSaid : Prop := fnExactFactsAddUptoRow.holds Try.pinned (OpenSpec.upto fnExactFactsAddSpec)

/-- 'laws.FnExactFactsGone', WHERE WHAT IT READS IS OF BULK AT MOST 1048576: true; the input reads as it did. -/
def fnExactFactsGoneUptoRow : OpenClaim := { program := "ytenklmednmhbkaa", sum := "34f7f478fd36780c34e6a20748ccdcce78977a76036f0e42c1ba8b3f53c9ff9a", func := "loop.example/springhead/laws.FnExactFactsGone", spec := "fnExactFactsGone", inPlace := ["internal/bytealg.abigen_runtime_cmpstring"], unfollowed := true, recurses := true, apart := false, narrowed := true }
def FnExactFactsGoneUptoSaid : Prop := fnExactFactsGoneUptoRow.holds Try.pinned (OpenSpec.upto fnExactFactsGoneSpec)

/-- 'laws.FnExactFactsHas', WHERE WHAT IT READS IS OF BULK AT MOST 1048576: true; the input reads as it did. -/
def fnExactFactsHasUptoRow : OpenClaim := { program := "ytenklmednmhbkaa", sum := "34f7f478fd36780c34e6a20748ccdcce78977a76036f0e42c1ba8b3f53c9ff9a", func := "loop.example/springhead/laws.FnExactFactsHas", spec := "fnExactFactsHas", inPlace := ["internal/bytealg.abigen_runtime_cmpstring"], unfollowed := true, recurses := true, apart := false, narrowed := true }
def FnExactFactsHasUptoSaid : Prop := fnExactFactsHasUptoRow.holds Try.pinned (OpenSpec.upto fnExactFactsHasSpec)

/-- 'laws.FnExactChangeOk', WHERE WHAT IT READS IS OF BULK AT MOST 1048576: true; the input reads as it did. -/
def fnExactChangeOkUptoRow : OpenClaim := { program := "ytenklmednmhbkaa", sum := "34f7f478fd36780c34e6a20748ccdcce78977a76036f0e42c1ba8b3f53c9ff9a", func := "loop.example/springhead/laws.FnExactChangeOk", spec := "fnExactChangeOk", inPlace := ["internal/bytealg.abigen_runtime_cmpstring"], unfollowed := true, recurses := true, apart := false, narrowed := true }
def FnExactChangeOkUptoSaid : Prop := fnExactChangeOkUptoRow.holds Try.pinned (OpenSpec.upto fnExactChangeOkSpec)

/-- 'laws.FnExactChangeOf', WHERE WHAT IT READS IS OF BULK AT MOST 1048576: true; the input reads as it did. -/
def fnExactChangeOfUptoRow : OpenClaim := { program := "ytenklmednmhbkaa", sum := "34f7f478fd36780c34e6a20748ccdcce78977a76036f0e42c1ba8b3f53c9ff9a", func := "loop.example/springhead/laws.FnExactChangeOf", spec := "fnExactChangeOf", inPlace := ["internal/bytealg.abigen_runtime_cmpstring"], unfollowed := true, recurses := true, apart := false, narrowed := true }
def FnExactChangeOfUptoSaid : Prop := fnExactChangeOfUptoRow.holds Try.pinned (OpenSpec.upto fnExactChangeOfSpec)

/-- 'laws.FnExactChangeDo', WHERE WHAT IT READS IS OF BULK AT MOST 1048576: true; the input reads as it did. -/
def fnExactChangeDoUptoRow : OpenClaim := { program := "ytenklmednmhbkaa", sum := "34f7f478fd36780c34e6a20748ccdcce78977a76036f0e42c1ba8b3f53c9ff9a", func := "loop.example/springhead/laws.FnExactChangeDo", spec := "fnExactChangeDo", inPlace := ["internal/bytealg.abigen_runtime_cmpstring"], unfollowed := true, recurses := true, apart := false, narrowed := true }
def FnExactChangeDoUptoSaid : Prop := fnExactChangeDoUptoRow.holds Try.pinned (OpenSpec.upto fnExactChangeDoSpec)

/-- 'laws.FnExactChangeBoth', WHERE WHAT IT READS IS OF BULK AT MOST 1048576: true; the input reads as it did. -/
def fnExactChangeBothUptoRow : OpenClaim := { program := "ytenklmednmhbkaa", sum := "34f7f478fd36780c34e6a20748ccdcce78977a76036f0e42c1ba8b3f53c9ff9a", func := "loop.example/springhead/laws.FnExactChangeBoth", spec := "fnExactChangeBoth", inPlace := ["internal/bytealg.abigen_runtime_cmpstring"], unfollowed := true, recurses := true, apart := false, narrowed := true }
def FnExactChangeBothUptoSaid : Prop := fnExactChangeBothUptoRow.holds Try.pinned (OpenSpec.upto fnExactChangeBothSpec)

/-- 'laws.FnChangeOf', WHERE WHAT IT READS IS OF BULK AT MOST 1048576: true; the input reads as it did. -/
def fnChangeOfUptoRow : OpenClaim := { program := "ytenklmednmhbkaa", sum := "34f7f478fd36780c34e6a20748ccdcce78977a76036f0e42c1ba8b3f53c9ff9a", func := "loop.example/springhead/laws.FnChangeOf", spec := "fnChangeOf", inPlace := ["internal/bytealg.abigen_runtime_cmpstring"], unfollowed := true, recurses := true, apart := false, narrowed := true }
def FnChangeOfUptoSaid : Prop := fnChangeOfUptoRow.holds Try.pinned (OpenSpec.upto fnChangeOfSpec)

/-- 'laws.FnChangeDo', WHERE WHAT IT READS IS OF BULK AT MOST 1048576: true; the input reads as it did. -/
def fnChangeDoUptoRow : OpenClaim := { program := "ytenklmednmhbkaa", sum := "34f7f478fd36780c34e6a20748ccdcce78977a76036f0e42c1ba8b3f53c9ff9a", func := "loop.example/springhead/laws.FnChangeDo", spec := "fnChangeDo", inPlace := ["internal/bytealg.abigen_runtime_cmpstring"], unfollowed := true, recurses := true, apart := false, narrowed := true }
def FnChangeDoUptoSaid : Prop := fnChangeDoUptoRow.holds Try.pinned (OpenSpec.upto fnChangeDoSpec)

end Rows
end Go.Proofs.Ytenklmednmhbkaa
