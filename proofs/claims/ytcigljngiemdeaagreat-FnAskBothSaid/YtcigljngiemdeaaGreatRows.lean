/-
  No cell of these rows narrows 'for every input' (looked for: loops, veiled, ifaces, maps, wideKeys, modest, calm, conditions, laid).
  DERIVED. THE GIVEN ROWS OF THIS SEAT. 6 by the template 'for every input the law returns true; each argument reads behind the call as it read before'; 0 by the template 'total and deterministic' (their statements: YtcigljngiemdeaaGreatTotals.lean).
  GIVEN WITH THE SEED: the statements are not yours to turn. If you find one false, say at which input.
  Laid BY PROGRAM, IN A SANDBOX (cutbox-rows.mjs): the forced cells as the released guide's own fill.sh prints them over the translation 117811b7f098f28b… (all of the seat's roots in one cut). By AI agents, Wed Nov 11 2026. No macro, syntax, notation, axiom, sorry.
-/
import Derived.Test.YtcigljngiemdeaaGreatChecked
import GoSem.Claim
import GoSem.ClaimJoined
import GoSem.ClaimMapViews
import Derived.JoinedTies
import Derived.KernelRfl
namespace Go.Proofs.YtcigljngiemdeaaGreat
/- THE CELL 'sum', in the pinned program and in every row, IS THE sha256 OF THE DUMP (.gsa) THAT YtcigljngiemdeaaGreatProg.lean LOADS. Nothing in Lean hashes anything: it is a label: what it is worth is what the hold of that sum in a sandbox is worth. -/
noncomputable def Tryz.pinned : Pinned := { name := "ytcigljngiemdeaagreat", sum := "117811b7f098f28bee283098a74b9996c8807e9751c9cf1a85ef4296befd1aa7", checked := Tryz.checked }
namespace Rows
def none {H : Type} : Left H := { results := [], args := [] }

/-- 'laws.FnExactAsk': WHATEVER THE INPUT: true; the input reads as it did. -/
def fnExactAskSpec : ChangeSpec := { name := "fnExactAsk", fn := fun _ => fun
  | [d1, d2] => { results := [.lit (.bool true)], args := [d1, d2] }
  | _ => none }
def fnExactAskRow : OpenClaim := { program := "ytcigljngiemdeaagreat", sum := "117811b7f098f28bee283098a74b9996c8807e9751c9cf1a85ef4296befd1aa7", func := "loop.example/springhead/laws.FnExactAsk", spec := "fnExactAsk", inPlace := ["internal/bytealg.abigen_runtime_cmpstring"], unfollowed := true, recurses := true, plainKeys := false, apart := false }
def FnExactAskSaid : Prop := fnExactAskRow.holds Tryz.pinned (OpenSpec.ofChange fnExactAskSpec)

/-- ITS FALSE NEIGHBOUR: 'it returns false'. Refute it at one input. -/
def fnExactAskWrong : ChangeSpec := { name := "fnExactAsk", fn := fun _ => fun
  | [d1, d2] => { results := [.lit (.bool false)], args := [d1, d2] }
  | _ => none }
def FnExactAskWrongFalsely : Prop := fnExactAskRow.holds Tryz.pinned (OpenSpec.ofChange fnExactAskWrong)

/-- 'laws.FnAsk': WHATEVER THE INPUT: true; the input reads as it did. -/
def fnAskSpec : ChangeSpec := { name := "fnAsk", fn := fun _ => fun
  | [d] => { results := [.lit (.bool true)], args := [d] }
  | _ => none }
def fnAskRow : OpenClaim := { program := "ytcigljngiemdeaagreat", sum := "117811b7f098f28bee283098a74b9996c8807e9751c9cf1a85ef4296befd1aa7", func := "loop.example/springhead/laws.FnAsk", spec := "fnAsk", inPlace := ["internal/bytealg.abigen_runtime_cmpstring"], unfollowed := true, recurses := true, plainKeys := false, apart := false }
def FnAskSaid : Prop := fnAskRow.holds Tryz.pinned (OpenSpec.ofChange fnAskSpec)

/-- ITS FALSE NEIGHBOUR: 'it returns false'. Refute it at one input. -/
def fnAskWrong : ChangeSpec := { name := "fnAsk", fn := fun _ => fun
  | [d] => { results := [.lit (.bool false)], args := [d] }
  | _ => none }
def FnAskWrongFalsely : Prop := fnAskRow.holds Tryz.pinned (OpenSpec.ofChange fnAskWrong)

/-- 'laws.FnAskOrder': WHATEVER THE INPUT: true; the input reads as it did. -/
def fnAskOrderSpec : ChangeSpec := { name := "fnAskOrder", fn := fun _ => fun
  | [d] => { results := [.lit (.bool true)], args := [d] }
  | _ => none }
def fnAskOrderRow : OpenClaim := { program := "ytcigljngiemdeaagreat", sum := "117811b7f098f28bee283098a74b9996c8807e9751c9cf1a85ef4296befd1aa7", func := "loop.example/springhead/laws.FnAskOrder", spec := "fnAskOrder", inPlace := ["internal/bytealg.abigen_runtime_cmpstring"], unfollowed := true, recurses := true, plainKeys := false, apart := false }
def FnAskOrderSaid : Prop := fnAskOrderRow.holds Tryz.pinned (OpenSpec.ofChange fnAskOrderSpec)

/-- ITS FALSE NEIGHBOUR: 'it returns false'. Refute it at one input. -/
def fnAskOrderWrong : ChangeSpec := { name := "fnAskOrder", fn := fun _ => fun
  | [d] => { results := [.lit (.bool false)], args := [d] }
  | _ => none }
def FnAskOrderWrongFalsely : Prop := fnAskOrderRow.holds Tryz.pinned (OpenSpec.ofChange fnAskOrderWrong)

/-- 'laws.FnAskMore': WHATEVER THE INPUT: true; the input reads as it did. -/
def fnAskMoreSpec : ChangeSpec := { name := "fnAskMore", fn := fun _ => fun
  | [d] => { results := [.lit (.bool true)], args := [d] }
  | _ => none }
def fnAskMoreRow : OpenClaim := { program := "ytcigljngiemdeaagreat", sum := "117811b7f098f28bee283098a74b9996c8807e9751c9cf1a85ef4296befd1aa7", func := "loop.example/springhead/laws.FnAskMore", spec := "fnAskMore", inPlace := ["internal/bytealg.abigen_runtime_cmpstring"], unfollowed := true, recurses := true, plainKeys := false, apart := false }
def FnAskMoreSaid : Prop := fnAskMoreRow.holds Tryz.pinned (OpenSpec.ofChange fnAskMoreSpec)

/-- ITS FALSE NEIGHBOUR: 'it returns false'. Refute it at one input. -/
def fnAskMoreWrong : ChangeSpec := { name := "fnAskMore", fn := fun _ => fun
  | [d] => { results := [.lit (.bool false)], args := [d] }
  | _ => none }
def FnAskMoreWrongFalsely : Prop := fnAskMoreRow.holds Tryz.pinned (OpenSpec.ofChange fnAskMoreWrong)

/-- 'laws.FnAskFact': WHATEVER THE INPUT: true; the input reads as it did. -/
def fnAskFactSpec : ChangeSpec := { name := "fnAskFact", fn := fun _ => fun
  | [d] => { results := [.lit (.bool true)], args := [d] }
  | _ => none }
def fnAskFactRow : OpenClaim := { program := "ytcigljngiemdeaagreat", sum := "117811b7f098f28bee283098a74b9996c8807e9751c9cf1a85ef4296befd1aa7", func := "loop.example/springhead/laws.FnAskFact", spec := "fnAskFact", inPlace := ["internal/bytealg.abigen_runtime_cmpstring"], unfollowed := true, recurses := true, plainKeys := false, apart := false }
def FnAskFactSaid : Prop := fnAskFactRow.holds Tryz.pinned (OpenSpec.ofChange fnAskFactSpec)

/-- ITS FALSE NEIGHBOUR: 'it returns false'. Refute it at one input. -/
def fnAskFactWrong : ChangeSpec := { name := "fnAskFact", fn := fun _ => fun
  | [d] => { results := [.lit (.bool false)], args := [d] }
  | _ => none }
def FnAskFactWrongFalsely : Prop := fnAskFactRow.holds Tryz.pinned (OpenSpec.ofChange fnAskFactWrong)

/-- 'laws.FnAskBoth': WHATEVER THE INPUT: true; the input reads as it did. -/
def fnAskBothSpec : ChangeSpec := { name := "fnAskBoth", fn := fun _ => fun
  | [d1, d2] => { results := [.lit (.bool true)], args := [d1, d2] }
  | _ => none }
def fnAskBothRow : OpenClaim := { program := "ytcigljngiemdeaagreat", sum := "117811b7f098f28bee283098a74b9996c8807e9751c9cf1a85ef4296befd1aa7", func := "loop.example/springhead/laws.FnAskBoth", spec := "fnAskBoth", inPlace := ["internal/bytealg.abigen_runtime_cmpstring"], unfollowed := true, recurses := true, plainKeys := false, apart := false }
def FnAskBothSaid : Prop := fnAskBothRow.holds Tryz.pinned (OpenSpec.ofChange fnAskBothSpec)

/-- ITS FALSE NEIGHBOUR: 'it returns false'. Refute it at one input. -/
def fnAskBothWrong : ChangeSpec := { name := "fnAskBoth", fn := fun _ => fun
  | [d1, d2] => { results := [.lit (.bool false)], args := [d1, d2] }
  | _ => none }
def FnAskBothWrongFalsely : Prop := fnAskBothRow.holds Tryz.pinned (OpenSpec.ofChange fnAskBothWrong)

/- THE SECOND FORM. 'bulk': how many values and letters a reading holds, each counted each time it is reached (what is shared counts as often as it is met; a slice's spare places count too). A statement '..UptoSaid' is the law's where the arguments, and the package variables that the reading takes, are together of bulk at most 1048576: NARROWER than '..Said'. Prove '..Said' where nothing that the law and all that it calls make is longer than what came in: it says more and counts as full. Else prove '..UptoSaid'. A law counts once. -/
mutual
def uptoBulk {H : Type} : DataW H → Nat
  | .lit (.string bytes) => bytes.length + 1
  | .lit _ => 1
  | .nil => 1
  | .ptr d => uptoBulk d + 1
  | .slice elems spare => uptoBulkAll elems + uptoBulkAll spare + 1
  | .agg parts => uptoBulkAll parts + 1
  | .iface _ d => uptoBulk d + 1
  | .map entries => uptoBulkEntries entries + 1
  | .held _ => 1
def uptoBulkAll {H : Type} : List (DataW H) → Nat
  | [] => 0
  | d :: r => uptoBulk d + uptoBulkAll r
def uptoBulkEntries {H : Type} : List (Lit × DataW H) → Nat
  | [] => 0
  | x :: r => uptoBulkEntry x + uptoBulkEntries r
def uptoBulkEntry {H : Type} : Lit × DataW H → Nat
  | (.string bytes, d) => bytes.length + uptoBulk d + 1
  | (_, d) => uptoBulk d + 1
 end
def uptoSmall : (H : Type) → List (DataW H) → Bool := fun _ ds => decide (uptoBulkAll ds ≤ 1048576)
def OpenSpec.upto (s : _root_.Go.ChangeSpec) : _root_.Go.OpenSpec := { _root_.Go.OpenSpec.ofChange s with cond := some uptoSmall }

/-- 'laws.FnExactAsk', WHERE WHAT IT READS IS OF BULK AT MOST 1048576: true; the input reads as it did. -/
def fnExactAskUptoRow : OpenClaim := { program := "ytcigljngiemdeaagreat", sum := "117811b7f098f28bee283098a74b9996c8807e9751c9cf1a85ef4296befd1aa7", func := "loop.example/springhead/laws.FnExactAsk", spec := "fnExactAsk", inPlace := ["internal/bytealg.abigen_runtime_cmpstring"], unfollowed := true, recurses := true, plainKeys := false, apart := false, narrowed := true }
def FnExactAskUptoSaid : Prop := fnExactAskUptoRow.holds Tryz.pinned (OpenSpec.upto fnExactAskSpec)

/-- 'laws.FnAsk', WHERE WHAT IT READS IS OF BULK AT MOST 1048576: true; the input reads as it did. -/
def fnAskUptoRow : OpenClaim := { program := "ytcigljngiemdeaagreat", sum := "117811b7f098f28bee283098a74b9996c8807e9751c9cf1a85ef4296befd1aa7", func := "loop.example/springhead/laws.FnAsk", spec := "fnAsk", inPlace := ["internal/bytealg.abigen_runtime_cmpstring"], unfollowed := true, recurses := true, plainKeys := false, apart := false, narrowed := true }
def FnAskUptoSaid : Prop := fnAskUptoRow.holds Tryz.pinned (OpenSpec.upto fnAskSpec)

/-- 'laws.FnAskOrder', WHERE WHAT IT READS IS OF BULK AT MOST 1048576: true; the input reads as it did. -/
def fnAskOrderUptoRow : OpenClaim := { program := "ytcigljngiemdeaagreat", sum := "117811b7f098f28bee283098a74b9996c8807e9751c9cf1a85ef4296befd1aa7", func := "loop.example/springhead/laws.FnAskOrder", spec := "fnAskOrder", inPlace := ["internal/bytealg.abigen_runtime_cmpstring"], unfollowed := true, recurses := true, plainKeys := false, apart := false, narrowed := true }
def FnAskOrderUptoSaid : Prop := fnAskOrderUptoRow.holds Tryz.pinned (OpenSpec.upto fnAskOrderSpec)

/-- 'laws.FnAskMore', WHERE WHAT IT READS IS OF BULK AT MOST 1048576: true; the input reads as it did. -/
def fnAskMoreUptoRow : OpenClaim := { program := "ytcigljngiemdeaagreat", sum := "117811b7f098f28bee283098a74b9996c8807e9751c9cf1a85ef4296befd1aa7", func := "loop.example/springhead/laws.FnAskMore", spec := "fnAskMore", inPlace := ["internal/bytealg.abigen_runtime_cmpstring"], unfollowed := true, recurses := true, plainKeys := false, apart := false, narrowed := true }
def FnAskMoreUptoSaid : Prop := fnAskMoreUptoRow.holds Tryz.pinned (OpenSpec.upto fnAskMoreSpec)

/-- 'laws.FnAskFact', WHERE WHAT IT READS IS OF BULK AT MOST 1048576: true; the input reads as it did. -/
def fnAskFactUptoRow : OpenClaim := { program := "ytcigljngiemdeaagreat", sum := "117811b7f098f28bee283098a74b9996c8807e9751c9cf1a85ef4296befd1aa7", func := "loop.example/springhead/laws.FnAskFact", spec := "fnAskFact", inPlace := ["internal/bytealg.abigen_runtime_cmpstring"], unfollowed := true, recurses := true, plainKeys := false, apart := false, narrowed := true }
def FnAskFactUptoSaid : Prop := fnAskFactUptoRow.holds Tryz.pinned (OpenSpec.upto fnAskFactSpec)

/-- 'laws.FnAskBoth', WHERE WHAT IT READS IS OF BULK AT MOST 1048576: true; the input reads as it did. -/
def fnAskBothUptoRow : OpenClaim := { program := "ytcigljngiemdeaagreat", sum := "117811b7f098f28bee283098a74b9996c8807e9751c9cf1a85ef4296befd1aa7", func := "loop.example/springhead/laws.FnAskBoth", spec := "fnAskBoth", inPlace := ["internal/bytealg.abigen_runtime_cmpstring"], unfollowed := true, recurses := true, plainKeys := false, apart := false, narrowed := true }
def FnAskBothUptoSaid : Prop := fnAskBothUptoRow.holds Tryz.pinned (OpenSpec.upto fnAskBothSpec)

end Rows
end Go.Proofs.YtcigljngiemdeaaGreat
