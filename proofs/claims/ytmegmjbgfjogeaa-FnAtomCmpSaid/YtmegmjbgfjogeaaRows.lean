/-
  No cell of these rows narrows 'for every input' (looked for: loops, veiled, ifaces, maps, wideKeys, modest, calm, conditions, laid).
  DERIVED. THE GIVEN ROWS OF THIS SEAT. 7 by the template 'for every input the law returns true; each argument reads behind the call as it read before'; 0 by the template 'total and deterministic' (their statements: YtmegmjbgfjogeaaTotals.lean).
  GIVEN WITH THE SEED: the statements are not yours to turn. If you find one false, say at which input.
  Laid BY PROGRAM, IN A SANDBOX (cutbox-rows.mjs): the forced cells as the released guide's own fill.sh prints them over the translation f160036a91c2948d… (all of the seat's roots in one cut). By AI agents, Wed Nov 11 2026. No macro, syntax, notation, axiom, sorry.
-/
import Derived.Test.YtmegmjbgfjogeaaChecked
import GoSem.Claim
import GoSem.ClaimJoined
import GoSem.ClaimMapViews
import Derived.JoinedTies
import Derived.KernelRfl
namespace Go.Proofs.Ytmegmjbgfjogeaa
/- THE CELL 'sum', in the pinned program and in every row, IS THE sha256 OF THE DUMP (.gsa) THAT YtmegmjbgfjogeaaProg.lean LOADS. Nothing in Lean hashes anything: it is a label: what it is worth is what the hold of that sum in a sandbox is worth. -/
noncomputable def Try.pinned : Pinned := { name := "ytmegmjbgfjogeaa", sum := "f160036a91c2948d24b49229e2e80c76d3218cf0c16651f0a0fbb520725845ce", checked := Try.checked }
namespace Rows
def none {H : Type} : Left H := { results := [], args := [] }

/-- 'laws.FnNameOk': WHATEVER THE INPUT: true; the input reads as it did. -/
def fnNameOkSpec : ChangeSpec := { name := "fnNameOk", fn := fun _ => fun
  | [d] => { results := [.lit (.bool true)], args := [d] }
  | _ => none }
def fnNameOkRow : OpenClaim := { program := "ytmegmjbgfjogeaa", sum := "f160036a91c2948d24b49229e2e80c76d3218cf0c16651f0a0fbb520725845ce", func := "loop.example/springhead/laws.FnNameOk", spec := "fnNameOk", apart := false }
def FnNameOkSaid : Prop := fnNameOkRow.holds Try.pinned (OpenSpec.ofChange fnNameOkSpec)

/-- ITS FALSE NEIGHBOUR: 'it returns false'. Refute it at one input. -/
def fnNameOkWrong : ChangeSpec := { name := "fnNameOk", fn := fun _ => fun
  | [d] => { results := [.lit (.bool false)], args := [d] }
  | _ => none }
def FnNameOkWrongFalsely : Prop := fnNameOkRow.holds Try.pinned (OpenSpec.ofChange fnNameOkWrong)

/-- 'laws.FnAtomCmp': WHATEVER THE INPUT: true; the input reads as it did. -/
def fnAtomCmpSpec : ChangeSpec := { name := "fnAtomCmp", fn := fun _ => fun
  | [d1, d2] => { results := [.lit (.bool true)], args := [d1, d2] }
  | _ => none }
def fnAtomCmpRow : OpenClaim := { program := "ytmegmjbgfjogeaa", sum := "f160036a91c2948d24b49229e2e80c76d3218cf0c16651f0a0fbb520725845ce", func := "loop.example/springhead/laws.FnAtomCmp", spec := "fnAtomCmp", inPlace := ["internal/bytealg.abigen_runtime_cmpstring"], unfollowed := true, recurses := true, apart := false }
def FnAtomCmpSaid : Prop := fnAtomCmpRow.holds Try.pinned (OpenSpec.ofChange fnAtomCmpSpec)

/-- ITS FALSE NEIGHBOUR: 'it returns false'. Refute it at one input. -/
def fnAtomCmpWrong : ChangeSpec := { name := "fnAtomCmp", fn := fun _ => fun
  | [d1, d2] => { results := [.lit (.bool false)], args := [d1, d2] }
  | _ => none }
def FnAtomCmpWrongFalsely : Prop := fnAtomCmpRow.holds Try.pinned (OpenSpec.ofChange fnAtomCmpWrong)

/-- 'laws.FnExactNameOk': WHATEVER THE INPUT: true; the input reads as it did. -/
def fnExactNameOkSpec : ChangeSpec := { name := "fnExactNameOk", fn := fun _ => fun
  | [d] => { results := [.lit (.bool true)], args := [d] }
  | _ => none }
def fnExactNameOkRow : OpenClaim := { program := "ytmegmjbgfjogeaa", sum := "f160036a91c2948d24b49229e2e80c76d3218cf0c16651f0a0fbb520725845ce", func := "loop.example/springhead/laws.FnExactNameOk", spec := "fnExactNameOk", apart := false }
def FnExactNameOkSaid : Prop := fnExactNameOkRow.holds Try.pinned (OpenSpec.ofChange fnExactNameOkSpec)

/-- ITS FALSE NEIGHBOUR: 'it returns false'. Refute it at one input. -/
def fnExactNameOkWrong : ChangeSpec := { name := "fnExactNameOk", fn := fun _ => fun
  | [d] => { results := [.lit (.bool false)], args := [d] }
  | _ => none }
def FnExactNameOkWrongFalsely : Prop := fnExactNameOkRow.holds Try.pinned (OpenSpec.ofChange fnExactNameOkWrong)

/-- 'laws.FnExactAtomOk': WHATEVER THE INPUT: true; the input reads as it did. -/
def fnExactAtomOkSpec : ChangeSpec := { name := "fnExactAtomOk", fn := fun _ => fun
  | [d] => { results := [.lit (.bool true)], args := [d] }
  | _ => none }
def fnExactAtomOkRow : OpenClaim := { program := "ytmegmjbgfjogeaa", sum := "f160036a91c2948d24b49229e2e80c76d3218cf0c16651f0a0fbb520725845ce", func := "loop.example/springhead/laws.FnExactAtomOk", spec := "fnExactAtomOk", unfollowed := true, recurses := true, apart := false }
def FnExactAtomOkSaid : Prop := fnExactAtomOkRow.holds Try.pinned (OpenSpec.ofChange fnExactAtomOkSpec)

/-- ITS FALSE NEIGHBOUR: 'it returns false'. Refute it at one input. -/
def fnExactAtomOkWrong : ChangeSpec := { name := "fnExactAtomOk", fn := fun _ => fun
  | [d] => { results := [.lit (.bool false)], args := [d] }
  | _ => none }
def FnExactAtomOkWrongFalsely : Prop := fnExactAtomOkRow.holds Try.pinned (OpenSpec.ofChange fnExactAtomOkWrong)

/-- 'laws.FnExactAtomPut': WHATEVER THE INPUT: true; the input reads as it did. -/
def fnExactAtomPutSpec : ChangeSpec := { name := "fnExactAtomPut", fn := fun _ => fun
  | [d] => { results := [.lit (.bool true)], args := [d] }
  | _ => none }
def fnExactAtomPutRow : OpenClaim := { program := "ytmegmjbgfjogeaa", sum := "f160036a91c2948d24b49229e2e80c76d3218cf0c16651f0a0fbb520725845ce", func := "loop.example/springhead/laws.FnExactAtomPut", spec := "fnExactAtomPut", inPlace := ["internal/abi.NoEscape", "internal/bytealg.MakeNoZero"], unfollowed := true, recurses := true, apart := false }
def FnExactAtomPutSaid : Prop := fnExactAtomPutRow.holds Try.pinned (OpenSpec.ofChange fnExactAtomPutSpec)

/-- ITS FALSE NEIGHBOUR: 'it returns false'. Refute it at one input. -/
def fnExactAtomPutWrong : ChangeSpec := { name := "fnExactAtomPut", fn := fun _ => fun
  | [d] => { results := [.lit (.bool false)], args := [d] }
  | _ => none }
def FnExactAtomPutWrongFalsely : Prop := fnExactAtomPutRow.holds Try.pinned (OpenSpec.ofChange fnExactAtomPutWrong)

/-- 'laws.FnExactRulePut': WHATEVER THE INPUT: true; the input reads as it did. -/
def fnExactRulePutSpec : ChangeSpec := { name := "fnExactRulePut", fn := fun _ => fun
  | [d] => { results := [.lit (.bool true)], args := [d] }
  | _ => none }
def fnExactRulePutRow : OpenClaim := { program := "ytmegmjbgfjogeaa", sum := "f160036a91c2948d24b49229e2e80c76d3218cf0c16651f0a0fbb520725845ce", func := "loop.example/springhead/laws.FnExactRulePut", spec := "fnExactRulePut", inPlace := ["internal/abi.NoEscape", "internal/bytealg.MakeNoZero"], unfollowed := true, recurses := true, apart := false }
def FnExactRulePutSaid : Prop := fnExactRulePutRow.holds Try.pinned (OpenSpec.ofChange fnExactRulePutSpec)

/-- ITS FALSE NEIGHBOUR: 'it returns false'. Refute it at one input. -/
def fnExactRulePutWrong : ChangeSpec := { name := "fnExactRulePut", fn := fun _ => fun
  | [d] => { results := [.lit (.bool false)], args := [d] }
  | _ => none }
def FnExactRulePutWrongFalsely : Prop := fnExactRulePutRow.holds Try.pinned (OpenSpec.ofChange fnExactRulePutWrong)

/-- 'laws.FnExactAtomCmp': WHATEVER THE INPUT: true; the input reads as it did. -/
def fnExactAtomCmpSpec : ChangeSpec := { name := "fnExactAtomCmp", fn := fun _ => fun
  | [d1, d2] => { results := [.lit (.bool true)], args := [d1, d2] }
  | _ => none }
def fnExactAtomCmpRow : OpenClaim := { program := "ytmegmjbgfjogeaa", sum := "f160036a91c2948d24b49229e2e80c76d3218cf0c16651f0a0fbb520725845ce", func := "loop.example/springhead/laws.FnExactAtomCmp", spec := "fnExactAtomCmp", inPlace := ["internal/bytealg.abigen_runtime_cmpstring"], unfollowed := true, recurses := true, apart := false }
def FnExactAtomCmpSaid : Prop := fnExactAtomCmpRow.holds Try.pinned (OpenSpec.ofChange fnExactAtomCmpSpec)

/-- ITS FALSE NEIGHBOUR: 'it returns false'. Refute it at one input. -/
def fnExactAtomCmpWrong : ChangeSpec := { name := "fnExactAtomCmp", fn := fun _ => fun
  | [d1, d2] => { results := [.lit (.bool false)], args := [d1, d2] }
  | _ => none }
def FnExactAtomCmpWrongFalsely : Prop := fnExactAtomCmpRow.holds Try.pinned (OpenSpec.ofChange fnExactAtomCmpWrong)

/- THE SECOND FORM. 'bulk': how many values and letters a reading holds, each counted each time it is reached (what is shared counts as often as it is met; a slice's spare places count too). A statement '..UptoSaid' is the law's where the arguments, and the package variables that the reading takes, are together of bulk at most 1048576: NARROWER than '..Said'. Prove '..Said' where nothing that the law and all that it calls make is longer than what came in: it says more and counts as full. Else prove '..UptoSaid'. A law counts once. -/
mutual
def uptoBulk {H : Type} : DataW H → Nat
  | .lit (.string bytes) => bytes.length + 1
  | .lit _ => 1
  | .nil => 1
  | .ptr d => uptoBulk d + 1
  | .slice elems spare => uptoBulkAll elems + uptoBulkAll spare + 1
  | .agg parts => uptoBulkAll parts + 1
  | .iface _ d => uptoBulk d + 1
  | .map entries => uptoBulkEntries entries + 1
  | .held _ => 1
def uptoBulkAll {H : Type} : List (DataW H) → Nat
  | [] => 0
  | d :: r => uptoBulk d + uptoBulkAll r
def uptoBulkEntries {H : Type} : List (Lit × DataW H) → Nat
  | [] => 0
  | x :: r => uptoBulkEntry x + uptoBulkEntries r
def uptoBulkEntry {H : Type} : Lit × DataW H → Nat
  | (.string bytes, d) => bytes.length + uptoBulk d + 1
  | (_, d) => uptoBulk d + 1
 end
def uptoSmall : (H : Type) → List (DataW H) → Bool := fun _ ds => decide (uptoBulkAll ds ≤ 1048576)
def OpenSpec.upto (s : _root_.Go.ChangeSpec) : _root_.Go.OpenSpec := { _root_.Go.OpenSpec.ofChange s with cond := some uptoSmall }

/-- 'laws.FnNameOk', WHERE WHAT IT READS IS OF BULK AT MOST 1048576: true; the input reads as it did. -/
def fnNameOkUptoRow : OpenClaim := { program := "ytmegmjbgfjogeaa", sum := "f160036a91c2948d24b49229e2e80c76d3218cf0c16651f0a0fbb520725845ce", func := "loop.example/springhead/laws.FnNameOk", spec := "fnNameOk", apart := false, narrowed := true }
def FnNameOkUptoSaid : Prop := fnNameOkUptoRow.holds Try.pinned (OpenSpec.upto fnNameOkSpec)

/-- 'laws.FnAtomCmp', WHERE WHAT IT READS IS OF BULK AT MOST 1048576: true; the input reads as it did. -/
def fnAtomCmpUptoRow : OpenClaim := { program := "ytmegmjbgfjogeaa", sum := "f160036a91c2948d24b49229e2e80c76d3218cf0c16651f0a0fbb520725845ce", func := "loop.example/springhead/laws.FnAtomCmp", spec := "fnAtomCmp", inPlace := ["internal/bytealg.abigen_runtime_cmpstring"], unfollowed := true, recurses := true, apart := false, narrowed := true }
def FnAtomCmpUptoSaid : Prop := fnAtomCmpUptoRow.holds Try.pinned (OpenSpec.upto fnAtomCmpSpec)

/-- 'laws.FnExactNameOk', WHERE WHAT IT READS IS OF BULK AT MOST 1048576: true; the input reads as it did. -/
def fnExactNameOkUptoRow : OpenClaim := { program := "ytmegmjbgfjogeaa", sum := "f160036a91c2948d24b49229e2e80c76d3218cf0c16651f0a0fbb520725845ce", func := "loop.example/springhead/laws.FnExactNameOk", spec := "fnExactNameOk", apart := false, narrowed := true }
def FnExactNameOkUptoSaid : Prop := fnExactNameOkUptoRow.holds Try.pinned (OpenSpec.upto fnExactNameOkSpec)

/-- 'laws.FnExactAtomOk', WHERE WHAT IT READS IS OF BULK AT MOST 1048576: true; the input reads as it did. -/
def fnExactAtomOkUptoRow : OpenClaim := { program := "ytmegmjbgfjogeaa", sum := "f160036a91c2948d24b49229e2e80c76d3218cf0c16651f0a0fbb520725845ce", func := "loop.example/springhead/laws.FnExactAtomOk", spec := "fnExactAtomOk", unfollowed := true, recurses := true, apart := false, narrowed := true }
def FnExactAtomOkUptoSaid : Prop := fnExactAtomOkUptoRow.holds Try.pinned (OpenSpec.upto fnExactAtomOkSpec)

/-- 'laws.FnExactAtomPut', WHERE WHAT IT READS IS OF BULK AT MOST 1048576: true; the input reads as it did. -/
def fnExactAtomPutUptoRow : OpenClaim := { program := "ytmegmjbgfjogeaa", sum := "f160036a91c2948d24b49229e2e80c76d3218cf0c16651f0a0fbb520725845ce", func := "loop.example/springhead/laws.FnExactAtomPut", spec := "fnExactAtomPut", inPlace := ["internal/abi.NoEscape", "internal/bytealg.MakeNoZero"], unfollowed := true, recurses := true, apart := false, narrowed := true }
def FnExactAtomPutUptoSaid : Prop := fnExactAtomPutUptoRow.holds Try.pinned (OpenSpec.upto fnExactAtomPutSpec)

/-- 'laws.FnExactRulePut', WHERE WHAT IT READS IS OF BULK AT MOST 1048576: true; the input reads as it did. -/
def fnExactRulePutUptoRow : OpenClaim := { program := "ytmegmjbgfjogeaa", sum := "f160036a91c2948d24b49229e2e80c76d3218cf0c16651f0a0fbb520725845ce", func := "loop.example/springhead/laws.FnExactRulePut", spec := "fnExactRulePut", inPlace := ["internal/abi.NoEscape", "internal/bytealg.MakeNoZero"], unfollowed := true, recurses := true, apart := false, narrowed := true }
def FnExactRulePutUptoSaid : Prop := fnExactRulePutUptoRow.holds Try.pinned (OpenSpec.upto fnExactRulePutSpec)

/-- 'laws.FnExactAtomCmp', WHERE WHAT IT READS IS OF BULK AT MOST 1048576: true; the input reads as it did. -/
def fnExactAtomCmpUptoRow : OpenClaim := { program := "ytmegmjbgfjogeaa", sum := "f160036a91c2948d24b49229e2e80c76d3218cf0c16651f0a0fbb520725845ce", func := "loop.example/springhead/laws.FnExactAtomCmp", spec := "fnExactAtomCmp", inPlace := ["internal/bytealg.abigen_runtime_cmpstring"], unfollowed := true, recurses := true, apart := false, narrowed := true }
def FnExactAtomCmpUptoSaid : Prop := fnExactAtomCmpUptoRow.holds Try.pinned (OpenSpec.upto fnExactAtomCmpSpec)

end Rows
end Go.Proofs.Ytmegmjbgfjogeaa
