/-
  NARROWER THAN 'FOR EVERY INPUT', by the rows' own cells (each row's printed sentence says how): FnExactAtomGet: laid · FnAtomText: laid · FnExactRuleGet: laid · FnRuleText: laid · FnExactAskGet: laid · FnAskText: laid · FnExactChangeGet: laid.
  DERIVED. THE GIVEN ROWS OF THIS SEAT. 7 by the template 'for every input the law returns true; each argument reads behind the call as it read before'; 0 by the template 'total and deterministic' (their statements: YtahkkelahocplaaDoorTotals.lean).
  GIVEN WITH THE SEED: the statements are not yours to turn. If you find one false, say at which input.
  Laid BY PROGRAM, IN A SANDBOX (cutbox-rows.mjs): the forced cells as the released guide's own fill.sh prints them over the translation d8f15804f2f25fc4… (all of the seat's roots in one cut). By AI agents, Wed Nov 11 2026. No macro, syntax, notation, axiom, sorry.
-/
import Derived.Test.YtahkkelahocplaaDoorChecked
import GoSem.PinnedTables
import GoSem.Claim
import GoSem.ClaimJoined
import GoSem.ClaimMapViews
import Derived.JoinedTies
import Derived.KernelRfl
namespace Go.Proofs.YtahkkelahocplaaDoor
/- THE CELL 'sum', in the pinned program and in every row, IS THE sha256 OF THE DUMP (.gsa) THAT YtahkkelahocplaaDoorProg.lean LOADS. Nothing in Lean hashes anything: it is a label: what it is worth is what the hold of that sum in a sandbox is worth. -/
noncomputable def Tryd.pinned : Pinned := { name := "ytahkkelahocplaadoor", sum := "d8f15804f2f25fc4da733c1ab1ff62e1e25b9d8ae1c81c49048cd2f314857537", checked := Tryd.checked }
namespace Rows
def none {H : Type} : Left H := { results := [], args := [] }

/- WHAT THE LISTED PACKAGE-LEVEL VARIABLES READ AS WHEN THE CALL BEGINS. Each datum BY PROGRAM (the guide's laid-datum.mjs) off the statement by which the dump's own 'gosem.cut.vars' lays the variable. In a bare row this is a premise. The card (YtahkkelahocplaaDoorCards.lean) ties it to the program's text. -/
def laid_unicode_utf8_acceptRanges {H : Type} : DataW H := .agg [.agg [.lit (.int .u8 128), .lit (.int .u8 191)], .agg [.lit (.int .u8 160), .lit (.int .u8 191)], .agg [.lit (.int .u8 128), .lit (.int .u8 159)], .agg [.lit (.int .u8 144), .lit (.int .u8 191)], .agg [.lit (.int .u8 128), .lit (.int .u8 143)], .agg [.lit (.int .u8 0), .lit (.int .u8 0)], .agg [.lit (.int .u8 0), .lit (.int .u8 0)], .agg [.lit (.int .u8 0), .lit (.int .u8 0)], .agg [.lit (.int .u8 0), .lit (.int .u8 0)], .agg [.lit (.int .u8 0), .lit (.int .u8 0)], .agg [.lit (.int .u8 0), .lit (.int .u8 0)], .agg [.lit (.int .u8 0), .lit (.int .u8 0)], .agg [.lit (.int .u8 0), .lit (.int .u8 0)], .agg [.lit (.int .u8 0), .lit (.int .u8 0)], .agg [.lit (.int .u8 0), .lit (.int .u8 0)], .agg [.lit (.int .u8 0), .lit (.int .u8 0)]]
/-- One of Go's own tables, pinned by name: the form's constant. -/
def laid_unicode_utf8_first : DataW Unit := Go.Pinned.utf8First
def laid_io_EOF {H : Type} : DataW H := .iface "*errors.errorString" (.ptr (.agg [.lit (.string [69, 79, 70])]))

/-- 'laws.FnExactAtomGet': WHATEVER THE INPUT: true; the input reads as it did. -/
def fnExactAtomGetSpec : ChangeSpec := { name := "fnExactAtomGet", fn := fun _ => fun
  | [d] => { results := [.lit (.bool true)], args := [d] }
  | _ => none }
def fnExactAtomGetRow : OpenClaim := { program := "ytahkkelahocplaadoor", sum := "d8f15804f2f25fc4da733c1ab1ff62e1e25b9d8ae1c81c49048cd2f314857537", func := "loop.example/springhead/laws.FnExactAtomGet", spec := "fnExactAtomGet", inPlace := ["internal/bytealg.IndexByteString", "internal/bytealg.IndexString", "internal/bytealg.CountString"], unfollowed := true, recurses := true, named := ["internal/bytealg.MaxLen", "unicode/utf8.first", "unicode/utf8.acceptRanges"], apart := false, laid := [("unicode/utf8.acceptRanges", laid_unicode_utf8_acceptRanges), ("unicode/utf8.first", laid_unicode_utf8_first)] }
def FnExactAtomGetSaid : Prop := fnExactAtomGetRow.holds Tryd.pinned (OpenSpec.ofChange fnExactAtomGetSpec)

/-- ITS FALSE NEIGHBOUR: 'it returns false'. Refute it at one input. -/
def fnExactAtomGetWrong : ChangeSpec := { name := "fnExactAtomGet", fn := fun _ => fun
  | [d] => { results := [.lit (.bool false)], args := [d] }
  | _ => none }
def FnExactAtomGetWrongFalsely : Prop := fnExactAtomGetRow.holds Tryd.pinned (OpenSpec.ofChange fnExactAtomGetWrong)

/-- 'laws.FnAtomText': WHATEVER THE INPUT: true; the input reads as it did. -/
def fnAtomTextSpec : ChangeSpec := { name := "fnAtomText", fn := fun _ => fun
  | [d1, d2] => { results := [.lit (.bool true)], args := [d1, d2] }
  | _ => none }
def fnAtomTextRow : OpenClaim := { program := "ytahkkelahocplaadoor", sum := "d8f15804f2f25fc4da733c1ab1ff62e1e25b9d8ae1c81c49048cd2f314857537", func := "loop.example/springhead/laws.FnAtomText", spec := "fnAtomText", inPlace := ["internal/abi.NoEscape", "internal/bytealg.MakeNoZero", "internal/bytealg.IndexByteString", "internal/bytealg.IndexString", "internal/bytealg.CountString"], unfollowed := true, recurses := true, named := ["internal/bytealg.MaxLen", "unicode/utf8.first", "unicode/utf8.acceptRanges"], apart := false, laid := [("unicode/utf8.acceptRanges", laid_unicode_utf8_acceptRanges), ("unicode/utf8.first", laid_unicode_utf8_first)] }
def FnAtomTextSaid : Prop := fnAtomTextRow.holds Tryd.pinned (OpenSpec.ofChange fnAtomTextSpec)

/-- ITS FALSE NEIGHBOUR: 'it returns false'. Refute it at one input. -/
def fnAtomTextWrong : ChangeSpec := { name := "fnAtomText", fn := fun _ => fun
  | [d1, d2] => { results := [.lit (.bool false)], args := [d1, d2] }
  | _ => none }
def FnAtomTextWrongFalsely : Prop := fnAtomTextRow.holds Tryd.pinned (OpenSpec.ofChange fnAtomTextWrong)

/-- 'laws.FnExactRuleGet': WHATEVER THE INPUT: true; the input reads as it did. -/
def fnExactRuleGetSpec : ChangeSpec := { name := "fnExactRuleGet", fn := fun _ => fun
  | [d] => { results := [.lit (.bool true)], args := [d] }
  | _ => none }
def fnExactRuleGetRow : OpenClaim := { program := "ytahkkelahocplaadoor", sum := "d8f15804f2f25fc4da733c1ab1ff62e1e25b9d8ae1c81c49048cd2f314857537", func := "loop.example/springhead/laws.FnExactRuleGet", spec := "fnExactRuleGet", inPlace := ["internal/bytealg.IndexByteString", "internal/bytealg.IndexString", "internal/bytealg.CountString"], unfollowed := true, recurses := true, named := ["internal/bytealg.MaxLen", "unicode/utf8.first", "unicode/utf8.acceptRanges"], apart := false, laid := [("unicode/utf8.acceptRanges", laid_unicode_utf8_acceptRanges), ("unicode/utf8.first", laid_unicode_utf8_first)] }
def FnExactRuleGetSaid : Prop := fnExactRuleGetRow.holds Tryd.pinned (OpenSpec.ofChange fnExactRuleGetSpec)

/-- ITS FALSE NEIGHBOUR: 'it returns false'. Refute it at one input. -/
def fnExactRuleGetWrong : ChangeSpec := { name := "fnExactRuleGet", fn := fun _ => fun
  | [d] => { results := [.lit (.bool false)], args := [d] }
  | _ => none }
def FnExactRuleGetWrongFalsely : Prop := fnExactRuleGetRow.holds Tryd.pinned (OpenSpec.ofChange fnExactRuleGetWrong)

/-- 'laws.FnRuleText': WHATEVER THE INPUT: true; the input reads as it did. -/
def fnRuleTextSpec : ChangeSpec := { name := "fnRuleText", fn := fun _ => fun
  | [d1, d2] => { results := [.lit (.bool true)], args := [d1, d2] }
  | _ => none }
def fnRuleTextRow : OpenClaim := { program := "ytahkkelahocplaadoor", sum := "d8f15804f2f25fc4da733c1ab1ff62e1e25b9d8ae1c81c49048cd2f314857537", func := "loop.example/springhead/laws.FnRuleText", spec := "fnRuleText", inPlace := ["internal/abi.NoEscape", "internal/bytealg.MakeNoZero", "internal/bytealg.IndexByteString", "internal/bytealg.IndexString", "internal/bytealg.CountString"], unfollowed := true, recurses := true, named := ["internal/bytealg.MaxLen", "unicode/utf8.first", "unicode/utf8.acceptRanges"], apart := false, laid := [("unicode/utf8.acceptRanges", laid_unicode_utf8_acceptRanges), ("unicode/utf8.first", laid_unicode_utf8_first)] }
def FnRuleTextSaid : Prop := fnRuleTextRow.holds Tryd.pinned (OpenSpec.ofChange fnRuleTextSpec)

/-- ITS FALSE NEIGHBOUR: 'it returns false'. Refute it at one input. -/
def fnRuleTextWrong : ChangeSpec := { name := "fnRuleText", fn := fun _ => fun
  | [d1, d2] => { results := [.lit (.bool false)], args := [d1, d2] }
  | _ => none }
def FnRuleTextWrongFalsely : Prop := fnRuleTextRow.holds Tryd.pinned (OpenSpec.ofChange fnRuleTextWrong)

/-- 'laws.FnExactAskGet': WHATEVER THE INPUT: true; the input reads as it did. -/
def fnExactAskGetSpec : ChangeSpec := { name := "fnExactAskGet", fn := fun _ => fun
  | [d] => { results := [.lit (.bool true)], args := [d] }
  | _ => none }
def fnExactAskGetRow : OpenClaim := { program := "ytahkkelahocplaadoor", sum := "d8f15804f2f25fc4da733c1ab1ff62e1e25b9d8ae1c81c49048cd2f314857537", func := "loop.example/springhead/laws.FnExactAskGet", spec := "fnExactAskGet", inPlace := ["internal/bytealg.CountString", "internal/bytealg.IndexByteString", "internal/bytealg.IndexString"], unfollowed := true, recurses := true, named := ["unicode/utf8.first", "unicode/utf8.acceptRanges", "internal/bytealg.MaxLen"], apart := false, laid := [("unicode/utf8.acceptRanges", laid_unicode_utf8_acceptRanges), ("unicode/utf8.first", laid_unicode_utf8_first)] }
def FnExactAskGetSaid : Prop := fnExactAskGetRow.holds Tryd.pinned (OpenSpec.ofChange fnExactAskGetSpec)

/-- ITS FALSE NEIGHBOUR: 'it returns false'. Refute it at one input. -/
def fnExactAskGetWrong : ChangeSpec := { name := "fnExactAskGet", fn := fun _ => fun
  | [d] => { results := [.lit (.bool false)], args := [d] }
  | _ => none }
def FnExactAskGetWrongFalsely : Prop := fnExactAskGetRow.holds Tryd.pinned (OpenSpec.ofChange fnExactAskGetWrong)

/-- 'laws.FnAskText': WHATEVER THE INPUT: true; the input reads as it did. -/
def fnAskTextSpec : ChangeSpec := { name := "fnAskText", fn := fun _ => fun
  | [d1, d2] => { results := [.lit (.bool true)], args := [d1, d2] }
  | _ => none }
def fnAskTextRow : OpenClaim := { program := "ytahkkelahocplaadoor", sum := "d8f15804f2f25fc4da733c1ab1ff62e1e25b9d8ae1c81c49048cd2f314857537", func := "loop.example/springhead/laws.FnAskText", spec := "fnAskText", inPlace := ["internal/abi.NoEscape", "internal/bytealg.MakeNoZero", "internal/bytealg.CountString", "internal/bytealg.IndexByteString", "internal/bytealg.IndexString"], unfollowed := true, recurses := true, named := ["unicode/utf8.first", "unicode/utf8.acceptRanges", "internal/bytealg.MaxLen"], apart := false, laid := [("unicode/utf8.acceptRanges", laid_unicode_utf8_acceptRanges), ("unicode/utf8.first", laid_unicode_utf8_first)] }
def FnAskTextSaid : Prop := fnAskTextRow.holds Tryd.pinned (OpenSpec.ofChange fnAskTextSpec)

/-- ITS FALSE NEIGHBOUR: 'it returns false'. Refute it at one input. -/
def fnAskTextWrong : ChangeSpec := { name := "fnAskText", fn := fun _ => fun
  | [d1, d2] => { results := [.lit (.bool false)], args := [d1, d2] }
  | _ => none }
def FnAskTextWrongFalsely : Prop := fnAskTextRow.holds Tryd.pinned (OpenSpec.ofChange fnAskTextWrong)

/-- 'laws.FnExactChangeGet': WHATEVER THE INPUT: true; the input reads as it did. -/
def fnExactChangeGetSpec : ChangeSpec := { name := "fnExactChangeGet", fn := fun _ => fun
  | [d] => { results := [.lit (.bool true)], args := [d] }
  | _ => none }
def fnExactChangeGetRow : OpenClaim := { program := "ytahkkelahocplaadoor", sum := "d8f15804f2f25fc4da733c1ab1ff62e1e25b9d8ae1c81c49048cd2f314857537", func := "loop.example/springhead/laws.FnExactChangeGet", spec := "fnExactChangeGet", inPlace := ["internal/abi.NoEscape", "internal/bytealg.IndexByteString", "internal/bytealg.IndexString", "internal/bytealg.CountString", "internal/bytealg.abigen_runtime_cmpstring"], unfollowed := true, recurses := true, named := ["io.EOF", "internal/bytealg.MaxLen", "unicode/utf8.first", "unicode/utf8.acceptRanges"], apart := false, laid := [("unicode/utf8.acceptRanges", laid_unicode_utf8_acceptRanges), ("io.EOF", laid_io_EOF), ("unicode/utf8.first", laid_unicode_utf8_first)] }
def FnExactChangeGetSaid : Prop := fnExactChangeGetRow.holds Tryd.pinned (OpenSpec.ofChange fnExactChangeGetSpec)

/-- ITS FALSE NEIGHBOUR: 'it returns false'. Refute it at one input. -/
def fnExactChangeGetWrong : ChangeSpec := { name := "fnExactChangeGet", fn := fun _ => fun
  | [d] => { results := [.lit (.bool false)], args := [d] }
  | _ => none }
def FnExactChangeGetWrongFalsely : Prop := fnExactChangeGetRow.holds Tryd.pinned (OpenSpec.ofChange fnExactChangeGetWrong)

/- THE SECOND FORM. 'bulk': how many values and letters a reading holds, each counted each time it is reached (what is shared counts as often as it is met; a slice's spare places count too). A statement '..UptoSaid' is the law's where the arguments, and the package variables that the reading takes, are together of bulk at most 1048576: NARROWER than '..Said'. Prove '..Said' where nothing that the law and all that it calls make is longer than what came in: it says more and counts as full. Else prove '..UptoSaid'. A law counts once. -/
mutual
def uptoBulk {H : Type} : DataW H → Nat
  | .lit (.string bytes) => bytes.length + 1
  | .lit _ => 1
  | .nil => 1
  | .ptr d => uptoBulk d + 1
  | .slice elems spare => uptoBulkAll elems + uptoBulkAll spare + 1
  | .agg parts => uptoBulkAll parts + 1
  | .iface _ d => uptoBulk d + 1
  | .map entries => uptoBulkEntries entries + 1
  | .held _ => 1
def uptoBulkAll {H : Type} : List (DataW H) → Nat
  | [] => 0
  | d :: r => uptoBulk d + uptoBulkAll r
def uptoBulkEntries {H : Type} : List (Lit × DataW H) → Nat
  | [] => 0
  | x :: r => uptoBulkEntry x + uptoBulkEntries r
def uptoBulkEntry {H : Type} : Lit × DataW H → Nat
  | (.string bytes, d) => bytes.length + uptoBulk d + 1
  | (_, d) => uptoBulk d + 1
 end
def uptoSmall : (H : Type) → List (DataW H) → Bool := fun _ ds => decide (uptoBulkAll ds ≤ 1048576)
def OpenSpec.upto (s : _root_.Go.ChangeSpec) : _root_.Go.OpenSpec := { _root_.Go.OpenSpec.ofChange s with cond := some uptoSmall }

/-- 'laws.FnExactAtomGet', WHERE WHAT IT READS IS OF BULK AT MOST 1048576: true; the input reads as it did. -/
def fnExactAtomGetUptoRow : OpenClaim := { program := "ytahkkelahocplaadoor", sum := "d8f15804f2f25fc4da733c1ab1ff62e1e25b9d8ae1c81c49048cd2f314857537", func := "loop.example/springhead/laws.FnExactAtomGet", spec := "fnExactAtomGet", inPlace := ["internal/bytealg.IndexByteString", "internal/bytealg.IndexString", "internal/bytealg.CountString"], unfollowed := true, recurses := true, named := ["internal/bytealg.MaxLen", "unicode/utf8.first", "unicode/utf8.acceptRanges"], apart := false, laid := [("unicode/utf8.acceptRanges", laid_unicode_utf8_acceptRanges), ("unicode/utf8.first", laid_unicode_utf8_first)], narrowed := true }
def FnExactAtomGetUptoSaid : Prop := fnExactAtomGetUptoRow.holds Tryd.pinned (OpenSpec.upto fnExactAtomGetSpec)

/-- 'laws.FnAtomText', WHERE WHAT IT READS IS OF BULK AT MOST 1048576: true; the input reads as it did. -/
def fnAtomTextUptoRow : OpenClaim := { program := "ytahkkelahocplaadoor", sum := "d8f15804f2f25fc4da733c1ab1ff62e1e25b9d8ae1c81c49048cd2f314857537", func := "loop.example/springhead/laws.FnAtomText", spec := "fnAtomText", inPlace := ["internal/abi.NoEscape", "internal/bytealg.MakeNoZero", "internal/bytealg.IndexByteString", "internal/bytealg.IndexString", "internal/bytealg.CountString"], unfollowed := true, recurses := true, named := ["internal/bytealg.MaxLen", "unicode/utf8.first", "unicode/utf8.acceptRanges"], apart := false, laid := [("unicode/utf8.acceptRanges", laid_unicode_utf8_acceptRanges), ("unicode/utf8.first", laid_unicode_utf8_first)], narrowed := true }
def FnAtomTextUptoSaid : Prop := fnAtomTextUptoRow.holds Tryd.pinned (OpenSpec.upto fnAtomTextSpec)

/-- 'laws.FnExactRuleGet', WHERE WHAT IT READS IS OF BULK AT MOST 1048576: true; the input reads as it did. -/
def fnExactRuleGetUptoRow : OpenClaim := { program := "ytahkkelahocplaadoor", sum := "d8f15804f2f25fc4da733c1ab1ff62e1e25b9d8ae1c81c49048cd2f314857537", func := "loop.example/springhead/laws.FnExactRuleGet", spec := "fnExactRuleGet", inPlace := ["internal/bytealg.IndexByteString", "internal/bytealg.IndexString", "internal/bytealg.CountString"], unfollowed := true, recurses := true, named := ["internal/bytealg.MaxLen", "unicode/utf8.first", "unicode/utf8.acceptRanges"], apart := false, laid := [("unicode/utf8.acceptRanges", laid_unicode_utf8_acceptRanges), ("unicode/utf8.first", laid_unicode_utf8_first)], narrowed := true }
def FnExactRuleGetUptoSaid : Prop := fnExactRuleGetUptoRow.holds Tryd.pinned (OpenSpec.upto fnExactRuleGetSpec)

/-- 'laws.FnRuleText', WHERE WHAT IT READS IS OF BULK AT MOST 1048576: true; the input reads as it did. -/
def fnRuleTextUptoRow : OpenClaim := { program := "ytahkkelahocplaadoor", sum := "d8f15804f2f25fc4da733c1ab1ff62e1e25b9d8ae1c81c49048cd2f314857537", func := "loop.example/springhead/laws.FnRuleText", spec := "fnRuleText", inPlace := ["internal/abi.NoEscape", "internal/bytealg.MakeNoZero", "internal/bytealg.IndexByteString", "internal/bytealg.IndexString", "internal/bytealg.CountString"], unfollowed := true, recurses := true, named := ["internal/bytealg.MaxLen", "unicode/utf8.first", "unicode/utf8.acceptRanges"], apart := false, laid := [("unicode/utf8.acceptRanges", laid_unicode_utf8_acceptRanges), ("unicode/utf8.first", laid_unicode_utf8_first)], narrowed := true }
def FnRuleTextUptoSaid : Prop := fnRuleTextUptoRow.holds Tryd.pinned (OpenSpec.upto fnRuleTextSpec)

/-- 'laws.FnExactAskGet', WHERE WHAT IT READS IS OF BULK AT MOST 1048576: true; the input reads as it did. -/
def fnExactAskGetUptoRow : OpenClaim := { program := "ytahkkelahocplaadoor", sum := "d8f15804f2f25fc4da733c1ab1ff62e1e25b9d8ae1c81c49048cd2f314857537", func := "loop.example/springhead/laws.FnExactAskGet", spec := "fnExactAskGet", inPlace := ["internal/bytealg.CountString", "internal/bytealg.IndexByteString", "internal/bytealg.IndexString"], unfollowed := true, recurses := true, named := ["unicode/utf8.first", "unicode/utf8.acceptRanges", "internal/bytealg.MaxLen"], apart := false, laid := [("unicode/utf8.acceptRanges", laid_unicode_utf8_acceptRanges), ("unicode/utf8.first", laid_unicode_utf8_first)], narrowed := true }
def FnExactAskGetUptoSaid : Prop := fnExactAskGetUptoRow.holds Tryd.pinned (OpenSpec.upto fnExactAskGetSpec)

/-- 'laws.FnAskText', WHERE WHAT IT READS IS OF BULK AT MOST 1048576: true; the input reads as it did. -/
def fnAskTextUptoRow : OpenClaim := { program := "ytahkkelahocplaadoor", sum := "d8f15804f2f25fc4da733c1ab1ff62e1e25b9d8ae1c81c49048cd2f314857537", func := "loop.example/springhead/laws.FnAskText", spec := "fnAskText", inPlace := ["internal/abi.NoEscape", "internal/bytealg.MakeNoZero", "internal/bytealg.CountString", "internal/bytealg.IndexByteString", "internal/bytealg.IndexString"], unfollowed := true, recurses := true, named := ["unicode/utf8.first", "unicode/utf8.acceptRanges", "internal/bytealg.MaxLen"], apart := false, laid := [("unicode/utf8.acceptRanges", laid_unicode_utf8_acceptRanges), ("unicode/utf8.first", laid_unicode_utf8_first)], narrowed := true }
def FnAskTextUptoSaid : Prop := fnAskTextUptoRow.holds Tryd.pinned (OpenSpec.upto fnAskTextSpec)

/-- 'laws.FnExactChangeGet', WHERE WHAT IT READS IS OF BULK AT MOST 1048576: true; the input reads as it did. -/
def fnExactChangeGetUptoRow : OpenClaim := { program := "ytahkkelahocplaadoor", sum := "d8f15804f2f25fc4da733c1ab1ff62e1e25b9d8ae1c81c49048cd2f314857537", func := "loop.example/springhead/laws.FnExactChangeGet", spec := "fnExactChangeGet", inPlace := ["internal/abi.NoEscape", "internal/bytealg.IndexByteString", "internal/bytealg.IndexString", "internal/bytealg.CountString", "internal/bytealg.abigen_runtime_cmpstring"], unfollowed := true, recurses := true, named := ["io.EOF", "internal/bytealg.MaxLen", "unicode/utf8.first", "unicode/utf8.acceptRanges"], apart := false, laid := [("unicode/utf8.acceptRanges", laid_unicode_utf8_acceptRanges), ("io.EOF", laid_io_EOF), ("unicode/utf8.first", laid_unicode_utf8_first)], narrowed := true }
def FnExactChangeGetUptoSaid : Prop := fnExactChangeGetUptoRow.holds Tryd.pinned (OpenSpec.upto fnExactChangeGetSpec)

end Rows
end Go.Proofs.YtahkkelahocplaaDoor
