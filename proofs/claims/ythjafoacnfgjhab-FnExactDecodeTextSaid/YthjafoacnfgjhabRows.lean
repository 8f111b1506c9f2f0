/-
  No cell of these rows narrows 'for every input' (looked for: loops, veiled, ifaces, maps, wideKeys, modest, calm, conditions, laid).
  DERIVED. THE GIVEN ROWS OF THIS SEAT. 6 by the template 'for every input the law returns true; each argument reads behind the call as it read before'; 0 by the template 'total and deterministic' (their statements: YthjafoacnfgjhabTotals.lean).
  GIVEN WITH THE SEED: the statements are not yours to turn. If you find one false, say at which input.
  Laid BY PROGRAM, IN A SANDBOX (cutbox-rows.mjs): the forced cells as the released guide's own fill.sh prints them over the translation add9dffe0af5b77e… (all of the seat's roots in one cut). By AI agents, Wed Nov 11 2026. No macro, syntax, notation, axiom, sorry.
-/
import Derived.Test.YthjafoacnfgjhabChecked
import GoSem.Claim
import GoSem.ClaimJoined
import GoSem.ClaimMapViews
import Derived.JoinedTies
import Derived.KernelRfl
namespace Go.Proofs.Ythjafoacnfgjhab
/- THE CELL 'sum', in the pinned program and in every row, IS THE sha256 OF THE DUMP (.gsa) THAT YthjafoacnfgjhabProg.lean LOADS. Nothing in Lean hashes anything: it is a label: what it is worth is what the hold of that sum in a sandbox is worth. -/
noncomputable def Try.pinned : Pinned := { name := "ythjafoacnfgjhab", sum := "add9dffe0af5b77e16d98c4274707f4d79f941cb4e90f77c72c6b0f42cb0059a", checked := Try.checked }
namespace Rows
def none {H : Type} : Left H := { results := [], args := [] }

/-- 'laws.FnExactBranchesOf': WHATEVER THE INPUT: true; the input reads as it did. -/
def fnExactBranchesOfSpec : ChangeSpec := { name := "fnExactBranchesOf", fn := fun _ => fun
  | [d] => { results := [.lit (.bool true)], args := [d] }
  | _ => none }
def fnExactBranchesOfRow : OpenClaim := { program := "ythjafoacnfgjhab", sum := "add9dffe0af5b77e16d98c4274707f4d79f941cb4e90f77c72c6b0f42cb0059a", func := "loop.example/g01243/laws.FnExactBranchesOf", spec := "fnExactBranchesOf", apart := false }
def FnExactBranchesOfSaid : Prop := fnExactBranchesOfRow.holds Try.pinned (OpenSpec.ofChange fnExactBranchesOfSpec)

/-- ITS FALSE NEIGHBOUR: 'it returns false'. Refute it at one input. -/
def fnExactBranchesOfWrong : ChangeSpec := { name := "fnExactBranchesOf", fn := fun _ => fun
  | [d] => { results := [.lit (.bool false)], args := [d] }
  | _ => none }
def FnExactBranchesOfWrongFalsely : Prop := fnExactBranchesOfRow.holds Try.pinned (OpenSpec.ofChange fnExactBranchesOfWrong)

/-- 'laws.FnExactPlainCode': WHATEVER THE INPUT: true; the input reads as it did. -/
def fnExactPlainCodeSpec : ChangeSpec := { name := "fnExactPlainCode", fn := fun _ => fun
  | [d] => { results := [.lit (.bool true)], args := [d] }
  | _ => none }
def fnExactPlainCodeRow : OpenClaim := { program := "ythjafoacnfgjhab", sum := "add9dffe0af5b77e16d98c4274707f4d79f941cb4e90f77c72c6b0f42cb0059a", func := "loop.example/g01243/laws.FnExactPlainCode", spec := "fnExactPlainCode", apart := false }
def FnExactPlainCodeSaid : Prop := fnExactPlainCodeRow.holds Try.pinned (OpenSpec.ofChange fnExactPlainCodeSpec)

/-- ITS FALSE NEIGHBOUR: 'it returns false'. Refute it at one input. -/
def fnExactPlainCodeWrong : ChangeSpec := { name := "fnExactPlainCode", fn := fun _ => fun
  | [d] => { results := [.lit (.bool false)], args := [d] }
  | _ => none }
def FnExactPlainCodeWrongFalsely : Prop := fnExactPlainCodeRow.holds Try.pinned (OpenSpec.ofChange fnExactPlainCodeWrong)

/-- 'laws.FnExactEncodeMessage': WHATEVER THE INPUT: true; the input reads as it did. -/
def fnExactEncodeMessageSpec : ChangeSpec := { name := "fnExactEncodeMessage", fn := fun _ => fun
  | [d1, d2] => { results := [.lit (.bool true)], args := [d1, d2] }
  | _ => none }
def fnExactEncodeMessageRow : OpenClaim := { program := "ythjafoacnfgjhab", sum := "add9dffe0af5b77e16d98c4274707f4d79f941cb4e90f77c72c6b0f42cb0059a", func := "loop.example/g01243/laws.FnExactEncodeMessage", spec := "fnExactEncodeMessage", inPlace := ["internal/abi.NoEscape", "internal/bytealg.MakeNoZero"], unfollowed := true, recurses := true, apart := false }
def FnExactEncodeMessageSaid : Prop := fnExactEncodeMessageRow.holds Try.pinned (OpenSpec.ofChange fnExactEncodeMessageSpec)

/-- ITS FALSE NEIGHBOUR: 'it returns false'. Refute it at one input. -/
def fnExactEncodeMessageWrong : ChangeSpec := { name := "fnExactEncodeMessage", fn := fun _ => fun
  | [d1, d2] => { results := [.lit (.bool false)], args := [d1, d2] }
  | _ => none }
def FnExactEncodeMessageWrongFalsely : Prop := fnExactEncodeMessageRow.holds Try.pinned (OpenSpec.ofChange fnExactEncodeMessageWrong)

/-- 'laws.FnExactDecodeText': WHATEVER THE INPUT: true; the input reads as it did. -/
def fnExactDecodeTextSpec : ChangeSpec := { name := "fnExactDecodeText", fn := fun _ => fun
  | [d1, d2] => { results := [.lit (.bool true)], args := [d1, d2] }
  | _ => none }
def fnExactDecodeTextRow : OpenClaim := { program := "ythjafoacnfgjhab", sum := "add9dffe0af5b77e16d98c4274707f4d79f941cb4e90f77c72c6b0f42cb0059a", func := "loop.example/g01243/laws.FnExactDecodeText", spec := "fnExactDecodeText", inPlace := ["internal/abi.NoEscape", "internal/bytealg.MakeNoZero"], unfollowed := true, recurses := true, apart := false }
def FnExactDecodeTextSaid : Prop := fnExactDecodeTextRow.holds Try.pinned (OpenSpec.ofChange fnExactDecodeTextSpec)

/-- ITS FALSE NEIGHBOUR: 'it returns false'. Refute it at one input. -/
def fnExactDecodeTextWrong : ChangeSpec := { name := "fnExactDecodeText", fn := fun _ => fun
  | [d1, d2] => { results := [.lit (.bool false)], args := [d1, d2] }
  | _ => none }
def FnExactDecodeTextWrongFalsely : Prop := fnExactDecodeTextRow.holds Try.pinned (OpenSpec.ofChange fnExactDecodeTextWrong)

/-- 'laws.FnExactBestLengths': WHATEVER THE INPUT: true; the input reads as it did. -/
def fnExactBestLengthsSpec : ChangeSpec := { name := "fnExactBestLengths", fn := fun _ => fun
  | [d] => { results := [.lit (.bool true)], args := [d] }
  | _ => none }
def fnExactBestLengthsRow : OpenClaim := { program := "ythjafoacnfgjhab", sum := "add9dffe0af5b77e16d98c4274707f4d79f941cb4e90f77c72c6b0f42cb0059a", func := "loop.example/g01243/laws.FnExactBestLengths", spec := "fnExactBestLengths", unfollowed := true, recurses := true, apart := false }
def FnExactBestLengthsSaid : Prop := fnExactBestLengthsRow.holds Try.pinned (OpenSpec.ofChange fnExactBestLengthsSpec)

/-- ITS FALSE NEIGHBOUR: 'it returns false'. Refute it at one input. -/
def fnExactBestLengthsWrong : ChangeSpec := { name := "fnExactBestLengths", fn := fun _ => fun
  | [d] => { results := [.lit (.bool false)], args := [d] }
  | _ => none }
def FnExactBestLengthsWrongFalsely : Prop := fnExactBestLengthsRow.holds Try.pinned (OpenSpec.ofChange fnExactBestLengthsWrong)

/-- 'laws.FnExactBestCost': WHATEVER THE INPUT: true; the input reads as it did. -/
def fnExactBestCostSpec : ChangeSpec := { name := "fnExactBestCost", fn := fun _ => fun
  | [d] => { results := [.lit (.bool true)], args := [d] }
  | _ => none }
def fnExactBestCostRow : OpenClaim := { program := "ythjafoacnfgjhab", sum := "add9dffe0af5b77e16d98c4274707f4d79f941cb4e90f77c72c6b0f42cb0059a", func := "loop.example/g01243/laws.FnExactBestCost", spec := "fnExactBestCost", unfollowed := true, recurses := true, apart := false }
def FnExactBestCostSaid : Prop := fnExactBestCostRow.holds Try.pinned (OpenSpec.ofChange fnExactBestCostSpec)

/-- ITS FALSE NEIGHBOUR: 'it returns false'. Refute it at one input. -/
def fnExactBestCostWrong : ChangeSpec := { name := "fnExactBestCost", fn := fun _ => fun
  | [d] => { results := [.lit (.bool false)], args := [d] }
  | _ => none }
def FnExactBestCostWrongFalsely : Prop := fnExactBestCostRow.holds Try.pinned (OpenSpec.ofChange fnExactBestCostWrong)

/- THE SECOND FORM. 'bulk': how many values and letters a reading holds, each counted each time it is reached (what is shared counts as often as it is met; a slice's spare places count too). A statement '..UptoSaid' is the law's where the arguments, and the package variables that the reading takes, are together of bulk at most 1048576: NARROWER than '..Said'. Prove '..Said' where nothing that the law and all that it calls make is longer than what came in: it says more and counts as full. Else prove '..UptoSaid'. A law counts once. -/
mutual
def uptoBulk {H : Type} : DataW H → Nat
  | .lit (.string bytes) => bytes.length + 1
  | .lit _ => 1
  | .nil => 1
  | .ptr d => uptoBulk d + 1
  | .slice elems spare => uptoBulkAll elems + uptoBulkAll spare + 1
  | .agg parts => uptoBulkAll parts + 1
  | .iface _ d => uptoBulk d + 1
  | .map entries => uptoBulkEntries entries + 1
  | .held _ => 1
def uptoBulkAll {H : Type} : List (DataW H) → Nat
  | [] => 0
  | d :: r => uptoBulk d + uptoBulkAll r
def uptoBulkEntries {H : Type} : List (Lit × DataW H) → Nat
  | [] => 0
  | x :: r => uptoBulkEntry x + uptoBulkEntries r
def uptoBulkEntry {H : Type} : Lit × DataW H → Nat
  | (.string bytes, d) => bytes.length + uptoBulk d + 1
  | (_, d) => uptoBulk d + 1
 end
def uptoSmall : (H : Type) → List (DataW H) → Bool := fun _ ds => decide (uptoBulkAll ds ≤ 1048576)
def OpenSpec.upto (s : _root_.Go.ChangeSpec) : _root_.Go.OpenSpec := { _root_.Go.OpenSpec.ofChange s with cond := some uptoSmall }

/-- 'laws.FnExactBranchesOf', WHERE WHAT IT READS IS OF BULK AT MOST 1048576: true; the input reads as it did. -/
def fnExactBranchesOfUptoRow : OpenClaim := { program := "ythjafoacnfgjhab", sum := "add9dffe0af5b77e16d98c4274707f4d79f941cb4e90f77c72c6b0f42cb0059a", func := "loop.example/g01243/laws.FnExactBranchesOf", spec := "fnExactBranchesOf", apart := false, narrowed := true }
def FnExactBranchesOfUptoSaid : Prop := fnExactBranchesOfUptoRow.holds Try.pinned (OpenSpec.upto fnExactBranchesOfSpec)

/-- 'laws.FnExactPlainCode', WHERE WHAT IT READS IS OF BULK AT MOST 1048576: true; the input reads as it did. -/
def fnExactPlainCodeUptoRow : OpenClaim := { program := "ythjafoacnfgjhab", sum := "add9dffe0af5b77e16d98c4274707f4d79f941cb4e90f77c72c6b0f42cb0059a", func := "loop.example/g01243/laws.FnExactPlainCode", spec := "fnExactPlainCode", apart := false, narrowed := true }
def FnExactPlainCodeUptoSaid : Prop := fnExactPlainCodeUptoRow.holds Try.pinned (OpenSpec.upto fnExactPlainCodeSpec)

/-- 'laws.FnExactEncodeMessage', WHERE WHAT IT READS IS OF BULK AT MOST 1048576: true; the input reads as it did. -/
def fnExactEncodeMessageUptoRow : OpenClaim := { program := "ythjafoacnfgjhab", sum := "add9dffe0af5b77e16d98c4274707f4d79f941cb4e90f77c72c6b0f42cb0059a", func := "loop.example/g01243/laws.FnExactEncodeMessage", spec := "fnExactEncodeMessage", inPlace := ["internal/abi.NoEscape", "internal/bytealg.MakeNoZero"], unfollowed := true, recurses := true, apart := false, narrowed := true }
def FnExactEncodeMessageUptoSaid : Prop := fnExactEncodeMessageUptoRow.holds Try.pinned (OpenSpec.upto fnExactEncodeMessageSpec)

/-- 'laws.FnExactDecodeText', WHERE WHAT IT READS IS OF BULK AT MOST 1048576: true; the input reads as it did. -/
def fnExactDecodeTextUptoRow : OpenClaim := { program := "ythjafoacnfgjhab", sum := "add9dffe0af5b77e16d98c4274707f4d79f941cb4e90f77c72c6b0f42cb0059a", func := "loop.example/g01243/laws.FnExactDecodeText", spec := "fnExactDecodeText", inPlace := ["internal/abi.NoEscape", "internal/bytealg.MakeNoZero"], unfollowed := true, recurses := true, apart := false, narrowed := true }
def FnExactDecodeTextUptoSaid : Prop := fnExactDecodeTextUptoRow.holds Try.pinned (OpenSpec.upto fnExactDecodeTextSpec)

/-- 'laws.FnExactBestLengths', WHERE WHAT IT READS IS OF BULK AT MOST 1048576: true; the input reads as it did. -/
def fnExactBestLengthsUptoRow : OpenClaim := { program := "ythjafoacnfgjhab", sum := "add9dffe0af5b77e16d98c4274707f4d79f941cb4e90f77c72c6b0f42cb0059a", func := "loop.example/g01243/laws.FnExactBestLengths", spec := "fnExactBestLengths", unfollowed := true, recurses := true, apart := false, narrowed := true }
def FnExactBestLengthsUptoSaid : Prop := fnExactBestLengthsUptoRow.holds Try.pinned (OpenSpec.upto fnExactBestLengthsSpec)

/-- 'laws.FnExactBestCost', WHERE WHAT IT READS IS OF BULK AT MOST 1048576: true; the input reads as it did. -/
def fnExactBestCostUptoRow : OpenClaim := { program := "ythjafoacnfgjhab", sum := "add9dffe0af5b77e16d98c4274707f4d79f941cb4e90f77c72c6b0f42cb0059a", func := "loop.example/g01243/laws.FnExactBestCost", spec := "fnExactBestCost", unfollowed := true, recurses := true, apart := false, narrowed := true }
def FnExactBestCostUptoSaid : Prop := fnExactBestCostUptoRow.holds Try.pinned (OpenSpec.upto fnExactBestCostSpec)

end Rows
end Go.Proofs.Ythjafoacnfgjhab
