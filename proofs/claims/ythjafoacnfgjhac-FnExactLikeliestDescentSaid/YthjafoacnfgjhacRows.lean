/-
  No cell of these rows narrows 'for every input' (looked for: loops, veiled, ifaces, maps, wideKeys, modest, calm, conditions, laid).
  DERIVED. THE GIVEN ROWS OF THIS SEAT. 4 by the template 'for every input the law returns true; each argument reads behind the call as it read before'; 0 by the template 'total and deterministic' (their statements: YthjafoacnfgjhacTotals.lean).
  GIVEN WITH THE SEED: the statements are not yours to turn. If you find one false, say at which input.
  Laid BY PROGRAM, IN A SANDBOX (cutbox-rows.mjs): the forced cells as the released guide's own fill.sh prints them over the translation 3cc834f810051443… (all of the seat's roots in one cut). By AI agents, Wed Nov 11 2026. No macro, syntax, notation, axiom, sorry.
-/
import Derived.Test.YthjafoacnfgjhacChecked
import GoSem.Claim
import GoSem.ClaimJoined
import GoSem.ClaimMapViews
import Derived.JoinedTies
import Derived.KernelRfl
namespace Go.Proofs.Ythjafoacnfgjhac
/- THE CELL 'sum', in the pinned program and in every row, IS THE sha256 OF THE DUMP (.gsa) THAT YthjafoacnfgjhacProg.lean LOADS. Nothing in Lean hashes anything: it is a label: what it is worth is what the hold of that sum in a sandbox is worth. -/
noncomputable def Try.pinned : Pinned := { name := "ythjafoacnfgjhac", sum := "3cc834f810051443924bb5190b1b73d594838715978e558668d3ecb89112558f", checked := Try.checked }
namespace Rows
def none {H : Type} : Left H := { results := [], args := [] }

/-- 'laws.FnExactInOrderCode': WHATEVER THE INPUT: true; the input reads as it did. -/
def fnExactInOrderCodeSpec : ChangeSpec := { name := "fnExactInOrderCode", fn := fun _ => fun
  | [d] => { results := [.lit (.bool true)], args := [d] }
  | _ => none }
def fnExactInOrderCodeRow : OpenClaim := { program := "ythjafoacnfgjhac", sum := "3cc834f810051443924bb5190b1b73d594838715978e558668d3ecb89112558f", func := "loop.example/g01243/laws.FnExactInOrderCode", spec := "fnExactInOrderCode", recurses := true, apart := false }
def FnExactInOrderCodeSaid : Prop := fnExactInOrderCodeRow.holds Try.pinned (OpenSpec.ofChange fnExactInOrderCodeSpec)

/-- ITS FALSE NEIGHBOUR: 'it returns false'. Refute it at one input. -/
def fnExactInOrderCodeWrong : ChangeSpec := { name := "fnExactInOrderCode", fn := fun _ => fun
  | [d] => { results := [.lit (.bool false)], args := [d] }
  | _ => none }
def FnExactInOrderCodeWrongFalsely : Prop := fnExactInOrderCodeRow.holds Try.pinned (OpenSpec.ofChange fnExactInOrderCodeWrong)

/-- 'laws.FnExactLikeliestDescent': WHATEVER THE INPUT: true; the input reads as it did. -/
def fnExactLikeliestDescentSpec : ChangeSpec := { name := "fnExactLikeliestDescent", fn := fun _ => fun
  | [d] => { results := [.lit (.bool true)], args := [d] }
  | _ => none }
def fnExactLikeliestDescentRow : OpenClaim := { program := "ythjafoacnfgjhac", sum := "3cc834f810051443924bb5190b1b73d594838715978e558668d3ecb89112558f", func := "loop.example/g01243/laws.FnExactLikeliestDescent", spec := "fnExactLikeliestDescent", unfollowed := true, recurses := true, apart := false }
def FnExactLikeliestDescentSaid : Prop := fnExactLikeliestDescentRow.holds Try.pinned (OpenSpec.ofChange fnExactLikeliestDescentSpec)

/-- ITS FALSE NEIGHBOUR: 'it returns false'. Refute it at one input. -/
def fnExactLikeliestDescentWrong : ChangeSpec := { name := "fnExactLikeliestDescent", fn := fun _ => fun
  | [d] => { results := [.lit (.bool false)], args := [d] }
  | _ => none }
def FnExactLikeliestDescentWrongFalsely : Prop := fnExactLikeliestDescentRow.holds Try.pinned (OpenSpec.ofChange fnExactLikeliestDescentWrong)

/-- 'laws.FnExactBestLetter': WHATEVER THE INPUT: true; the input reads as it did. -/
def fnExactBestLetterSpec : ChangeSpec := { name := "fnExactBestLetter", fn := fun _ => fun
  | [d] => { results := [.lit (.bool true)], args := [d] }
  | _ => none }
def fnExactBestLetterRow : OpenClaim := { program := "ythjafoacnfgjhac", sum := "3cc834f810051443924bb5190b1b73d594838715978e558668d3ecb89112558f", func := "loop.example/g01243/laws.FnExactBestLetter", spec := "fnExactBestLetter", inPlace := ["internal/bytealg.IndexByteString", "internal/bytealg.IndexString"], unfollowed := true, recurses := true, named := ["internal/bytealg.MaxLen"], apart := false }
def FnExactBestLetterSaid : Prop := fnExactBestLetterRow.holds Try.pinned (OpenSpec.ofChange fnExactBestLetterSpec)

/-- ITS FALSE NEIGHBOUR: 'it returns false'. Refute it at one input. -/
def fnExactBestLetterWrong : ChangeSpec := { name := "fnExactBestLetter", fn := fun _ => fun
  | [d] => { results := [.lit (.bool false)], args := [d] }
  | _ => none }
def FnExactBestLetterWrongFalsely : Prop := fnExactBestLetterRow.holds Try.pinned (OpenSpec.ofChange fnExactBestLetterWrong)

/-- 'laws.FnExactMeanDescent': WHATEVER THE INPUT: true; the input reads as it did. -/
def fnExactMeanDescentSpec : ChangeSpec := { name := "fnExactMeanDescent", fn := fun _ => fun
  | [d] => { results := [.lit (.bool true)], args := [d] }
  | _ => none }
def fnExactMeanDescentRow : OpenClaim := { program := "ythjafoacnfgjhac", sum := "3cc834f810051443924bb5190b1b73d594838715978e558668d3ecb89112558f", func := "loop.example/g01243/laws.FnExactMeanDescent", spec := "fnExactMeanDescent", unfollowed := true, recurses := true, apart := false }
def FnExactMeanDescentSaid : Prop := fnExactMeanDescentRow.holds Try.pinned (OpenSpec.ofChange fnExactMeanDescentSpec)

/-- ITS FALSE NEIGHBOUR: 'it returns false'. Refute it at one input. -/
def fnExactMeanDescentWrong : ChangeSpec := { name := "fnExactMeanDescent", fn := fun _ => fun
  | [d] => { results := [.lit (.bool false)], args := [d] }
  | _ => none }
def FnExactMeanDescentWrongFalsely : Prop := fnExactMeanDescentRow.holds Try.pinned (OpenSpec.ofChange fnExactMeanDescentWrong)

/- THE SECOND FORM. 'bulk': how many values and letters a reading holds, each counted each time it is reached (what is shared counts as often as it is met; a slice's spare places count too). A statement '..UptoSaid' is the law's where the arguments, and the package variables that the reading takes, are together of bulk at most 1048576: NARROWER than '..Said'. Prove '..Said' where nothing that the law and all that it calls make is longer than what came in: it says more and counts as full. Else prove '..UptoSaid'. A law counts once. -/
mutual
def uptoBulk {H : Type} : DataW H → Nat
  | .lit (.string bytes) => bytes.length + 1
  | .lit _ => 1
  | .nil => 1
  | .ptr d => uptoBulk d + 1
  | .slice elems spare => uptoBulkAll elems + uptoBulkAll spare + 1
  | .agg parts => uptoBulkAll parts + 1
  | .iface _ d => uptoBulk d + 1
  | .map entries => uptoBulkEntries entries + 1
  | .held _ => 1
def uptoBulkAll {H : Type} : List (DataW H) → Nat
  | [] => 0
  | d :: r => uptoBulk d + uptoBulkAll r
def uptoBulkEntries {H : Type} : List (Lit × DataW H) → Nat
  | [] => 0
  | x :: r => uptoBulkEntry x + uptoBulkEntries r
def uptoBulkEntry {H : Type} : Lit × DataW H → Nat
  | (.string bytes, d) => bytes.length + uptoBulk d + 1
  | (_, d) => uptoBulk d + 1
 end
def uptoSmall : (H : Type) → List (DataW H) → Bool := fun _ ds => decide (uptoBulkAll ds ≤ 1048576)
def OpenSpec.upto (s : _root_.Go.ChangeSpec) : _root_.Go.OpenSpec := { _root_.Go.OpenSpec.ofChange s with cond := some uptoSmall }

/-- 'laws.FnExactInOrderCode', WHERE WHAT IT READS IS OF BULK AT MOST 1048576: true; the input reads as it did. -/
def fnExactInOrderCodeUptoRow : OpenClaim := { program := "ythjafoacnfgjhac", sum := "3cc834f810051443924bb5190b1b73d594838715978e558668d3ecb89112558f", func := "loop.example/g01243/laws.FnExactInOrderCode", spec := "fnExactInOrderCode", recurses := true, apart := false, narrowed := true }
def FnExactInOrderCodeUptoSaid : Prop := fnExactInOrderCodeUptoRow.holds Try.pinned (OpenSpec.upto fnExactInOrderCodeSpec)

/-- 'laws.FnExactLikeliestDescent', WHERE WHAT IT READS IS OF BULK AT MOST 1048576: true; the input reads as it did. -/
def fnExactLikeliestDescentUptoRow : OpenClaim := { program := "ythjafoacnfgjhac", sum := "3cc834f810051443924bb5190b1b73d594838715978e558668d3ecb89112558f", func := "loop.example/g01243/laws.FnExactLikeliestDescent", spec := "fnExactLikeliestDescent", unfollowed := true, recurses := true, apart := false, narrowed := true }
def FnExactLikeliestDescentUptoSaid : Prop := fnExactLikeliestDescentUptoRow.holds Try.pinned (OpenSpec.upto fnExactLikeliestDescentSpec)

/-- 'laws.FnExactBestLetter', WHERE WHAT IT READS IS OF BULK AT MOST 1048576: true; the input reads as it did. -/
def fnExactBestLetterUptoRow : OpenClaim := { program := "ythjafoacnfgjhac", sum := "3cc834f810051443924bb5190b1b73d594838715978e558668d3ecb89112558f", func := "loop.example/g01243/laws.FnExactBestLetter", spec := "fnExactBestLetter", inPlace := ["internal/bytealg.IndexByteString", "internal/bytealg.IndexString"], unfollowed := true, recurses := true, named := ["internal/bytealg.MaxLen"], apart := false, narrowed := true }
def FnExactBestLetterUptoSaid : Prop := fnExactBestLetterUptoRow.holds Try.pinned (OpenSpec.upto fnExactBestLetterSpec)

/-- 'laws.FnExactMeanDescent', WHERE WHAT IT READS IS OF BULK AT MOST 1048576: true; the input reads as it did. -/
def fnExactMeanDescentUptoRow : OpenClaim := { program := "ythjafoacnfgjhac", sum := "3cc834f810051443924bb5190b1b73d594838715978e558668d3ecb89112558f", func := "loop.example/g01243/laws.FnExactMeanDescent", spec := "fnExactMeanDescent", unfollowed := true, recurses := true, apart := false, narrowed := true }
def FnExactMeanDescentUptoSaid : Prop := fnExactMeanDescentUptoRow.holds Try.pinned (OpenSpec.upto fnExactMeanDescentSpec)

end Rows
end Go.Proofs.Ythjafoacnfgjhac
