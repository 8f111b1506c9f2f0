/-
  No cell of these rows narrows 'for every input' (looked for: loops, veiled, ifaces, maps, wideKeys, modest, calm, conditions, laid).
  DERIVED. THE GIVEN ROWS OF THIS SEAT. 6 by the template 'for every input the law returns true; each argument reads behind the call as it read before'; 0 by the template 'total and deterministic' (their statements: YtoofpgehkihbcaaTotals.lean).
  GIVEN WITH THE SEED: the statements are not yours to turn. If you find one false, say at which input.
  Laid BY PROGRAM, IN A SANDBOX (cutbox-rows.mjs): the forced cells as the released guide's own fill.sh prints them over the translation 4e936208f1a7112a… (all of the seat's roots in one cut). By AI agents, Wed Nov 11 2026. No macro, syntax, notation, axiom, sorry.
-/
import Derived.Test.YtoofpgehkihbcaaChecked
import GoSem.Claim
import GoSem.ClaimJoined
import GoSem.ClaimMapViews
import Derived.JoinedTies
import Derived.KernelRfl
namespace Go.Proofs.Ytoofpgehkihbcaa
/- THE CELL 'sum', in the pinned program and in every row, IS THE sha256 OF THE DUMP (.gsa) THAT YtoofpgehkihbcaaProg.lean LOADS. Nothing in Lean hashes anything: it is a label: what it is worth is what the hold of that sum in a sandbox is worth. -/
noncomputable def Try.pinned : Pinned := { name := "ytoofpgehkihbcaa", sum := "4e936208f1a7112a613338a50ca7e111d27e0d21c731d27cf2ebb7e6dfcee32f", checked := Try.checked }
namespace Rows
def none {H : Type} : Left H := { results := [], args := [] }

/-- 'laws.FnExactBranchOf': WHATEVER THE INPUT: true; the input reads as it did. -/
def fnExactBranchOfSpec : ChangeSpec := { name := "fnExactBranchOf", fn := fun _ => fun
  | [d1, d2] => { results := [.lit (.bool true)], args := [d1, d2] }
  | _ => none }
def fnExactBranchOfRow : OpenClaim := { program := "ytoofpgehkihbcaa", sum := "4e936208f1a7112a613338a50ca7e111d27e0d21c731d27cf2ebb7e6dfcee32f", func := "loop.example/g01243/laws.FnExactBranchOf", spec := "fnExactBranchOf", inPlace := ["slices.overlaps[*loop.example/g01243/impl.limb]"], unfollowed := true, recurses := true, apart := false }
def FnExactBranchOfSaid : Prop := fnExactBranchOfRow.holds Try.pinned (OpenSpec.ofChange fnExactBranchOfSpec)

/-- ITS FALSE NEIGHBOUR: 'it returns false'. Refute it at one input. -/
def fnExactBranchOfWrong : ChangeSpec := { name := "fnExactBranchOf", fn := fun _ => fun
  | [d1, d2] => { results := [.lit (.bool false)], args := [d1, d2] }
  | _ => none }
def FnExactBranchOfWrongFalsely : Prop := fnExactBranchOfRow.holds Try.pinned (OpenSpec.ofChange fnExactBranchOfWrong)

/-- 'laws.FnExactAddPressed': WHATEVER THE INPUT: true; the input reads as it did. -/
def fnExactAddPressedSpec : ChangeSpec := { name := "fnExactAddPressed", fn := fun _ => fun
  | [d1, d2] => { results := [.lit (.bool true)], args := [d1, d2] }
  | _ => none }
def fnExactAddPressedRow : OpenClaim := { program := "ytoofpgehkihbcaa", sum := "4e936208f1a7112a613338a50ca7e111d27e0d21c731d27cf2ebb7e6dfcee32f", func := "loop.example/g01243/laws.FnExactAddPressed", spec := "fnExactAddPressed", inPlace := ["slices.overlaps[*loop.example/g01243/impl.limb]"], unfollowed := true, recurses := true, apart := false }
def FnExactAddPressedSaid : Prop := fnExactAddPressedRow.holds Try.pinned (OpenSpec.ofChange fnExactAddPressedSpec)

/-- ITS FALSE NEIGHBOUR: 'it returns false'. Refute it at one input. -/
def fnExactAddPressedWrong : ChangeSpec := { name := "fnExactAddPressed", fn := fun _ => fun
  | [d1, d2] => { results := [.lit (.bool false)], args := [d1, d2] }
  | _ => none }
def FnExactAddPressedWrongFalsely : Prop := fnExactAddPressedRow.holds Try.pinned (OpenSpec.ofChange fnExactAddPressedWrong)

/-- 'laws.FnExactDropPressed': WHATEVER THE INPUT: true; the input reads as it did. -/
def fnExactDropPressedSpec : ChangeSpec := { name := "fnExactDropPressed", fn := fun _ => fun
  | [d1, d2] => { results := [.lit (.bool true)], args := [d1, d2] }
  | _ => none }
def fnExactDropPressedRow : OpenClaim := { program := "ytoofpgehkihbcaa", sum := "4e936208f1a7112a613338a50ca7e111d27e0d21c731d27cf2ebb7e6dfcee32f", func := "loop.example/g01243/laws.FnExactDropPressed", spec := "fnExactDropPressed", inPlace := ["slices.overlaps[*loop.example/g01243/impl.limb]"], unfollowed := true, recurses := true, apart := false }
def FnExactDropPressedSaid : Prop := fnExactDropPressedRow.holds Try.pinned (OpenSpec.ofChange fnExactDropPressedSpec)

/-- ITS FALSE NEIGHBOUR: 'it returns false'. Refute it at one input. -/
def fnExactDropPressedWrong : ChangeSpec := { name := "fnExactDropPressed", fn := fun _ => fun
  | [d1, d2] => { results := [.lit (.bool false)], args := [d1, d2] }
  | _ => none }
def FnExactDropPressedWrongFalsely : Prop := fnExactDropPressedRow.holds Try.pinned (OpenSpec.ofChange fnExactDropPressedWrong)

/-- 'laws.FnExactLongestBranch': WHATEVER THE INPUT: true; the input reads as it did. -/
def fnExactLongestBranchSpec : ChangeSpec := { name := "fnExactLongestBranch", fn := fun _ => fun
  | [d] => { results := [.lit (.bool true)], args := [d] }
  | _ => none }
def fnExactLongestBranchRow : OpenClaim := { program := "ytoofpgehkihbcaa", sum := "4e936208f1a7112a613338a50ca7e111d27e0d21c731d27cf2ebb7e6dfcee32f", func := "loop.example/g01243/laws.FnExactLongestBranch", spec := "fnExactLongestBranch", inPlace := ["slices.overlaps[*loop.example/g01243/impl.limb]"], unfollowed := true, recurses := true, apart := false }
def FnExactLongestBranchSaid : Prop := fnExactLongestBranchRow.holds Try.pinned (OpenSpec.ofChange fnExactLongestBranchSpec)

/-- ITS FALSE NEIGHBOUR: 'it returns false'. Refute it at one input. -/
def fnExactLongestBranchWrong : ChangeSpec := { name := "fnExactLongestBranch", fn := fun _ => fun
  | [d] => { results := [.lit (.bool false)], args := [d] }
  | _ => none }
def FnExactLongestBranchWrongFalsely : Prop := fnExactLongestBranchRow.holds Try.pinned (OpenSpec.ofChange fnExactLongestBranchWrong)

/-- 'laws.FnExactCountLetters': WHATEVER THE INPUT: true; the input reads as it did. -/
def fnExactCountLettersSpec : ChangeSpec := { name := "fnExactCountLetters", fn := fun _ => fun
  | [d] => { results := [.lit (.bool true)], args := [d] }
  | _ => none }
def fnExactCountLettersRow : OpenClaim := { program := "ytoofpgehkihbcaa", sum := "4e936208f1a7112a613338a50ca7e111d27e0d21c731d27cf2ebb7e6dfcee32f", func := "loop.example/g01243/laws.FnExactCountLetters", spec := "fnExactCountLetters", inPlace := ["slices.overlaps[*loop.example/g01243/impl.limb]"], unfollowed := true, recurses := true, apart := false }
def FnExactCountLettersSaid : Prop := fnExactCountLettersRow.holds Try.pinned (OpenSpec.ofChange fnExactCountLettersSpec)

/-- ITS FALSE NEIGHBOUR: 'it returns false'. Refute it at one input. -/
def fnExactCountLettersWrong : ChangeSpec := { name := "fnExactCountLetters", fn := fun _ => fun
  | [d] => { results := [.lit (.bool false)], args := [d] }
  | _ => none }
def FnExactCountLettersWrongFalsely : Prop := fnExactCountLettersRow.holds Try.pinned (OpenSpec.ofChange fnExactCountLettersWrong)

/-- 'laws.FnExactStepsTo': WHATEVER THE INPUT: true; the input reads as it did. -/
def fnExactStepsToSpec : ChangeSpec := { name := "fnExactStepsTo", fn := fun _ => fun
  | [d1, d2] => { results := [.lit (.bool true)], args := [d1, d2] }
  | _ => none }
def fnExactStepsToRow : OpenClaim := { program := "ytoofpgehkihbcaa", sum := "4e936208f1a7112a613338a50ca7e111d27e0d21c731d27cf2ebb7e6dfcee32f", func := "loop.example/g01243/laws.FnExactStepsTo", spec := "fnExactStepsTo", inPlace := ["slices.overlaps[*loop.example/g01243/impl.limb]"], unfollowed := true, recurses := true, apart := false }
def FnExactStepsToSaid : Prop := fnExactStepsToRow.holds Try.pinned (OpenSpec.ofChange fnExactStepsToSpec)

/-- ITS FALSE NEIGHBOUR: 'it returns false'. Refute it at one input. -/
def fnExactStepsToWrong : ChangeSpec := { name := "fnExactStepsTo", fn := fun _ => fun
  | [d1, d2] => { results := [.lit (.bool false)], args := [d1, d2] }
  | _ => none }
def FnExactStepsToWrongFalsely : Prop := fnExactStepsToRow.holds Try.pinned (OpenSpec.ofChange fnExactStepsToWrong)

/- THE SECOND FORM. 'bulk': how many values and letters a reading holds, each counted each time it is reached (what is shared counts as often as it is met; a slice's spare places count too). A statement '..UptoSaid' is the law's where the arguments, and the package variables that the reading takes, are together of bulk at most 1048576: NARROWER than '..Said'. Prove '..Said' where nothing that the law and all that it calls make is longer than what came in: it says more and counts as full. Else prove '..UptoSaid'. A law counts once. -/
mutual
def uptoBulk {H : Type} : DataW H → Nat
  | .lit (.string bytes) => bytes.length + 1
  | .lit _ => 1
  | .nil => 1
  | .ptr d => uptoBulk d + 1
  | .slice elems spare => uptoBulkAll elems + uptoBulkAll spare + 1
  | .agg parts => uptoBulkAll parts + 1
  | .iface _ d => uptoBulk d + 1
  | .map entries => uptoBulkEntries entries + 1
  | .held _ => 1
def uptoBulkAll {H : Type} : List (DataW H) → Nat
  | [] => 0
  | d :: r => uptoBulk d + uptoBulkAll r
def uptoBulkEntries {H : Type} : List (Lit × DataW H) → Nat
  | [] => 0
  | x :: r => uptoBulkEntry x + uptoBulkEntries r
def uptoBulkEntry {H : Type} : Lit × DataW H → Nat
  | (.string bytes, d) => bytes.length + uptoBulk d + 1
  | (_, d) => uptoBulk d + 1
 end
def uptoSmall : (H : Type) → List (DataW H) → Bool := fun _ ds => decide (uptoBulkAll ds ≤ 1048576)
def OpenSpec.upto (s : _root_.Go.ChangeSpec) : _root_.Go.OpenSpec := { _root_.Go.OpenSpec.ofChange s with cond := some uptoSmall }

/-- 'laws.FnExactBranchOf', WHERE WHAT IT READS IS OF BULK AT MOST 1048576: true; the input reads as it did. -/
def fnExactBranchOfUptoRow : OpenClaim := { program := "ytoofpgehkihbcaa", sum := "4e936208f1a7112a613338a50ca7e111d27e0d21c731d27cf2ebb7e6dfcee32f", func := "loop.example/g01243/laws.FnExactBranchOf", spec := "fnExactBranchOf", inPlace := ["slices.overlaps[*loop.example/g01243/impl.limb]"], unfollowed := true, recurses := true, apart := false, narrowed := true }
def FnExactBranchOfUptoSaid : Prop := fnExactBranchOfUptoRow.holds Try.pinned (OpenSpec.upto fnExactBranchOfSpec)

/-- 'laws.FnExactAddPressed', WHERE WHAT IT READS IS OF BULK AT MOST 1048576: true; the input reads as it did. -/
def fnExactAddPressedUptoRow : OpenClaim := { program := "ytoofpgehkihbcaa", sum := "4e936208f1a7112a613338a50ca7e111d27e0d21c731d27cf2ebb7e6dfcee32f", func := "loop.example/g01243/laws.FnExactAddPressed", spec := "fnExactAddPressed", inPlace := ["slices.overlaps[*loop.example/g01243/impl.limb]"], unfollowed := true, recurses := true, apart := false, narrowed := true }
def FnExactAddPressedUptoSaid : Prop := fnExactAddPressedUptoRow.holds Try.pinned (OpenSpec.upto fnExactAddPressedSpec)

/-- 'laws.FnExactDropPressed', WHERE WHAT IT READS IS OF BULK AT MOST 1048576: true; the input reads as it did. -/
def fnExactDropPressedUptoRow : OpenClaim := { program := "ytoofpgehkihbcaa", sum := "4e936208f1a7112a613338a50ca7e111d27e0d21c731d27cf2ebb7e6dfcee32f", func := "loop.example/g01243/laws.FnExactDropPressed", spec := "fnExactDropPressed", inPlace := ["slices.overlaps[*loop.example/g01243/impl.limb]"], unfollowed := true, recurses := true, apart := false, narrowed := true }
def FnExactDropPressedUptoSaid : Prop := fnExactDropPressedUptoRow.holds Try.pinned (OpenSpec.upto fnExactDropPressedSpec)

/-- 'laws.FnExactLongestBranch', WHERE WHAT IT READS IS OF BULK AT MOST 1048576: true; the input reads as it did. -/
def fnExactLongestBranchUptoRow : OpenClaim := { program := "ytoofpgehkihbcaa", sum := "4e936208f1a7112a613338a50ca7e111d27e0d21c731d27cf2ebb7e6dfcee32f", func := "loop.example/g01243/laws.FnExactLongestBranch", spec := "fnExactLongestBranch", inPlace := ["slices.overlaps[*loop.example/g01243/impl.limb]"], unfollowed := true, recurses := true, apart := false, narrowed := true }
def FnExactLongestBranchUptoSaid : Prop := fnExactLongestBranchUptoRow.holds Try.pinned (OpenSpec.upto fnExactLongestBranchSpec)

/-- 'laws.FnExactCountLetters', WHERE WHAT IT READS IS OF BULK AT MOST 1048576: true; the input reads as it did. -/
def fnExactCountLettersUptoRow : OpenClaim := { program := "ytoofpgehkihbcaa", sum := "4e936208f1a7112a613338a50ca7e111d27e0d21c731d27cf2ebb7e6dfcee32f", func := "loop.example/g01243/laws.FnExactCountLetters", spec := "fnExactCountLetters", inPlace := ["slices.overlaps[*loop.example/g01243/impl.limb]"], unfollowed := true, recurses := true, apart := false, narrowed := true }
def FnExactCountLettersUptoSaid : Prop := fnExactCountLettersUptoRow.holds Try.pinned (OpenSpec.upto fnExactCountLettersSpec)

/-- 'laws.FnExactStepsTo', WHERE WHAT IT READS IS OF BULK AT MOST 1048576: true; the input reads as it did. -/
def fnExactStepsToUptoRow : OpenClaim := { program := "ytoofpgehkihbcaa", sum := "4e936208f1a7112a613338a50ca7e111d27e0d21c731d27cf2ebb7e6dfcee32f", func := "loop.example/g01243/laws.FnExactStepsTo", spec := "fnExactStepsTo", inPlace := ["slices.overlaps[*loop.example/g01243/impl.limb]"], unfollowed := true, recurses := true, apart := false, narrowed := true }
def FnExactStepsToUptoSaid : Prop := fnExactStepsToUptoRow.holds Try.pinned (OpenSpec.upto fnExactStepsToSpec)

end Rows
end Go.Proofs.Ytoofpgehkihbcaa
