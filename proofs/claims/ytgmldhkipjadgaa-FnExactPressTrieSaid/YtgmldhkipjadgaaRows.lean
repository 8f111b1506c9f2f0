/-
  No cell of these rows narrows 'for every input' (looked for: loops, veiled, ifaces, maps, wideKeys, modest, calm, conditions, laid).
  DERIVED. THE GIVEN ROWS OF THIS SEAT. 6 by the template 'for every input the law returns true; each argument reads behind the call as it read before'; 0 by the template 'total and deterministic' (their statements: YtgmldhkipjadgaaTotals.lean).
  GIVEN WITH THE SEED: the statements are not yours to turn. If you find one false, say at which input.
  Laid BY PROGRAM, IN A SANDBOX (cutbox-rows.mjs): the forced cells as the released guide's own fill.sh prints them over the translation 10c9ca8a22b69a48… (all of the seat's roots in one cut). By AI agents, Wed Nov 11 2026. No macro, syntax, notation, axiom, sorry.
-/
import Derived.Test.YtgmldhkipjadgaaChecked
import GoSem.Claim
import GoSem.ClaimJoined
import GoSem.ClaimMapViews
import Derived.JoinedTies
import Derived.KernelRfl
namespace Go.Proofs.Ytgmldhkipjadgaa
/- THE CELL 'sum', in the pinned program and in every row, IS THE sha256 OF THE DUMP (.gsa) THAT YtgmldhkipjadgaaProg.lean LOADS. Nothing in Lean hashes anything: it is a label: what it is worth is what the hold of that sum in a sandbox is worth. -/
noncomputable def Try.pinned : Pinned := { name := "ytgmldhkipjadgaa", sum := "10c9ca8a22b69a48e313e7c1f96b82973f60f9164fac865afbe7a0aa449e0cdc", checked := Try.checked }
namespace Rows
def none {H : Type} : Left H := { results := [], args := [] }

/-- 'laws.FnExactIsPressed': WHATEVER THE INPUT: true; the input reads as it did. -/
def fnExactIsPressedSpec : ChangeSpec := { name := "fnExactIsPressed", fn := fun _ => fun
  | [d] => { results := [.lit (.bool true)], args := [d] }
  | _ => none }
def fnExactIsPressedRow : OpenClaim := { program := "ytgmldhkipjadgaa", sum := "10c9ca8a22b69a48e313e7c1f96b82973f60f9164fac865afbe7a0aa449e0cdc", func := "loop.example/g01243/laws.FnExactIsPressed", spec := "fnExactIsPressed", inPlace := ["slices.overlaps[*loop.example/g01243/impl.limb]"], unfollowed := true, recurses := true, apart := false }
def FnExactIsPressedSaid : Prop := fnExactIsPressedRow.holds Try.pinned (OpenSpec.ofChange fnExactIsPressedSpec)

/-- ITS FALSE NEIGHBOUR: 'it returns false'. Refute it at one input. -/
def fnExactIsPressedWrong : ChangeSpec := { name := "fnExactIsPressed", fn := fun _ => fun
  | [d] => { results := [.lit (.bool false)], args := [d] }
  | _ => none }
def FnExactIsPressedWrongFalsely : Prop := fnExactIsPressedRow.holds Try.pinned (OpenSpec.ofChange fnExactIsPressedWrong)

/-- 'laws.FnExactPressTrie': WHATEVER THE INPUT: true; the input reads as it did. -/
def fnExactPressTrieSpec : ChangeSpec := { name := "fnExactPressTrie", fn := fun _ => fun
  | [d] => { results := [.lit (.bool true)], args := [d] }
  | _ => none }
def fnExactPressTrieRow : OpenClaim := { program := "ytgmldhkipjadgaa", sum := "10c9ca8a22b69a48e313e7c1f96b82973f60f9164fac865afbe7a0aa449e0cdc", func := "loop.example/g01243/laws.FnExactPressTrie", spec := "fnExactPressTrie", inPlace := ["slices.overlaps[*loop.example/g01243/impl.limb]"], unfollowed := true, recurses := true, apart := false }
def FnExactPressTrieSaid : Prop := fnExactPressTrieRow.holds Try.pinned (OpenSpec.ofChange fnExactPressTrieSpec)

/-- ITS FALSE NEIGHBOUR: 'it returns false'. Refute it at one input. -/
def fnExactPressTrieWrong : ChangeSpec := { name := "fnExactPressTrie", fn := fun _ => fun
  | [d] => { results := [.lit (.bool false)], args := [d] }
  | _ => none }
def FnExactPressTrieWrongFalsely : Prop := fnExactPressTrieRow.holds Try.pinned (OpenSpec.ofChange fnExactPressTrieWrong)

/-- 'laws.FnExactOpenPressed': WHATEVER THE INPUT: true; the input reads as it did. -/
def fnExactOpenPressedSpec : ChangeSpec := { name := "fnExactOpenPressed", fn := fun _ => fun
  | [d] => { results := [.lit (.bool true)], args := [d] }
  | _ => none }
def fnExactOpenPressedRow : OpenClaim := { program := "ytgmldhkipjadgaa", sum := "10c9ca8a22b69a48e313e7c1f96b82973f60f9164fac865afbe7a0aa449e0cdc", func := "loop.example/g01243/laws.FnExactOpenPressed", spec := "fnExactOpenPressed", inPlace := ["slices.overlaps[*loop.example/g01243/impl.limb]"], unfollowed := true, recurses := true, apart := false }
def FnExactOpenPressedSaid : Prop := fnExactOpenPressedRow.holds Try.pinned (OpenSpec.ofChange fnExactOpenPressedSpec)

/-- ITS FALSE NEIGHBOUR: 'it returns false'. Refute it at one input. -/
def fnExactOpenPressedWrong : ChangeSpec := { name := "fnExactOpenPressed", fn := fun _ => fun
  | [d] => { results := [.lit (.bool false)], args := [d] }
  | _ => none }
def FnExactOpenPressedWrongFalsely : Prop := fnExactOpenPressedRow.holds Try.pinned (OpenSpec.ofChange fnExactOpenPressedWrong)

/-- 'laws.FnExactStayingNodes': WHATEVER THE INPUT: true; the input reads as it did. -/
def fnExactStayingNodesSpec : ChangeSpec := { name := "fnExactStayingNodes", fn := fun _ => fun
  | [d] => { results := [.lit (.bool true)], args := [d] }
  | _ => none }
def fnExactStayingNodesRow : OpenClaim := { program := "ytgmldhkipjadgaa", sum := "10c9ca8a22b69a48e313e7c1f96b82973f60f9164fac865afbe7a0aa449e0cdc", func := "loop.example/g01243/laws.FnExactStayingNodes", spec := "fnExactStayingNodes", apart := false }
def FnExactStayingNodesSaid : Prop := fnExactStayingNodesRow.holds Try.pinned (OpenSpec.ofChange fnExactStayingNodesSpec)

/-- ITS FALSE NEIGHBOUR: 'it returns false'. Refute it at one input. -/
def fnExactStayingNodesWrong : ChangeSpec := { name := "fnExactStayingNodes", fn := fun _ => fun
  | [d] => { results := [.lit (.bool false)], args := [d] }
  | _ => none }
def FnExactStayingNodesWrongFalsely : Prop := fnExactStayingNodesRow.holds Try.pinned (OpenSpec.ofChange fnExactStayingNodesWrong)

/-- 'laws.FnExactCountBranches': WHATEVER THE INPUT: true; the input reads as it did. -/
def fnExactCountBranchesSpec : ChangeSpec := { name := "fnExactCountBranches", fn := fun _ => fun
  | [d] => { results := [.lit (.bool true)], args := [d] }
  | _ => none }
def fnExactCountBranchesRow : OpenClaim := { program := "ytgmldhkipjadgaa", sum := "10c9ca8a22b69a48e313e7c1f96b82973f60f9164fac865afbe7a0aa449e0cdc", func := "loop.example/g01243/laws.FnExactCountBranches", spec := "fnExactCountBranches", apart := false }
def FnExactCountBranchesSaid : Prop := fnExactCountBranchesRow.holds Try.pinned (OpenSpec.ofChange fnExactCountBranchesSpec)

/-- ITS FALSE NEIGHBOUR: 'it returns false'. Refute it at one input. -/
def fnExactCountBranchesWrong : ChangeSpec := { name := "fnExactCountBranches", fn := fun _ => fun
  | [d] => { results := [.lit (.bool false)], args := [d] }
  | _ => none }
def FnExactCountBranchesWrongFalsely : Prop := fnExactCountBranchesRow.holds Try.pinned (OpenSpec.ofChange fnExactCountBranchesWrong)

/-- 'laws.FnExactBranchPrefix': WHATEVER THE INPUT: true; the input reads as it did. -/
def fnExactBranchPrefixSpec : ChangeSpec := { name := "fnExactBranchPrefix", fn := fun _ => fun
  | [d1, d2] => { results := [.lit (.bool true)], args := [d1, d2] }
  | _ => none }
def fnExactBranchPrefixRow : OpenClaim := { program := "ytgmldhkipjadgaa", sum := "10c9ca8a22b69a48e313e7c1f96b82973f60f9164fac865afbe7a0aa449e0cdc", func := "loop.example/g01243/laws.FnExactBranchPrefix", spec := "fnExactBranchPrefix", inPlace := ["slices.overlaps[*loop.example/g01243/impl.limb]"], unfollowed := true, recurses := true, apart := false }
def FnExactBranchPrefixSaid : Prop := fnExactBranchPrefixRow.holds Try.pinned (OpenSpec.ofChange fnExactBranchPrefixSpec)

/-- ITS FALSE NEIGHBOUR: 'it returns false'. Refute it at one input. -/
def fnExactBranchPrefixWrong : ChangeSpec := { name := "fnExactBranchPrefix", fn := fun _ => fun
  | [d1, d2] => { results := [.lit (.bool false)], args := [d1, d2] }
  | _ => none }
def FnExactBranchPrefixWrongFalsely : Prop := fnExactBranchPrefixRow.holds Try.pinned (OpenSpec.ofChange fnExactBranchPrefixWrong)

/- THE SECOND FORM. 'bulk': how many values and letters a reading holds, each counted each time it is reached (what is shared counts as often as it is met; a slice's spare places count too). A statement '..UptoSaid' is the law's where the arguments, and the package variables that the reading takes, are together of bulk at most 1048576: NARROWER than '..Said'. Prove '..Said' where nothing that the law and all that it calls make is longer than what came in: it says more and counts as full. Else prove '..UptoSaid'. A law counts once. -/
mutual
def uptoBulk {H : Type} : DataW H → Nat
  | .lit (.string bytes) => bytes.length + 1
  | .lit _ => 1
  | .nil => 1
  | .ptr d => uptoBulk d + 1
  | .slice elems spare => uptoBulkAll elems + uptoBulkAll spare + 1
  | .agg parts => uptoBulkAll parts + 1
  | .iface _ d => uptoBulk d + 1
  | .map entries => uptoBulkEntries entries + 1
  | .held _ => 1
def uptoBulkAll {H : Type} : List (DataW H) → Nat
  | [] => 0
  | d :: r => uptoBulk d + uptoBulkAll r
def uptoBulkEntries {H : Type} : List (Lit × DataW H) → Nat
  | [] => 0
  | x :: r => uptoBulkEntry x + uptoBulkEntries r
def uptoBulkEntry {H : Type} : Lit × DataW H → Nat
  | (.string bytes, d) => bytes.length + uptoBulk d + 1
  | (_, d) => uptoBulk d + 1
 end
def uptoSmall : (H : Type) → List (DataW H) → Bool := fun _ ds => decide (uptoBulkAll ds ≤ 1048576)
def OpenSpec.upto (s : _root_.Go.ChangeSpec) : _root_.Go.OpenSpec := { _root_.Go.OpenSpec.ofChange s with cond := some uptoSmall }

/-- 'laws.FnExactIsPressed', WHERE WHAT IT READS IS OF BULK AT MOST 1048576: true; the input reads as it did. -/
def fnExactIsPressedUptoRow : OpenClaim := { program := "ytgmldhkipjadgaa", sum := "10c9ca8a22b69a48e313e7c1f96b82973f60f9164fac865afbe7a0aa449e0cdc", func := "loop.example/g01243/laws.FnExactIsPressed", spec := "fnExactIsPressed", inPlace := ["slices.overlaps[*loop.example/g01243/impl.limb]"], unfollowed := true, recurses := true, apart := false, narrowed := true }
def FnExactIsPressedUptoSaid : Prop := fnExactIsPressedUptoRow.holds Try.pinned (OpenSpec.upto fnExactIsPressedSpec)

/-- 'laws.FnExactPressTrie', WHERE WHAT IT READS IS OF BULK AT MOST 1048576: true; the input reads as it did. -/
def fnExactPressTrieUptoRow : OpenClaim := { program := "ytgmldhkipjadgaa", sum := "10c9ca8a22b69a48e313e7c1f96b82973f60f9164fac865afbe7a0aa449e0cdc", func := "loop.example/g01243/laws.FnExactPressTrie", spec := "fnExactPressTrie", inPlace := ["slices.overlaps[*loop.example/g01243/impl.limb]"], unfollowed := true, recurses := true, apart := false, narrowed := true }
def FnExactPressTrieUptoSaid : Prop := fnExactPressTrieUptoRow.holds Try.pinned (OpenSpec.upto fnExactPressTrieSpec)

/-- 'laws.FnExactOpenPressed', WHERE WHAT IT READS IS OF BULK AT MOST 1048576: true; the input reads as it did. -/
def fnExactOpenPressedUptoRow : OpenClaim := { program := "ytgmldhkipjadgaa", sum := "10c9ca8a22b69a48e313e7c1f96b82973f60f9164fac865afbe7a0aa449e0cdc", func := "loop.example/g01243/laws.FnExactOpenPressed", spec := "fnExactOpenPressed", inPlace := ["slices.overlaps[*loop.example/g01243/impl.limb]"], unfollowed := true, recurses := true, apart := false, narrowed := true }
def FnExactOpenPressedUptoSaid : Prop := fnExactOpenPressedUptoRow.holds Try.pinned (OpenSpec.upto fnExactOpenPressedSpec)

/-- 'laws.FnExactStayingNodes', WHERE WHAT IT READS IS OF BULK AT MOST 1048576: true; the input reads as it did. -/
def fnExactStayingNodesUptoRow : OpenClaim := { program := "ytgmldhkipjadgaa", sum := "10c9ca8a22b69a48e313e7c1f96b82973f60f9164fac865afbe7a0aa449e0cdc", func := "loop.example/g01243/laws.FnExactStayingNodes", spec := "fnExactStayingNodes", apart := false, narrowed := true }
def FnExactStayingNodesUptoSaid : Prop := fnExactStayingNodesUptoRow.holds Try.pinned (OpenSpec.upto fnExactStayingNodesSpec)

/-- 'laws.FnExactCountBranches', WHERE WHAT IT READS IS OF BULK AT MOST 1048576: true; the input reads as it did. -/
def fnExactCountBranchesUptoRow : OpenClaim := { program := "ytgmldhkipjadgaa", sum := "10c9ca8a22b69a48e313e7c1f96b82973f60f9164fac865afbe7a0aa449e0cdc", func := "loop.example/g01243/laws.FnExactCountBranches", spec := "fnExactCountBranches", apart := false, narrowed := true }
def FnExactCountBranchesUptoSaid : Prop := fnExactCountBranchesUptoRow.holds Try.pinned (OpenSpec.upto fnExactCountBranchesSpec)

/-- 'laws.FnExactBranchPrefix', WHERE WHAT IT READS IS OF BULK AT MOST 1048576: true; the input reads as it did. -/
def fnExactBranchPrefixUptoRow : OpenClaim := { program := "ytgmldhkipjadgaa", sum := "10c9ca8a22b69a48e313e7c1f96b82973f60f9164fac865afbe7a0aa449e0cdc", func := "loop.example/g01243/laws.FnExactBranchPrefix", spec := "fnExactBranchPrefix", inPlace := ["slices.overlaps[*loop.example/g01243/impl.limb]"], unfollowed := true, recurses := true, apart := false, narrowed := true }
def FnExactBranchPrefixUptoSaid : Prop := fnExactBranchPrefixUptoRow.holds Try.pinned (OpenSpec.upto fnExactBranchPrefixSpec)

end Rows
end Go.Proofs.Ytgmldhkipjadgaa
