/-
  No cell of these rows narrows 'for every input' (looked for: loops, veiled, ifaces, maps, wideKeys, modest, calm, conditions, laid).
  DERIVED. THE GIVEN ROWS OF THIS SEAT. 6 by the template 'for every input the law returns true; each argument reads behind the call as it read before'; 0 by the template 'total and deterministic' (their statements: YtknoafkgeaibpabTotals.lean).
  GIVEN WITH THE SEED: the statements are not yours to turn. If you find one false, say at which input.
  Laid BY PROGRAM, IN A SANDBOX (cutbox-rows.mjs): the forced cells as the released guide's own fill.sh prints them over the translation 45ae6929727a9492… (all of the seat's roots in one cut). By AI agents, Wed Nov 11 2026. No macro, syntax, notation, axiom, sorry.
-/
import Derived.Test.YtknoafkgeaibpabChecked
import GoSem.Claim
import GoSem.ClaimJoined
import GoSem.ClaimMapViews
import Derived.JoinedTies
import Derived.KernelRfl
namespace Go.Proofs.Ytknoafkgeaibpab
/- THE CELL 'sum', in the pinned program and in every row, IS THE sha256 OF THE DUMP (.gsa) THAT YtknoafkgeaibpabProg.lean LOADS. Nothing in Lean hashes anything: it is a label: what it is worth is what the hold of that sum in a sandbox is worth. -/
noncomputable def Try.pinned : Pinned := { name := "ytknoafkgeaibpab", sum := "45ae6929727a9492230f6974bf228ff2e16367d8e797694379f606dbd42d5f87", checked := Try.checked }
namespace Rows
def none {H : Type} : Left H := { results := [], args := [] }

/-- 'laws.FnExactCompleteTo': WHATEVER THE INPUT: true; the input reads as it did. -/
def fnExactCompleteToSpec : ChangeSpec := { name := "fnExactCompleteTo", fn := fun _ => fun
  | [d1, d2] => { results := [.lit (.bool true)], args := [d1, d2] }
  | _ => none }
def fnExactCompleteToRow : OpenClaim := { program := "ytknoafkgeaibpab", sum := "45ae6929727a9492230f6974bf228ff2e16367d8e797694379f606dbd42d5f87", func := "loop.example/g01243/laws.FnExactCompleteTo", spec := "fnExactCompleteTo", apart := false }
def FnExactCompleteToSaid : Prop := fnExactCompleteToRow.holds Try.pinned (OpenSpec.ofChange fnExactCompleteToSpec)

/-- ITS FALSE NEIGHBOUR: 'it returns false'. Refute it at one input. -/
def fnExactCompleteToWrong : ChangeSpec := { name := "fnExactCompleteTo", fn := fun _ => fun
  | [d1, d2] => { results := [.lit (.bool false)], args := [d1, d2] }
  | _ => none }
def FnExactCompleteToWrongFalsely : Prop := fnExactCompleteToRow.holds Try.pinned (OpenSpec.ofChange fnExactCompleteToWrong)

/-- 'laws.FnExactCountSplits': WHATEVER THE INPUT: true; the input reads as it did. -/
def fnExactCountSplitsSpec : ChangeSpec := { name := "fnExactCountSplits", fn := fun _ => fun
  | [d1, d2] => { results := [.lit (.bool true)], args := [d1, d2] }
  | _ => none }
def fnExactCountSplitsRow : OpenClaim := { program := "ytknoafkgeaibpab", sum := "45ae6929727a9492230f6974bf228ff2e16367d8e797694379f606dbd42d5f87", func := "loop.example/g01243/laws.FnExactCountSplits", spec := "fnExactCountSplits", unfollowed := true, recurses := true, apart := false }
def FnExactCountSplitsSaid : Prop := fnExactCountSplitsRow.holds Try.pinned (OpenSpec.ofChange fnExactCountSplitsSpec)

/-- ITS FALSE NEIGHBOUR: 'it returns false'. Refute it at one input. -/
def fnExactCountSplitsWrong : ChangeSpec := { name := "fnExactCountSplits", fn := fun _ => fun
  | [d1, d2] => { results := [.lit (.bool false)], args := [d1, d2] }
  | _ => none }
def FnExactCountSplitsWrongFalsely : Prop := fnExactCountSplitsRow.holds Try.pinned (OpenSpec.ofChange fnExactCountSplitsWrong)

/-- 'laws.FnExactBestSplit': WHATEVER THE INPUT: true; the input reads as it did. -/
def fnExactBestSplitSpec : ChangeSpec := { name := "fnExactBestSplit", fn := fun _ => fun
  | [d1, d2] => { results := [.lit (.bool true)], args := [d1, d2] }
  | _ => none }
def fnExactBestSplitRow : OpenClaim := { program := "ytknoafkgeaibpab", sum := "45ae6929727a9492230f6974bf228ff2e16367d8e797694379f606dbd42d5f87", func := "loop.example/g01243/laws.FnExactBestSplit", spec := "fnExactBestSplit", unfollowed := true, recurses := true, apart := false }
def FnExactBestSplitSaid : Prop := fnExactBestSplitRow.holds Try.pinned (OpenSpec.ofChange fnExactBestSplitSpec)

/-- ITS FALSE NEIGHBOUR: 'it returns false'. Refute it at one input. -/
def fnExactBestSplitWrong : ChangeSpec := { name := "fnExactBestSplit", fn := fun _ => fun
  | [d1, d2] => { results := [.lit (.bool false)], args := [d1, d2] }
  | _ => none }
def FnExactBestSplitWrongFalsely : Prop := fnExactBestSplitRow.holds Try.pinned (OpenSpec.ofChange fnExactBestSplitWrong)

/-- 'laws.FnExactGreedySplit': WHATEVER THE INPUT: true; the input reads as it did. -/
def fnExactGreedySplitSpec : ChangeSpec := { name := "fnExactGreedySplit", fn := fun _ => fun
  | [d1, d2] => { results := [.lit (.bool true)], args := [d1, d2] }
  | _ => none }
def fnExactGreedySplitRow : OpenClaim := { program := "ytknoafkgeaibpab", sum := "45ae6929727a9492230f6974bf228ff2e16367d8e797694379f606dbd42d5f87", func := "loop.example/g01243/laws.FnExactGreedySplit", spec := "fnExactGreedySplit", apart := false }
def FnExactGreedySplitSaid : Prop := fnExactGreedySplitRow.holds Try.pinned (OpenSpec.ofChange fnExactGreedySplitSpec)

/-- ITS FALSE NEIGHBOUR: 'it returns false'. Refute it at one input. -/
def fnExactGreedySplitWrong : ChangeSpec := { name := "fnExactGreedySplit", fn := fun _ => fun
  | [d1, d2] => { results := [.lit (.bool false)], args := [d1, d2] }
  | _ => none }
def FnExactGreedySplitWrongFalsely : Prop := fnExactGreedySplitRow.holds Try.pinned (OpenSpec.ofChange fnExactGreedySplitWrong)

/-- 'laws.FnExactSplitPlaces': WHATEVER THE INPUT: true; the input reads as it did. -/
def fnExactSplitPlacesSpec : ChangeSpec := { name := "fnExactSplitPlaces", fn := fun _ => fun
  | [d1, d2] => { results := [.lit (.bool true)], args := [d1, d2] }
  | _ => none }
def fnExactSplitPlacesRow : OpenClaim := { program := "ytknoafkgeaibpab", sum := "45ae6929727a9492230f6974bf228ff2e16367d8e797694379f606dbd42d5f87", func := "loop.example/g01243/laws.FnExactSplitPlaces", spec := "fnExactSplitPlaces", unfollowed := true, recurses := true, apart := false }
def FnExactSplitPlacesSaid : Prop := fnExactSplitPlacesRow.holds Try.pinned (OpenSpec.ofChange fnExactSplitPlacesSpec)

/-- ITS FALSE NEIGHBOUR: 'it returns false'. Refute it at one input. -/
def fnExactSplitPlacesWrong : ChangeSpec := { name := "fnExactSplitPlaces", fn := fun _ => fun
  | [d1, d2] => { results := [.lit (.bool false)], args := [d1, d2] }
  | _ => none }
def FnExactSplitPlacesWrongFalsely : Prop := fnExactSplitPlacesRow.holds Try.pinned (OpenSpec.ofChange fnExactSplitPlacesWrong)

/-- 'laws.FnExactMostCovered': WHATEVER THE INPUT: true; the input reads as it did. -/
def fnExactMostCoveredSpec : ChangeSpec := { name := "fnExactMostCovered", fn := fun _ => fun
  | [d1, d2] => { results := [.lit (.bool true)], args := [d1, d2] }
  | _ => none }
def fnExactMostCoveredRow : OpenClaim := { program := "ytknoafkgeaibpab", sum := "45ae6929727a9492230f6974bf228ff2e16367d8e797694379f606dbd42d5f87", func := "loop.example/g01243/laws.FnExactMostCovered", spec := "fnExactMostCovered", unfollowed := true, recurses := true, apart := false }
def FnExactMostCoveredSaid : Prop := fnExactMostCoveredRow.holds Try.pinned (OpenSpec.ofChange fnExactMostCoveredSpec)

/-- ITS FALSE NEIGHBOUR: 'it returns false'. Refute it at one input. -/
def fnExactMostCoveredWrong : ChangeSpec := { name := "fnExactMostCovered", fn := fun _ => fun
  | [d1, d2] => { results := [.lit (.bool false)], args := [d1, d2] }
  | _ => none }
def FnExactMostCoveredWrongFalsely : Prop := fnExactMostCoveredRow.holds Try.pinned (OpenSpec.ofChange fnExactMostCoveredWrong)

/- THE SECOND FORM. 'bulk': how many values and letters a reading holds, each counted each time it is reached (what is shared counts as often as it is met; a slice's spare places count too). A statement '..UptoSaid' is the law's where the arguments, and the package variables that the reading takes, are together of bulk at most 1048576: NARROWER than '..Said'. Prove '..Said' where nothing that the law and all that it calls make is longer than what came in: it says more and counts as full. Else prove '..UptoSaid'. A law counts once. -/
mutual
def uptoBulk {H : Type} : DataW H → Nat
  | .lit (.string bytes) => bytes.length + 1
  | .lit _ => 1
  | .nil => 1
  | .ptr d => uptoBulk d + 1
  | .slice elems spare => uptoBulkAll elems + uptoBulkAll spare + 1
  | .agg parts => uptoBulkAll parts + 1
  | .iface _ d => uptoBulk d + 1
  | .map entries => uptoBulkEntries entries + 1
  | .held _ => 1
def uptoBulkAll {H : Type} : List (DataW H) → Nat
  | [] => 0
  | d :: r => uptoBulk d + uptoBulkAll r
def uptoBulkEntries {H : Type} : List (Lit × DataW H) → Nat
  | [] => 0
  | x :: r => uptoBulkEntry x + uptoBulkEntries r
def uptoBulkEntry {H : Type} : Lit × DataW H → Nat
  | (.string bytes, d) => bytes.length + uptoBulk d + 1
  | (_, d) => uptoBulk d + 1
 end
def uptoSmall : (H : Type) → List (DataW H) → Bool := fun _ ds => decide (uptoBulkAll ds ≤ 1048576)
def OpenSpec.upto (s : _root_.Go.ChangeSpec) : _root_.Go.OpenSpec := { _root_.Go.OpenSpec.ofChange s with cond := some uptoSmall }

/-- 'laws.FnExactCompleteTo', WHERE WHAT IT READS IS OF BULK AT MOST 1048576: true; the input reads as it did. -/
def fnExactCompleteToUptoRow : OpenClaim := { program := "ytknoafkgeaibpab", sum := "45ae6929727a9492230f6974bf228ff2e16367d8e797694379f606dbd42d5f87", func := "loop.example/g01243/laws.FnExactCompleteTo", spec := "fnExactCompleteTo", apart := false, narrowed := true }
def FnExactCompleteToUptoSaid : Prop := fnExactCompleteToUptoRow.holds Try.pinned (OpenSpec.upto fnExactCompleteToSpec)

/-- 'laws.FnExactCountSplits', WHERE WHAT IT READS IS OF BULK AT MOST 1048576: true; the input reads as it did. -/
def fnExactCountSplitsUptoRow : OpenClaim := { program := "ytknoafkgeaibpab", sum := "45ae6929727a9492230f6974bf228ff2e16367d8e797694379f606dbd42d5f87", func := "loop.example/g01243/laws.FnExactCountSplits", spec := "fnExactCountSplits", unfollowed := true, recurses := true, apart := false, narrowed := true }
def FnExactCountSplitsUptoSaid : Prop := fnExactCountSplitsUptoRow.holds Try.pinned (OpenSpec.upto fnExactCountSplitsSpec)

/-- 'laws.FnExactBestSplit', WHERE WHAT IT READS IS OF BULK AT MOST 1048576: true; the input reads as it did. -/
def fnExactBestSplitUptoRow : OpenClaim := { program := "ytknoafkgeaibpab", sum := "45ae6929727a9492230f6974bf228ff2e16367d8e797694379f606dbd42d5f87", func := "loop.example/g01243/laws.FnExactBestSplit", spec := "fnExactBestSplit", unfollowed := true, recurses := true, apart := false, narrowed := true }
def FnExactBestSplitUptoSaid : Prop := fnExactBestSplitUptoRow.holds Try.pinned (OpenSpec.upto fnExactBestSplitSpec)

/-- 'laws.FnExactGreedySplit', WHERE WHAT IT READS IS OF BULK AT MOST 1048576: true; the input reads as it did. -/
def fnExactGreedySplitUptoRow : OpenClaim := { program := "ytknoafkgeaibpab", sum := "45ae6929727a9492230f6974bf228ff2e16367d8e797694379f606dbd42d5f87", func := "loop.example/g01243/laws.FnExactGreedySplit", spec := "fnExactGreedySplit", apart := false, narrowed := true }
def FnExactGreedySplitUptoSaid : Prop := fnExactGreedySplitUptoRow.holds Try.pinned (OpenSpec.upto fnExactGreedySplitSpec)

/-- 'laws.FnExactSplitPlaces', WHERE WHAT IT READS IS OF BULK AT MOST 1048576: true; the input reads as it did. -/
def fnExactSplitPlacesUptoRow : OpenClaim := { program := "ytknoafkgeaibpab", sum := "45ae6929727a9492230f6974bf228ff2e16367d8e797694379f606dbd42d5f87", func := "loop.example/g01243/laws.FnExactSplitPlaces", spec := "fnExactSplitPlaces", unfollowed := true, recurses := true, apart := false, narrowed := true }
def FnExactSplitPlacesUptoSaid : Prop := fnExactSplitPlacesUptoRow.holds Try.pinned (OpenSpec.upto fnExactSplitPlacesSpec)

/-- 'laws.FnExactMostCovered', WHERE WHAT IT READS IS OF BULK AT MOST 1048576: true; the input reads as it did. -/
def fnExactMostCoveredUptoRow : OpenClaim := { program := "ytknoafkgeaibpab", sum := "45ae6929727a9492230f6974bf228ff2e16367d8e797694379f606dbd42d5f87", func := "loop.example/g01243/laws.FnExactMostCovered", spec := "fnExactMostCovered", unfollowed := true, recurses := true, apart := false, narrowed := true }
def FnExactMostCoveredUptoSaid : Prop := fnExactMostCoveredUptoRow.holds Try.pinned (OpenSpec.upto fnExactMostCoveredSpec)

end Rows
end Go.Proofs.Ytknoafkgeaibpab
