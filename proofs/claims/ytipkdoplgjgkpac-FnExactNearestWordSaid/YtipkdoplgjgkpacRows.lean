/-
  No cell of these rows narrows 'for every input' (looked for: loops, veiled, ifaces, maps, wideKeys, modest, calm, conditions, laid).
  DERIVED. THE GIVEN ROWS OF THIS SEAT. 7 by the template 'for every input the law returns true; each argument reads behind the call as it read before'; 0 by the template 'total and deterministic' (their statements: YtipkdoplgjgkpacTotals.lean).
  GIVEN WITH THE SEED: the statements are not yours to turn. If you find one false, say at which input.
  Laid BY PROGRAM, IN A SANDBOX (cutbox-rows.mjs): the forced cells as the released guide's own fill.sh prints them over the translation d8916127d3ed4158… (all of the seat's roots in one cut). By AI agents, Wed Nov 11 2026. No macro, syntax, notation, axiom, sorry.
-/
import Derived.Test.YtipkdoplgjgkpacChecked
import GoSem.Claim
import GoSem.ClaimJoined
import GoSem.ClaimMapViews
import Derived.JoinedTies
import Derived.KernelRfl
namespace Go.Proofs.Ytipkdoplgjgkpac
/- THE CELL 'sum', in the pinned program and in every row, IS THE sha256 OF THE DUMP (.gsa) THAT YtipkdoplgjgkpacProg.lean LOADS. Nothing in Lean hashes anything: it is a label: what it is worth is what the hold of that sum in a sandbox is worth. -/
noncomputable def Try.pinned : Pinned := { name := "ytipkdoplgjgkpac", sum := "d8916127d3ed41583c13df8948053ea7d9fc5bce823feece85334c575c752d63", checked := Try.checked }
namespace Rows
def none {H : Type} : Left H := { results := [], args := [] }

/-- 'laws.FnExactIsPartTrie': WHATEVER THE INPUT: true; the input reads as it did. -/
def fnExactIsPartTrieSpec : ChangeSpec := { name := "fnExactIsPartTrie", fn := fun _ => fun
  | [d1, d2] => { results := [.lit (.bool true)], args := [d1, d2] }
  | _ => none }
def fnExactIsPartTrieRow : OpenClaim := { program := "ytipkdoplgjgkpac", sum := "d8916127d3ed41583c13df8948053ea7d9fc5bce823feece85334c575c752d63", func := "loop.example/g01243/laws.FnExactIsPartTrie", spec := "fnExactIsPartTrie", unfollowed := true, recurses := true, apart := false }
def FnExactIsPartTrieSaid : Prop := fnExactIsPartTrieRow.holds Try.pinned (OpenSpec.ofChange fnExactIsPartTrieSpec)

/-- ITS FALSE NEIGHBOUR: 'it returns false'. Refute it at one input. -/
def fnExactIsPartTrieWrong : ChangeSpec := { name := "fnExactIsPartTrie", fn := fun _ => fun
  | [d1, d2] => { results := [.lit (.bool false)], args := [d1, d2] }
  | _ => none }
def FnExactIsPartTrieWrongFalsely : Prop := fnExactIsPartTrieRow.holds Try.pinned (OpenSpec.ofChange fnExactIsPartTrieWrong)

/-- 'laws.FnExactDifferTries': WHATEVER THE INPUT: true; the input reads as it did. -/
def fnExactDifferTriesSpec : ChangeSpec := { name := "fnExactDifferTries", fn := fun _ => fun
  | [d1, d2] => { results := [.lit (.bool true)], args := [d1, d2] }
  | _ => none }
def fnExactDifferTriesRow : OpenClaim := { program := "ytipkdoplgjgkpac", sum := "d8916127d3ed41583c13df8948053ea7d9fc5bce823feece85334c575c752d63", func := "loop.example/g01243/laws.FnExactDifferTries", spec := "fnExactDifferTries", unfollowed := true, recurses := true, apart := false }
def FnExactDifferTriesSaid : Prop := fnExactDifferTriesRow.holds Try.pinned (OpenSpec.ofChange fnExactDifferTriesSpec)

/-- ITS FALSE NEIGHBOUR: 'it returns false'. Refute it at one input. -/
def fnExactDifferTriesWrong : ChangeSpec := { name := "fnExactDifferTries", fn := fun _ => fun
  | [d1, d2] => { results := [.lit (.bool false)], args := [d1, d2] }
  | _ => none }
def FnExactDifferTriesWrongFalsely : Prop := fnExactDifferTriesRow.holds Try.pinned (OpenSpec.ofChange fnExactDifferTriesWrong)

/-- 'laws.FnExactTimesTrie': WHATEVER THE INPUT: true; the input reads as it did. -/
def fnExactTimesTrieSpec : ChangeSpec := { name := "fnExactTimesTrie", fn := fun _ => fun
  | [d1, d2] => { results := [.lit (.bool true)], args := [d1, d2] }
  | _ => none }
def fnExactTimesTrieRow : OpenClaim := { program := "ytipkdoplgjgkpac", sum := "d8916127d3ed41583c13df8948053ea7d9fc5bce823feece85334c575c752d63", func := "loop.example/g01243/laws.FnExactTimesTrie", spec := "fnExactTimesTrie", unfollowed := true, recurses := true, apart := false }
def FnExactTimesTrieSaid : Prop := fnExactTimesTrieRow.holds Try.pinned (OpenSpec.ofChange fnExactTimesTrieSpec)

/-- ITS FALSE NEIGHBOUR: 'it returns false'. Refute it at one input. -/
def fnExactTimesTrieWrong : ChangeSpec := { name := "fnExactTimesTrie", fn := fun _ => fun
  | [d1, d2] => { results := [.lit (.bool false)], args := [d1, d2] }
  | _ => none }
def FnExactTimesTrieWrongFalsely : Prop := fnExactTimesTrieRow.holds Try.pinned (OpenSpec.ofChange fnExactTimesTrieWrong)

/-- 'laws.FnExactNearWords': WHATEVER THE INPUT: true; the input reads as it did. -/
def fnExactNearWordsSpec : ChangeSpec := { name := "fnExactNearWords", fn := fun _ => fun
  | [d1, d2, d3] => { results := [.lit (.bool true)], args := [d1, d2, d3] }
  | _ => none }
def fnExactNearWordsRow : OpenClaim := { program := "ytipkdoplgjgkpac", sum := "d8916127d3ed41583c13df8948053ea7d9fc5bce823feece85334c575c752d63", func := "loop.example/g01243/laws.FnExactNearWords", spec := "fnExactNearWords", unfollowed := true, recurses := true, apart := false }
def FnExactNearWordsSaid : Prop := fnExactNearWordsRow.holds Try.pinned (OpenSpec.ofChange fnExactNearWordsSpec)

/-- ITS FALSE NEIGHBOUR: 'it returns false'. Refute it at one input. -/
def fnExactNearWordsWrong : ChangeSpec := { name := "fnExactNearWords", fn := fun _ => fun
  | [d1, d2, d3] => { results := [.lit (.bool false)], args := [d1, d2, d3] }
  | _ => none }
def FnExactNearWordsWrongFalsely : Prop := fnExactNearWordsRow.holds Try.pinned (OpenSpec.ofChange fnExactNearWordsWrong)

/-- 'laws.FnExactNearestWord': WHATEVER THE INPUT: true; the input reads as it did. -/
def fnExactNearestWordSpec : ChangeSpec := { name := "fnExactNearestWord", fn := fun _ => fun
  | [d1, d2] => { results := [.lit (.bool true)], args := [d1, d2] }
  | _ => none }
def fnExactNearestWordRow : OpenClaim := { program := "ytipkdoplgjgkpac", sum := "d8916127d3ed41583c13df8948053ea7d9fc5bce823feece85334c575c752d63", func := "loop.example/g01243/laws.FnExactNearestWord", spec := "fnExactNearestWord", unfollowed := true, recurses := true, apart := false }
def FnExactNearestWordSaid : Prop := fnExactNearestWordRow.holds Try.pinned (OpenSpec.ofChange fnExactNearestWordSpec)

/-- ITS FALSE NEIGHBOUR: 'it returns false'. Refute it at one input. -/
def fnExactNearestWordWrong : ChangeSpec := { name := "fnExactNearestWord", fn := fun _ => fun
  | [d1, d2] => { results := [.lit (.bool false)], args := [d1, d2] }
  | _ => none }
def FnExactNearestWordWrongFalsely : Prop := fnExactNearestWordRow.holds Try.pinned (OpenSpec.ofChange fnExactNearestWordWrong)

/-- 'laws.FnExactEditsOf': WHATEVER THE INPUT: true; the input reads as it did. -/
def fnExactEditsOfSpec : ChangeSpec := { name := "fnExactEditsOf", fn := fun _ => fun
  | [d] => { results := [.lit (.bool true)], args := [d] }
  | _ => none }
def fnExactEditsOfRow : OpenClaim := { program := "ytipkdoplgjgkpac", sum := "d8916127d3ed41583c13df8948053ea7d9fc5bce823feece85334c575c752d63", func := "loop.example/g01243/laws.FnExactEditsOf", spec := "fnExactEditsOf", recurses := true, apart := false }
def FnExactEditsOfSaid : Prop := fnExactEditsOfRow.holds Try.pinned (OpenSpec.ofChange fnExactEditsOfSpec)

/-- ITS FALSE NEIGHBOUR: 'it returns false'. Refute it at one input. -/
def fnExactEditsOfWrong : ChangeSpec := { name := "fnExactEditsOf", fn := fun _ => fun
  | [d] => { results := [.lit (.bool false)], args := [d] }
  | _ => none }
def FnExactEditsOfWrongFalsely : Prop := fnExactEditsOfRow.holds Try.pinned (OpenSpec.ofChange fnExactEditsOfWrong)

/-- 'laws.FnExactBestSplit': WHATEVER THE INPUT: true; the input reads as it did. -/
def fnExactBestSplitSpec : ChangeSpec := { name := "fnExactBestSplit", fn := fun _ => fun
  | [d1, d2] => { results := [.lit (.bool true)], args := [d1, d2] }
  | _ => none }
def fnExactBestSplitRow : OpenClaim := { program := "ytipkdoplgjgkpac", sum := "d8916127d3ed41583c13df8948053ea7d9fc5bce823feece85334c575c752d63", func := "loop.example/g01243/laws.FnExactBestSplit", spec := "fnExactBestSplit", unfollowed := true, recurses := true, apart := false }
def FnExactBestSplitSaid : Prop := fnExactBestSplitRow.holds Try.pinned (OpenSpec.ofChange fnExactBestSplitSpec)

/-- ITS FALSE NEIGHBOUR: 'it returns false'. Refute it at one input. -/
def fnExactBestSplitWrong : ChangeSpec := { name := "fnExactBestSplit", fn := fun _ => fun
  | [d1, d2] => { results := [.lit (.bool false)], args := [d1, d2] }
  | _ => none }
def FnExactBestSplitWrongFalsely : Prop := fnExactBestSplitRow.holds Try.pinned (OpenSpec.ofChange fnExactBestSplitWrong)

/- THE SECOND FORM. 'bulk': how many values and letters a reading holds, each counted each time it is reached (what is shared counts as often as it is met; a slice's spare places count too). A statement '..UptoSaid' is the law's where the arguments, and the package variables that the reading takes, are together of bulk at most 1048576: NARROWER than '..Said'. Prove '..Said' where nothing that the law and all that it calls make is longer than what came in: it says more and counts as full. Else prove '..UptoSaid'. A law counts once. -/
mutual
def uptoBulk {H : Type} : DataW H → Nat
  | .lit (.string bytes) => bytes.length + 1
  | .lit _ => 1
  | .nil => 1
  | .ptr d => uptoBulk d + 1
  | .slice elems spare => uptoBulkAll elems + uptoBulkAll spare + 1
  | .agg parts => uptoBulkAll parts + 1
  | .iface _ d => uptoBulk d + 1
  | .map entries => uptoBulkEntries entries + 1
  | .held _ => 1
def uptoBulkAll {H : Type} : List (DataW H) → Nat
  | [] => 0
  | d :: r => uptoBulk d + uptoBulkAll r
def uptoBulkEntries {H : Type} : List (Lit × DataW H) → Nat
  | [] => 0
  | x :: r => uptoBulkEntry x + uptoBulkEntries r
def uptoBulkEntry {H : Type} : Lit × DataW H → Nat
  | (.string bytes, d) => bytes.length + uptoBulk d + 1
  | (_, d) => uptoBulk d + 1
 end
def uptoSmall : (H : Type) → List (DataW H) → Bool := fun _ ds => decide (uptoBulkAll ds ≤ 1048576)
def OpenSpec.upto (s : _root_.Go.ChangeSpec) : _root_.Go.OpenSpec := { _root_.Go.OpenSpec.ofChange s with cond := some uptoSmall }

/-- 'laws.FnExactIsPartTrie', WHERE WHAT IT READS IS OF BULK AT MOST 1048576: true; the input reads as it did. -/
def fnExactIsPartTrieUptoRow : OpenClaim := { program := "ytipkdoplgjgkpac", sum := "d8916127d3ed41583c13df8948053ea7d9fc5bce823feece85334c575c752d63", func := "loop.example/g01243/laws.FnExactIsPartTrie", spec := "fnExactIsPartTrie", unfollowed := true, recurses := true, apart := false, narrowed := true }
def FnExactIsPartTrieUptoSaid : Prop := fnExactIsPartTrieUptoRow.holds Try.pinned (OpenSpec.upto fnExactIsPartTrieSpec)

/-- 'laws.FnExactDifferTries', WHERE WHAT IT READS IS OF BULK AT MOST 1048576: true; the input reads as it did. -/
def fnExactDifferTriesUptoRow : OpenClaim := { program := "ytipkdoplgjgkpac", sum := "d8916127d3ed41583c13df8948053ea7d9fc5bce823feece85334c575c752d63", func := "loop.example/g01243/laws.FnExactDifferTries", spec := "fnExactDifferTries", unfollowed := true, recurses := true, apart := false, narrowed := true }
def FnExactDifferTriesUptoSaid : Prop := fnExactDifferTriesUptoRow.holds Try.pinned (OpenSpec.upto fnExactDifferTriesSpec)

/-- 'laws.FnExactTimesTrie', WHERE WHAT IT READS IS OF BULK AT MOST 1048576: true; the input reads as it did. -/
def fnExactTimesTrieUptoRow : OpenClaim := { program := "ytipkdoplgjgkpac", sum := "d8916127d3ed41583c13df8948053ea7d9fc5bce823feece85334c575c752d63", func := "loop.example/g01243/laws.FnExactTimesTrie", spec := "fnExactTimesTrie", unfollowed := true, recurses := true, apart := false, narrowed := true }
def FnExactTimesTrieUptoSaid : Prop := fnExactTimesTrieUptoRow.holds Try.pinned (OpenSpec.upto fnExactTimesTrieSpec)

/-- 'laws.FnExactNearWords', WHERE WHAT IT READS IS OF BULK AT MOST 1048576: true; the input reads as it did. -/
def fnExactNearWordsUptoRow : OpenClaim := { program := "ytipkdoplgjgkpac", sum := "d8916127d3ed41583c13df8948053ea7d9fc5bce823feece85334c575c752d63", func := "loop.example/g01243/laws.FnExactNearWords", spec := "fnExactNearWords", unfollowed := true, recurses := true, apart := false, narrowed := true }
def FnExactNearWordsUptoSaid : Prop := fnExactNearWordsUptoRow.holds Try.pinned (OpenSpec.upto fnExactNearWordsSpec)

/-- 'laws.FnExactNearestWord', WHERE WHAT IT READS IS OF BULK AT MOST 1048576: true; the input reads as it did. -/
def fnExactNearestWordUptoRow : OpenClaim := { program := "ytipkdoplgjgkpac", sum := "d8916127d3ed41583c13df8948053ea7d9fc5bce823feece85334c575c752d63", func := "loop.example/g01243/laws.FnExactNearestWord", spec := "fnExactNearestWord", unfollowed := true, recurses := true, apart := false, narrowed := true }
def FnExactNearestWordUptoSaid : Prop := fnExactNearestWordUptoRow.holds Try.pinned (OpenSpec.upto fnExactNearestWordSpec)

/-- 'laws.FnExactEditsOf', WHERE WHAT IT READS IS OF BULK AT MOST 1048576: true; the input reads as it did. -/
def fnExactEditsOfUptoRow : OpenClaim := { program := "ytipkdoplgjgkpac", sum := "d8916127d3ed41583c13df8948053ea7d9fc5bce823feece85334c575c752d63", func := "loop.example/g01243/laws.FnExactEditsOf", spec := "fnExactEditsOf", recurses := true, apart := false, narrowed := true }
def FnExactEditsOfUptoSaid : Prop := fnExactEditsOfUptoRow.holds Try.pinned (OpenSpec.upto fnExactEditsOfSpec)

/-- 'laws.FnExactBestSplit', WHERE WHAT IT READS IS OF BULK AT MOST 1048576: true; the input reads as it did. -/
def fnExactBestSplitUptoRow : OpenClaim := { program := "ytipkdoplgjgkpac", sum := "d8916127d3ed41583c13df8948053ea7d9fc5bce823feece85334c575c752d63", func := "loop.example/g01243/laws.FnExactBestSplit", spec := "fnExactBestSplit", unfollowed := true, recurses := true, apart := false, narrowed := true }
def FnExactBestSplitUptoSaid : Prop := fnExactBestSplitUptoRow.holds Try.pinned (OpenSpec.upto fnExactBestSplitSpec)

end Rows
end Go.Proofs.Ytipkdoplgjgkpac
