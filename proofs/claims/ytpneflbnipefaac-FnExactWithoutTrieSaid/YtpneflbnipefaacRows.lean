/-
  No cell of these rows narrows 'for every input' (looked for: loops, veiled, ifaces, maps, wideKeys, modest, calm, conditions, laid).
  DERIVED. THE GIVEN ROWS OF THIS SEAT. 6 by the template 'for every input the law returns true; each argument reads behind the call as it read before'; 0 by the template 'total and deterministic' (their statements: YtpneflbnipefaacTotals.lean).
  GIVEN WITH THE SEED: the statements are not yours to turn. If you find one false, say at which input.
  Laid BY PROGRAM, IN A SANDBOX (cutbox-rows.mjs): the forced cells as the released guide's own fill.sh prints them over the translation fc5a8686ebf4ea09… (all of the seat's roots in one cut). By AI agents, Wed Nov 11 2026. No macro, syntax, notation, axiom, sorry.
-/
import Derived.Test.YtpneflbnipefaacChecked
import GoSem.Claim
import GoSem.ClaimJoined
import GoSem.ClaimMapViews
import Derived.JoinedTies
import Derived.KernelRfl
namespace Go.Proofs.Ytpneflbnipefaac
/- THE CELL 'sum', in the pinned program and in every row, IS THE sha256 OF THE DUMP (.gsa) THAT YtpneflbnipefaacProg.lean LOADS. Nothing in Lean hashes anything: it is a label: what it is worth is what the hold of that sum in a sandbox is worth. -/
noncomputable def Try.pinned : Pinned := { name := "ytpneflbnipefaac", sum := "fc5a8686ebf4ea09ce2fb60c319a4d2f8e5d103cef034cc633ddcf501c138958", checked := Try.checked }
namespace Rows
def none {H : Type} : Left H := { results := [], args := [] }

/-- 'laws.FnExactMeetTries': WHATEVER THE INPUT: true; the input reads as it did. -/
def fnExactMeetTriesSpec : ChangeSpec := { name := "fnExactMeetTries", fn := fun _ => fun
  | [d1, d2] => { results := [.lit (.bool true)], args := [d1, d2] }
  | _ => none }
def fnExactMeetTriesRow : OpenClaim := { program := "ytpneflbnipefaac", sum := "fc5a8686ebf4ea09ce2fb60c319a4d2f8e5d103cef034cc633ddcf501c138958", func := "loop.example/g01243/laws.FnExactMeetTries", spec := "fnExactMeetTries", unfollowed := true, recurses := true, apart := false }
def FnExactMeetTriesSaid : Prop := fnExactMeetTriesRow.holds Try.pinned (OpenSpec.ofChange fnExactMeetTriesSpec)

/-- ITS FALSE NEIGHBOUR: 'it returns false'. Refute it at one input. -/
def fnExactMeetTriesWrong : ChangeSpec := { name := "fnExactMeetTries", fn := fun _ => fun
  | [d1, d2] => { results := [.lit (.bool false)], args := [d1, d2] }
  | _ => none }
def FnExactMeetTriesWrongFalsely : Prop := fnExactMeetTriesRow.holds Try.pinned (OpenSpec.ofChange fnExactMeetTriesWrong)

/-- 'laws.FnExactWithoutTrie': WHATEVER THE INPUT: true; the input reads as it did. -/
def fnExactWithoutTrieSpec : ChangeSpec := { name := "fnExactWithoutTrie", fn := fun _ => fun
  | [d1, d2] => { results := [.lit (.bool true)], args := [d1, d2] }
  | _ => none }
def fnExactWithoutTrieRow : OpenClaim := { program := "ytpneflbnipefaac", sum := "fc5a8686ebf4ea09ce2fb60c319a4d2f8e5d103cef034cc633ddcf501c138958", func := "loop.example/g01243/laws.FnExactWithoutTrie", spec := "fnExactWithoutTrie", unfollowed := true, recurses := true, apart := false }
def FnExactWithoutTrieSaid : Prop := fnExactWithoutTrieRow.holds Try.pinned (OpenSpec.ofChange fnExactWithoutTrieSpec)

/-- ITS FALSE NEIGHBOUR: 'it returns false'. Refute it at one input. -/
def fnExactWithoutTrieWrong : ChangeSpec := { name := "fnExactWithoutTrie", fn := fun _ => fun
  | [d1, d2] => { results := [.lit (.bool false)], args := [d1, d2] }
  | _ => none }
def FnExactWithoutTrieWrongFalsely : Prop := fnExactWithoutTrieRow.holds Try.pinned (OpenSpec.ofChange fnExactWithoutTrieWrong)

/-- 'laws.FnExactIsPartTrie': WHATEVER THE INPUT: true; the input reads as it did. -/
def fnExactIsPartTrieSpec : ChangeSpec := { name := "fnExactIsPartTrie", fn := fun _ => fun
  | [d1, d2] => { results := [.lit (.bool true)], args := [d1, d2] }
  | _ => none }
def fnExactIsPartTrieRow : OpenClaim := { program := "ytpneflbnipefaac", sum := "fc5a8686ebf4ea09ce2fb60c319a4d2f8e5d103cef034cc633ddcf501c138958", func := "loop.example/g01243/laws.FnExactIsPartTrie", spec := "fnExactIsPartTrie", unfollowed := true, recurses := true, apart := false }
def FnExactIsPartTrieSaid : Prop := fnExactIsPartTrieRow.holds Try.pinned (OpenSpec.ofChange fnExactIsPartTrieSpec)

/-- ITS FALSE NEIGHBOUR: 'it returns false'. Refute it at one input. -/
def fnExactIsPartTrieWrong : ChangeSpec := { name := "fnExactIsPartTrie", fn := fun _ => fun
  | [d1, d2] => { results := [.lit (.bool false)], args := [d1, d2] }
  | _ => none }
def FnExactIsPartTrieWrongFalsely : Prop := fnExactIsPartTrieRow.holds Try.pinned (OpenSpec.ofChange fnExactIsPartTrieWrong)

/-- 'laws.FnExactDifferTries': WHATEVER THE INPUT: true; the input reads as it did. -/
def fnExactDifferTriesSpec : ChangeSpec := { name := "fnExactDifferTries", fn := fun _ => fun
  | [d1, d2] => { results := [.lit (.bool true)], args := [d1, d2] }
  | _ => none }
def fnExactDifferTriesRow : OpenClaim := { program := "ytpneflbnipefaac", sum := "fc5a8686ebf4ea09ce2fb60c319a4d2f8e5d103cef034cc633ddcf501c138958", func := "loop.example/g01243/laws.FnExactDifferTries", spec := "fnExactDifferTries", unfollowed := true, recurses := true, apart := false }
def FnExactDifferTriesSaid : Prop := fnExactDifferTriesRow.holds Try.pinned (OpenSpec.ofChange fnExactDifferTriesSpec)

/-- ITS FALSE NEIGHBOUR: 'it returns false'. Refute it at one input. -/
def fnExactDifferTriesWrong : ChangeSpec := { name := "fnExactDifferTries", fn := fun _ => fun
  | [d1, d2] => { results := [.lit (.bool false)], args := [d1, d2] }
  | _ => none }
def FnExactDifferTriesWrongFalsely : Prop := fnExactDifferTriesRow.holds Try.pinned (OpenSpec.ofChange fnExactDifferTriesWrong)

/-- 'laws.FnExactTimesTrie': WHATEVER THE INPUT: true; the input reads as it did. -/
def fnExactTimesTrieSpec : ChangeSpec := { name := "fnExactTimesTrie", fn := fun _ => fun
  | [d1, d2] => { results := [.lit (.bool true)], args := [d1, d2] }
  | _ => none }
def fnExactTimesTrieRow : OpenClaim := { program := "ytpneflbnipefaac", sum := "fc5a8686ebf4ea09ce2fb60c319a4d2f8e5d103cef034cc633ddcf501c138958", func := "loop.example/g01243/laws.FnExactTimesTrie", spec := "fnExactTimesTrie", unfollowed := true, recurses := true, apart := false }
def FnExactTimesTrieSaid : Prop := fnExactTimesTrieRow.holds Try.pinned (OpenSpec.ofChange fnExactTimesTrieSpec)

/-- ITS FALSE NEIGHBOUR: 'it returns false'. Refute it at one input. -/
def fnExactTimesTrieWrong : ChangeSpec := { name := "fnExactTimesTrie", fn := fun _ => fun
  | [d1, d2] => { results := [.lit (.bool false)], args := [d1, d2] }
  | _ => none }
def FnExactTimesTrieWrongFalsely : Prop := fnExactTimesTrieRow.holds Try.pinned (OpenSpec.ofChange fnExactTimesTrieWrong)

/-- 'laws.FnExactNearWords': WHATEVER THE INPUT: true; the input reads as it did. -/
def fnExactNearWordsSpec : ChangeSpec := { name := "fnExactNearWords", fn := fun _ => fun
  | [d1, d2, d3] => { results := [.lit (.bool true)], args := [d1, d2, d3] }
  | _ => none }
def fnExactNearWordsRow : OpenClaim := { program := "ytpneflbnipefaac", sum := "fc5a8686ebf4ea09ce2fb60c319a4d2f8e5d103cef034cc633ddcf501c138958", func := "loop.example/g01243/laws.FnExactNearWords", spec := "fnExactNearWords", unfollowed := true, recurses := true, apart := false }
def FnExactNearWordsSaid : Prop := fnExactNearWordsRow.holds Try.pinned (OpenSpec.ofChange fnExactNearWordsSpec)

/-- ITS FALSE NEIGHBOUR: 'it returns false'. Refute it at one input. -/
def fnExactNearWordsWrong : ChangeSpec := { name := "fnExactNearWords", fn := fun _ => fun
  | [d1, d2, d3] => { results := [.lit (.bool false)], args := [d1, d2, d3] }
  | _ => none }
def FnExactNearWordsWrongFalsely : Prop := fnExactNearWordsRow.holds Try.pinned (OpenSpec.ofChange fnExactNearWordsWrong)

/- THE SECOND FORM. 'bulk': how many values and letters a reading holds, each counted each time it is reached (what is shared counts as often as it is met; a slice's spare places count too). A statement '..UptoSaid' is the law's where the arguments, and the package variables that the reading takes, are together of bulk at most 1048576: NARROWER than '..Said'. Prove '..Said' where nothing that the law and all that it calls make is longer than what came in: it says more and counts as full. Else prove '..UptoSaid'. A law counts once. -/
mutual
def uptoBulk {H : Type} : DataW H → Nat
  | .lit (.string bytes) => bytes.length + 1
  | .lit _ => 1
  | .nil => 1
  | .ptr d => uptoBulk d + 1
  | .slice elems spare => uptoBulkAll elems + uptoBulkAll spare + 1
  | .agg parts => uptoBulkAll parts + 1
  | .iface _ d => uptoBulk d + 1
  | .map entries => uptoBulkEntries entries + 1
  | .held _ => 1
def uptoBulkAll {H : Type} : List (DataW H) → Nat
  | [] => 0
  | d :: r => uptoBulk d + uptoBulkAll r
def uptoBulkEntries {H : Type} : List (Lit × DataW H) → Nat
  | [] => 0
  | x :: r => uptoBulkEntry x + uptoBulkEntries r
def uptoBulkEntry {H : Type} : Lit × DataW H → Nat
  | (.string bytes, d) => bytes.length + uptoBulk d + 1
  | (_, d) => uptoBulk d + 1
 end
def uptoSmall : (H : Type) → List (DataW H) → Bool := fun _ ds => decide (uptoBulkAll ds ≤ 1048576)
def OpenSpec.upto (s : _root_.Go.ChangeSpec) : _root_.Go.OpenSpec := { _root_.Go.OpenSpec.ofChange s with cond := some uptoSmall }

/-- 'laws.FnExactMeetTries', WHERE WHAT IT READS IS OF BULK AT MOST 1048576: true; the input reads as it did. -/
def fnExactMeetTriesUptoRow : OpenClaim := { program := "ytpneflbnipefaac", sum := "fc5a8686ebf4ea09ce2fb60c319a4d2f8e5d103cef034cc633ddcf501c138958", func := "loop.example/g01243/laws.FnExactMeetTries", spec := "fnExactMeetTries", unfollowed := true, recurses := true, apart := false, narrowed := true }
def FnExactMeetTriesUptoSaid : Prop := fnExactMeetTriesUptoRow.holds Try.pinned (OpenSpec.upto fnExactMeetTriesSpec)

/-- 'laws.FnExactWithoutTrie', WHERE WHAT IT READS IS OF BULK AT MOST 1048576: true; the input reads as it did. -/
def fnExactWithoutTrieUptoRow : OpenClaim := { program := "ytpneflbnipefaac", sum := "fc5a8686ebf4ea09ce2fb60c319a4d2f8e5d103cef034cc633ddcf501c138958", func := "loop.example/g01243/laws.FnExactWithoutTrie", spec := "fnExactWithoutTrie", unfollowed := true, recurses := true, apart := false, narrowed := true }
def FnExactWithoutTrieUptoSaid : Prop := fnExactWithoutTrieUptoRow.holds Try.pinned (OpenSpec.upto fnExactWithoutTrieSpec)

/-- 'laws.FnExactIsPartTrie', WHERE WHAT IT READS IS OF BULK AT MOST 1048576: true; the input reads as it did. -/
def fnExactIsPartTrieUptoRow : OpenClaim := { program := "ytpneflbnipefaac", sum := "fc5a8686ebf4ea09ce2fb60c319a4d2f8e5d103cef034cc633ddcf501c138958", func := "loop.example/g01243/laws.FnExactIsPartTrie", spec := "fnExactIsPartTrie", unfollowed := true, recurses := true, apart := false, narrowed := true }
def FnExactIsPartTrieUptoSaid : Prop := fnExactIsPartTrieUptoRow.holds Try.pinned (OpenSpec.upto fnExactIsPartTrieSpec)

/-- 'laws.FnExactDifferTries', WHERE WHAT IT READS IS OF BULK AT MOST 1048576: true; the input reads as it did. -/
def fnExactDifferTriesUptoRow : OpenClaim := { program := "ytpneflbnipefaac", sum := "fc5a8686ebf4ea09ce2fb60c319a4d2f8e5d103cef034cc633ddcf501c138958", func := "loop.example/g01243/laws.FnExactDifferTries", spec := "fnExactDifferTries", unfollowed := true, recurses := true, apart := false, narrowed := true }
def FnExactDifferTriesUptoSaid : Prop := fnExactDifferTriesUptoRow.holds Try.pinned (OpenSpec.upto fnExactDifferTriesSpec)

/-- 'laws.FnExactTimesTrie', WHERE WHAT IT READS IS OF BULK AT MOST 1048576: true; the input reads as it did. -/
def fnExactTimesTrieUptoRow : OpenClaim := { program := "ytpneflbnipefaac", sum := "fc5a8686ebf4ea09ce2fb60c319a4d2f8e5d103cef034cc633ddcf501c138958", func := "loop.example/g01243/laws.FnExactTimesTrie", spec := "fnExactTimesTrie", unfollowed := true, recurses := true, apart := false, narrowed := true }
def FnExactTimesTrieUptoSaid : Prop := fnExactTimesTrieUptoRow.holds Try.pinned (OpenSpec.upto fnExactTimesTrieSpec)

/-- 'laws.FnExactNearWords', WHERE WHAT IT READS IS OF BULK AT MOST 1048576: true; the input reads as it did. -/
def fnExactNearWordsUptoRow : OpenClaim := { program := "ytpneflbnipefaac", sum := "fc5a8686ebf4ea09ce2fb60c319a4d2f8e5d103cef034cc633ddcf501c138958", func := "loop.example/g01243/laws.FnExactNearWords", spec := "fnExactNearWords", unfollowed := true, recurses := true, apart := false, narrowed := true }
def FnExactNearWordsUptoSaid : Prop := fnExactNearWordsUptoRow.holds Try.pinned (OpenSpec.upto fnExactNearWordsSpec)

end Rows
end Go.Proofs.Ytpneflbnipefaac
