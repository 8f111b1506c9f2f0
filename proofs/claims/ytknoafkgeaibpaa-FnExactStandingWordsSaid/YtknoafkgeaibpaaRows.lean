/-
  No cell of these rows narrows 'for every input' (looked for: loops, veiled, ifaces, maps, wideKeys, modest, calm, conditions, laid).
  DERIVED. THE GIVEN ROWS OF THIS SEAT. 6 by the template 'for every input the law returns true; each argument reads behind the call as it read before'; 0 by the template 'total and deterministic' (their statements: YtknoafkgeaibpaaTotals.lean).
  GIVEN WITH THE SEED: the statements are not yours to turn. If you find one false, say at which input.
  Laid BY PROGRAM, IN A SANDBOX (cutbox-rows.mjs): the forced cells as the released guide's own fill.sh prints them over the translation 3fbad7bf5ace5167… (all of the seat's roots in one cut). By AI agents, Wed Nov 11 2026. No macro, syntax, notation, axiom, sorry.
-/
import Derived.Test.YtknoafkgeaibpaaChecked
import GoSem.Claim
import GoSem.ClaimJoined
import GoSem.ClaimMapViews
import Derived.JoinedTies
import Derived.KernelRfl
namespace Go.Proofs.Ytknoafkgeaibpaa
/- THE CELL 'sum', in the pinned program and in every row, IS THE sha256 OF THE DUMP (.gsa) THAT YtknoafkgeaibpaaProg.lean LOADS. Nothing in Lean hashes anything: it is a label: what it is worth is what the hold of that sum in a sandbox is worth. -/
noncomputable def Try.pinned : Pinned := { name := "ytknoafkgeaibpaa", sum := "3fbad7bf5ace51679ddca349d1aebc18ee35e4e425ec71da1e8508d9645c15fe", checked := Try.checked }
namespace Rows
def none {H : Type} : Left H := { results := [], args := [] }

/-- 'laws.FnExactLongestMatch': WHATEVER THE INPUT: true; the input reads as it did. -/
def fnExactLongestMatchSpec : ChangeSpec := { name := "fnExactLongestMatch", fn := fun _ => fun
  | [d1, d2] => { results := [.lit (.bool true)], args := [d1, d2] }
  | _ => none }
def fnExactLongestMatchRow : OpenClaim := { program := "ytknoafkgeaibpaa", sum := "3fbad7bf5ace51679ddca349d1aebc18ee35e4e425ec71da1e8508d9645c15fe", func := "loop.example/g01243/laws.FnExactLongestMatch", spec := "fnExactLongestMatch", apart := false }
def FnExactLongestMatchSaid : Prop := fnExactLongestMatchRow.holds Try.pinned (OpenSpec.ofChange fnExactLongestMatchSpec)

/-- ITS FALSE NEIGHBOUR: 'it returns false'. Refute it at one input. -/
def fnExactLongestMatchWrong : ChangeSpec := { name := "fnExactLongestMatch", fn := fun _ => fun
  | [d1, d2] => { results := [.lit (.bool false)], args := [d1, d2] }
  | _ => none }
def FnExactLongestMatchWrongFalsely : Prop := fnExactLongestMatchRow.holds Try.pinned (OpenSpec.ofChange fnExactLongestMatchWrong)

/-- 'laws.FnExactMatchesAt': WHATEVER THE INPUT: true; the input reads as it did. -/
def fnExactMatchesAtSpec : ChangeSpec := { name := "fnExactMatchesAt", fn := fun _ => fun
  | [d1, d2, d3] => { results := [.lit (.bool true)], args := [d1, d2, d3] }
  | _ => none }
def fnExactMatchesAtRow : OpenClaim := { program := "ytknoafkgeaibpaa", sum := "3fbad7bf5ace51679ddca349d1aebc18ee35e4e425ec71da1e8508d9645c15fe", func := "loop.example/g01243/laws.FnExactMatchesAt", spec := "fnExactMatchesAt", apart := false }
def FnExactMatchesAtSaid : Prop := fnExactMatchesAtRow.holds Try.pinned (OpenSpec.ofChange fnExactMatchesAtSpec)

/-- ITS FALSE NEIGHBOUR: 'it returns false'. Refute it at one input. -/
def fnExactMatchesAtWrong : ChangeSpec := { name := "fnExactMatchesAt", fn := fun _ => fun
  | [d1, d2, d3] => { results := [.lit (.bool false)], args := [d1, d2, d3] }
  | _ => none }
def FnExactMatchesAtWrongFalsely : Prop := fnExactMatchesAtRow.holds Try.pinned (OpenSpec.ofChange fnExactMatchesAtWrong)

/-- 'laws.FnExactStandingWords': WHATEVER THE INPUT: true; the input reads as it did. -/
def fnExactStandingWordsSpec : ChangeSpec := { name := "fnExactStandingWords", fn := fun _ => fun
  | [d1, d2] => { results := [.lit (.bool true)], args := [d1, d2] }
  | _ => none }
def fnExactStandingWordsRow : OpenClaim := { program := "ytknoafkgeaibpaa", sum := "3fbad7bf5ace51679ddca349d1aebc18ee35e4e425ec71da1e8508d9645c15fe", func := "loop.example/g01243/laws.FnExactStandingWords", spec := "fnExactStandingWords", apart := false }
def FnExactStandingWordsSaid : Prop := fnExactStandingWordsRow.holds Try.pinned (OpenSpec.ofChange fnExactStandingWordsSpec)

/-- ITS FALSE NEIGHBOUR: 'it returns false'. Refute it at one input. -/
def fnExactStandingWordsWrong : ChangeSpec := { name := "fnExactStandingWords", fn := fun _ => fun
  | [d1, d2] => { results := [.lit (.bool false)], args := [d1, d2] }
  | _ => none }
def FnExactStandingWordsWrongFalsely : Prop := fnExactStandingWordsRow.holds Try.pinned (OpenSpec.ofChange fnExactStandingWordsWrong)

/-- 'laws.FnExactUniquePrefix': WHATEVER THE INPUT: true; the input reads as it did. -/
def fnExactUniquePrefixSpec : ChangeSpec := { name := "fnExactUniquePrefix", fn := fun _ => fun
  | [d1, d2] => { results := [.lit (.bool true)], args := [d1, d2] }
  | _ => none }
def fnExactUniquePrefixRow : OpenClaim := { program := "ytknoafkgeaibpaa", sum := "3fbad7bf5ace51679ddca349d1aebc18ee35e4e425ec71da1e8508d9645c15fe", func := "loop.example/g01243/laws.FnExactUniquePrefix", spec := "fnExactUniquePrefix", apart := false }
def FnExactUniquePrefixSaid : Prop := fnExactUniquePrefixRow.holds Try.pinned (OpenSpec.ofChange fnExactUniquePrefixSpec)

/-- ITS FALSE NEIGHBOUR: 'it returns false'. Refute it at one input. -/
def fnExactUniquePrefixWrong : ChangeSpec := { name := "fnExactUniquePrefix", fn := fun _ => fun
  | [d1, d2] => { results := [.lit (.bool false)], args := [d1, d2] }
  | _ => none }
def FnExactUniquePrefixWrongFalsely : Prop := fnExactUniquePrefixRow.holds Try.pinned (OpenSpec.ofChange fnExactUniquePrefixWrong)

/-- 'laws.FnExactSharedPrefix': WHATEVER THE INPUT: true; the input reads as it did. -/
def fnExactSharedPrefixSpec : ChangeSpec := { name := "fnExactSharedPrefix", fn := fun _ => fun
  | [d] => { results := [.lit (.bool true)], args := [d] }
  | _ => none }
def fnExactSharedPrefixRow : OpenClaim := { program := "ytknoafkgeaibpaa", sum := "3fbad7bf5ace51679ddca349d1aebc18ee35e4e425ec71da1e8508d9645c15fe", func := "loop.example/g01243/laws.FnExactSharedPrefix", spec := "fnExactSharedPrefix", apart := false }
def FnExactSharedPrefixSaid : Prop := fnExactSharedPrefixRow.holds Try.pinned (OpenSpec.ofChange fnExactSharedPrefixSpec)

/-- ITS FALSE NEIGHBOUR: 'it returns false'. Refute it at one input. -/
def fnExactSharedPrefixWrong : ChangeSpec := { name := "fnExactSharedPrefix", fn := fun _ => fun
  | [d] => { results := [.lit (.bool false)], args := [d] }
  | _ => none }
def FnExactSharedPrefixWrongFalsely : Prop := fnExactSharedPrefixRow.holds Try.pinned (OpenSpec.ofChange fnExactSharedPrefixWrong)

/-- 'laws.FnExactWordsUnder': WHATEVER THE INPUT: true; the input reads as it did. -/
def fnExactWordsUnderSpec : ChangeSpec := { name := "fnExactWordsUnder", fn := fun _ => fun
  | [d1, d2] => { results := [.lit (.bool true)], args := [d1, d2] }
  | _ => none }
def fnExactWordsUnderRow : OpenClaim := { program := "ytknoafkgeaibpaa", sum := "3fbad7bf5ace51679ddca349d1aebc18ee35e4e425ec71da1e8508d9645c15fe", func := "loop.example/g01243/laws.FnExactWordsUnder", spec := "fnExactWordsUnder", apart := false }
def FnExactWordsUnderSaid : Prop := fnExactWordsUnderRow.holds Try.pinned (OpenSpec.ofChange fnExactWordsUnderSpec)

/-- ITS FALSE NEIGHBOUR: 'it returns false'. Refute it at one input. -/
def fnExactWordsUnderWrong : ChangeSpec := { name := "fnExactWordsUnder", fn := fun _ => fun
  | [d1, d2] => { results := [.lit (.bool false)], args := [d1, d2] }
  | _ => none }
def FnExactWordsUnderWrongFalsely : Prop := fnExactWordsUnderRow.holds Try.pinned (OpenSpec.ofChange fnExactWordsUnderWrong)

/- THE SECOND FORM. 'bulk': how many values and letters a reading holds, each counted each time it is reached (what is shared counts as often as it is met; a slice's spare places count too). A statement '..UptoSaid' is the law's where the arguments, and the package variables that the reading takes, are together of bulk at most 1048576: NARROWER than '..Said'. Prove '..Said' where nothing that the law and all that it calls make is longer than what came in: it says more and counts as full. Else prove '..UptoSaid'. A law counts once. -/
mutual
def uptoBulk {H : Type} : DataW H → Nat
  | .lit (.string bytes) => bytes.length + 1
  | .lit _ => 1
  | .nil => 1
  | .ptr d => uptoBulk d + 1
  | .slice elems spare => uptoBulkAll elems + uptoBulkAll spare + 1
  | .agg parts => uptoBulkAll parts + 1
  | .iface _ d => uptoBulk d + 1
  | .map entries => uptoBulkEntries entries + 1
  | .held _ => 1
def uptoBulkAll {H : Type} : List (DataW H) → Nat
  | [] => 0
  | d :: r => uptoBulk d + uptoBulkAll r
def uptoBulkEntries {H : Type} : List (Lit × DataW H) → Nat
  | [] => 0
  | x :: r => uptoBulkEntry x + uptoBulkEntries r
def uptoBulkEntry {H : Type} : Lit × DataW H → Nat
  | (.string bytes, d) => bytes.length + uptoBulk d + 1
  | (_, d) => uptoBulk d + 1
 end
def uptoSmall : (H : Type) → List (DataW H) → Bool := fun _ ds => decide (uptoBulkAll ds ≤ 1048576)
def OpenSpec.upto (s : _root_.Go.ChangeSpec) : _root_.Go.OpenSpec := { _root_.Go.OpenSpec.ofChange s with cond := some uptoSmall }

/-- 'laws.FnExactLongestMatch', WHERE WHAT IT READS IS OF BULK AT MOST 1048576: true; the input reads as it did. -/
def fnExactLongestMatchUptoRow : OpenClaim := { program := "ytknoafkgeaibpaa", sum := "3fbad7bf5ace51679ddca349d1aebc18ee35e4e425ec71da1e8508d9645c15fe", func := "loop.example/g01243/laws.FnExactLongestMatch", spec := "fnExactLongestMatch", apart := false, narrowed := true }
def FnExactLongestMatchUptoSaid : Prop := fnExactLongestMatchUptoRow.holds Try.pinned (OpenSpec.upto fnExactLongestMatchSpec)

/-- 'laws.FnExactMatchesAt', WHERE WHAT IT READS IS OF BULK AT MOST 1048576: true; the input reads as it did. -/
def fnExactMatchesAtUptoRow : OpenClaim := { program := "ytknoafkgeaibpaa", sum := "3fbad7bf5ace51679ddca349d1aebc18ee35e4e425ec71da1e8508d9645c15fe", func := "loop.example/g01243/laws.FnExactMatchesAt", spec := "fnExactMatchesAt", apart := false, narrowed := true }
def FnExactMatchesAtUptoSaid : Prop := fnExactMatchesAtUptoRow.holds Try.pinned (OpenSpec.upto fnExactMatchesAtSpec)

/-- 'laws.FnExactStandingWords', WHERE WHAT IT READS IS OF BULK AT MOST 1048576: true; the input reads as it did. -/
def fnExactStandingWordsUptoRow : OpenClaim := { program := "ytknoafkgeaibpaa", sum := "3fbad7bf5ace51679ddca349d1aebc18ee35e4e425ec71da1e8508d9645c15fe", func := "loop.example/g01243/laws.FnExactStandingWords", spec := "fnExactStandingWords", apart := false, narrowed := true }
def FnExactStandingWordsUptoSaid : Prop := fnExactStandingWordsUptoRow.holds Try.pinned (OpenSpec.upto fnExactStandingWordsSpec)

/-- 'laws.FnExactUniquePrefix', WHERE WHAT IT READS IS OF BULK AT MOST 1048576: true; the input reads as it did. -/
def fnExactUniquePrefixUptoRow : OpenClaim := { program := "ytknoafkgeaibpaa", sum := "3fbad7bf5ace51679ddca349d1aebc18ee35e4e425ec71da1e8508d9645c15fe", func := "loop.example/g01243/laws.FnExactUniquePrefix", spec := "fnExactUniquePrefix", apart := false, narrowed := true }
def FnExactUniquePrefixUptoSaid : Prop := fnExactUniquePrefixUptoRow.holds Try.pinned (OpenSpec.upto fnExactUniquePrefixSpec)

/-- 'laws.FnExactSharedPrefix', WHERE WHAT IT READS IS OF BULK AT MOST 1048576: true; the input reads as it did. -/
def fnExactSharedPrefixUptoRow : OpenClaim := { program := "ytknoafkgeaibpaa", sum := "3fbad7bf5ace51679ddca349d1aebc18ee35e4e425ec71da1e8508d9645c15fe", func := "loop.example/g01243/laws.FnExactSharedPrefix", spec := "fnExactSharedPrefix", apart := false, narrowed := true }
def FnExactSharedPrefixUptoSaid : Prop := fnExactSharedPrefixUptoRow.holds Try.pinned (OpenSpec.upto fnExactSharedPrefixSpec)

/-- 'laws.FnExactWordsUnder', WHERE WHAT IT READS IS OF BULK AT MOST 1048576: true; the input reads as it did. -/
def fnExactWordsUnderUptoRow : OpenClaim := { program := "ytknoafkgeaibpaa", sum := "3fbad7bf5ace51679ddca349d1aebc18ee35e4e425ec71da1e8508d9645c15fe", func := "loop.example/g01243/laws.FnExactWordsUnder", spec := "fnExactWordsUnder", apart := false, narrowed := true }
def FnExactWordsUnderUptoSaid : Prop := fnExactWordsUnderUptoRow.holds Try.pinned (OpenSpec.upto fnExactWordsUnderSpec)

end Rows
end Go.Proofs.Ytknoafkgeaibpaa
