/-
  No cell of these rows narrows 'for every input' (looked for: loops, veiled, ifaces, maps, wideKeys, modest, calm, conditions, laid).
  DERIVED. THE GIVEN ROWS OF THIS SEAT. 6 by the template 'for every input the law returns true; each argument reads behind the call as it read before'; 0 by the template 'total and deterministic' (their statements: YtoofpgehkihbcacTotals.lean).
  GIVEN WITH THE SEED: the statements are not yours to turn. If you find one false, say at which input.
  Laid BY PROGRAM, IN A SANDBOX (cutbox-rows.mjs): the forced cells as the released guide's own fill.sh prints them over the translation 9c18806a22c596e4… (all of the seat's roots in one cut). By AI agents, Wed Nov 11 2026. No macro, syntax, notation, axiom, sorry.
-/
import Derived.Test.YtoofpgehkihbcacChecked
import GoSem.Claim
import GoSem.ClaimJoined
import GoSem.ClaimMapViews
import Derived.JoinedTies
import Derived.KernelRfl
namespace Go.Proofs.Ytoofpgehkihbcac
/- THE CELL 'sum', in the pinned program and in every row, IS THE sha256 OF THE DUMP (.gsa) THAT YtoofpgehkihbcacProg.lean LOADS. Nothing in Lean hashes anything: it is a label: what it is worth is what the hold of that sum in a sandbox is worth. -/
noncomputable def Try.pinned : Pinned := { name := "ytoofpgehkihbcac", sum := "9c18806a22c596e44f4dbc4baf7b94f8a27e94afb5ff245cdfaa1c0de4a06bf5", checked := Try.checked }
namespace Rows
def none {H : Type} : Left H := { results := [], args := [] }

/-- 'laws.FnTries': WHATEVER THE INPUT: true; the input reads as it did. -/
def fnTriesSpec : ChangeSpec := { name := "fnTries", fn := fun _ => fun
  | [d] => { results := [.lit (.bool true)], args := [d] }
  | _ => none }
def fnTriesRow : OpenClaim := { program := "ytoofpgehkihbcac", sum := "9c18806a22c596e44f4dbc4baf7b94f8a27e94afb5ff245cdfaa1c0de4a06bf5", func := "loop.example/g01243/laws.FnTries", spec := "fnTries", recurses := true, apart := false }
def FnTriesSaid : Prop := fnTriesRow.holds Try.pinned (OpenSpec.ofChange fnTriesSpec)

/-- ITS FALSE NEIGHBOUR: 'it returns false'. Refute it at one input. -/
def fnTriesWrong : ChangeSpec := { name := "fnTries", fn := fun _ => fun
  | [d] => { results := [.lit (.bool false)], args := [d] }
  | _ => none }
def FnTriesWrongFalsely : Prop := fnTriesRow.holds Try.pinned (OpenSpec.ofChange fnTriesWrong)

/-- 'laws.FnNodes': WHATEVER THE INPUT: true; the input reads as it did. -/
def fnNodesSpec : ChangeSpec := { name := "fnNodes", fn := fun _ => fun
  | [d] => { results := [.lit (.bool true)], args := [d] }
  | _ => none }
def fnNodesRow : OpenClaim := { program := "ytoofpgehkihbcac", sum := "9c18806a22c596e44f4dbc4baf7b94f8a27e94afb5ff245cdfaa1c0de4a06bf5", func := "loop.example/g01243/laws.FnNodes", spec := "fnNodes", apart := false }
def FnNodesSaid : Prop := fnNodesRow.holds Try.pinned (OpenSpec.ofChange fnNodesSpec)

/-- ITS FALSE NEIGHBOUR: 'it returns false'. Refute it at one input. -/
def fnNodesWrong : ChangeSpec := { name := "fnNodes", fn := fun _ => fun
  | [d] => { results := [.lit (.bool false)], args := [d] }
  | _ => none }
def FnNodesWrongFalsely : Prop := fnNodesRow.holds Try.pinned (OpenSpec.ofChange fnNodesWrong)

/-- 'laws.FnExactBestSplit': WHATEVER THE INPUT: true; the input reads as it did. -/
def fnExactBestSplitSpec : ChangeSpec := { name := "fnExactBestSplit", fn := fun _ => fun
  | [d1, d2] => { results := [.lit (.bool true)], args := [d1, d2] }
  | _ => none }
def fnExactBestSplitRow : OpenClaim := { program := "ytoofpgehkihbcac", sum := "9c18806a22c596e44f4dbc4baf7b94f8a27e94afb5ff245cdfaa1c0de4a06bf5", func := "loop.example/g01243/laws.FnExactBestSplit", spec := "fnExactBestSplit", unfollowed := true, recurses := true, apart := false }
def FnExactBestSplitSaid : Prop := fnExactBestSplitRow.holds Try.pinned (OpenSpec.ofChange fnExactBestSplitSpec)

/-- ITS FALSE NEIGHBOUR: 'it returns false'. Refute it at one input. -/
def fnExactBestSplitWrong : ChangeSpec := { name := "fnExactBestSplit", fn := fun _ => fun
  | [d1, d2] => { results := [.lit (.bool false)], args := [d1, d2] }
  | _ => none }
def FnExactBestSplitWrongFalsely : Prop := fnExactBestSplitRow.holds Try.pinned (OpenSpec.ofChange fnExactBestSplitWrong)

/-- 'laws.FnExactFirstWords': WHATEVER THE INPUT: true; the input reads as it did. -/
def fnExactFirstWordsSpec : ChangeSpec := { name := "fnExactFirstWords", fn := fun _ => fun
  | [d] => { results := [.lit (.bool true)], args := [d] }
  | _ => none }
def fnExactFirstWordsRow : OpenClaim := { program := "ytoofpgehkihbcac", sum := "9c18806a22c596e44f4dbc4baf7b94f8a27e94afb5ff245cdfaa1c0de4a06bf5", func := "loop.example/g01243/laws.FnExactFirstWords", spec := "fnExactFirstWords", unfollowed := true, recurses := true, apart := false }
def FnExactFirstWordsSaid : Prop := fnExactFirstWordsRow.holds Try.pinned (OpenSpec.ofChange fnExactFirstWordsSpec)

/-- ITS FALSE NEIGHBOUR: 'it returns false'. Refute it at one input. -/
def fnExactFirstWordsWrong : ChangeSpec := { name := "fnExactFirstWords", fn := fun _ => fun
  | [d] => { results := [.lit (.bool false)], args := [d] }
  | _ => none }
def FnExactFirstWordsWrongFalsely : Prop := fnExactFirstWordsRow.holds Try.pinned (OpenSpec.ofChange fnExactFirstWordsWrong)

/-- 'laws.FnExactLastWords': WHATEVER THE INPUT: true; the input reads as it did. -/
def fnExactLastWordsSpec : ChangeSpec := { name := "fnExactLastWords", fn := fun _ => fun
  | [d] => { results := [.lit (.bool true)], args := [d] }
  | _ => none }
def fnExactLastWordsRow : OpenClaim := { program := "ytoofpgehkihbcac", sum := "9c18806a22c596e44f4dbc4baf7b94f8a27e94afb5ff245cdfaa1c0de4a06bf5", func := "loop.example/g01243/laws.FnExactLastWords", spec := "fnExactLastWords", unfollowed := true, recurses := true, apart := false }
def FnExactLastWordsSaid : Prop := fnExactLastWordsRow.holds Try.pinned (OpenSpec.ofChange fnExactLastWordsSpec)

/-- ITS FALSE NEIGHBOUR: 'it returns false'. Refute it at one input. -/
def fnExactLastWordsWrong : ChangeSpec := { name := "fnExactLastWords", fn := fun _ => fun
  | [d] => { results := [.lit (.bool false)], args := [d] }
  | _ => none }
def FnExactLastWordsWrongFalsely : Prop := fnExactLastWordsRow.holds Try.pinned (OpenSpec.ofChange fnExactLastWordsWrong)

/-- 'laws.FnExactIsFree': WHATEVER THE INPUT: true; the input reads as it did. -/
def fnExactIsFreeSpec : ChangeSpec := { name := "fnExactIsFree", fn := fun _ => fun
  | [d] => { results := [.lit (.bool true)], args := [d] }
  | _ => none }
def fnExactIsFreeRow : OpenClaim := { program := "ytoofpgehkihbcac", sum := "9c18806a22c596e44f4dbc4baf7b94f8a27e94afb5ff245cdfaa1c0de4a06bf5", func := "loop.example/g01243/laws.FnExactIsFree", spec := "fnExactIsFree", unfollowed := true, recurses := true, apart := false }
def FnExactIsFreeSaid : Prop := fnExactIsFreeRow.holds Try.pinned (OpenSpec.ofChange fnExactIsFreeSpec)

/-- ITS FALSE NEIGHBOUR: 'it returns false'. Refute it at one input. -/
def fnExactIsFreeWrong : ChangeSpec := { name := "fnExactIsFree", fn := fun _ => fun
  | [d] => { results := [.lit (.bool false)], args := [d] }
  | _ => none }
def FnExactIsFreeWrongFalsely : Prop := fnExactIsFreeRow.holds Try.pinned (OpenSpec.ofChange fnExactIsFreeWrong)

/- THE SECOND FORM. 'bulk': how many values and letters a reading holds, each counted each time it is reached (what is shared counts as often as it is met; a slice's spare places count too). A statement '..UptoSaid' is the law's where the arguments, and the package variables that the reading takes, are together of bulk at most 1048576: NARROWER than '..Said'. Prove '..Said' where nothing that the law and all that it calls make is longer than what came in: it says more and counts as full. Else prove '..UptoSaid'. A law counts once. -/
mutual
def uptoBulk {H : Type} : DataW H → Nat
  | .lit (.string bytes) => bytes.length + 1
  | .lit _ => 1
  | .nil => 1
  | .ptr d => uptoBulk d + 1
  | .slice elems spare => uptoBulkAll elems + uptoBulkAll spare + 1
  | .agg parts => uptoBulkAll parts + 1
  | .iface _ d => uptoBulk d + 1
  | .map entries => uptoBulkEntries entries + 1
  | .held _ => 1
def uptoBulkAll {H : Type} : List (DataW H) → Nat
  | [] => 0
  | d :: r => uptoBulk d + uptoBulkAll r
def uptoBulkEntries {H : Type} : List (Lit × DataW H) → Nat
  | [] => 0
  | x :: r => uptoBulkEntry x + uptoBulkEntries r
def uptoBulkEntry {H : Type} : Lit × DataW H → Nat
  | (.string bytes, d) => bytes.length + uptoBulk d + 1
  | (_, d) => uptoBulk d + 1
 end
def uptoSmall : (H : Type) → List (DataW H) → Bool := fun _ ds => decide (uptoBulkAll ds ≤ 1048576)
def OpenSpec.upto (s : _root_.Go.ChangeSpec) : _root_.Go.OpenSpec := { _root_.Go.OpenSpec.ofChange s with cond := some uptoSmall }

/-- 'laws.FnTries', WHERE WHAT IT READS IS OF BULK AT MOST 1048576: true; the input reads as it did. -/
def fnTriesUptoRow : OpenClaim := { program := "ytoofpgehkihbcac", sum := "9c18806a22c596e44f4dbc4baf7b94f8a27e94afb5ff245cdfaa1c0de4a06bf5", func := "loop.example/g01243/laws.FnTries", spec := "fnTries", recurses := true, apart := false, narrowed := true }
def FnTriesUptoSaid : Prop := fnTriesUptoRow.holds Try.pinned (OpenSpec.upto fnTriesSpec)

/-- 'laws.FnNodes', WHERE WHAT IT READS IS OF BULK AT MOST 1048576: true; the input reads as it did. -/
def fnNodesUptoRow : OpenClaim := { program := "ytoofpgehkihbcac", sum := "9c18806a22c596e44f4dbc4baf7b94f8a27e94afb5ff245cdfaa1c0de4a06bf5", func := "loop.example/g01243/laws.FnNodes", spec := "fnNodes", apart := false, narrowed := true }
def FnNodesUptoSaid : Prop := fnNodesUptoRow.holds Try.pinned (OpenSpec.upto fnNodesSpec)

/-- 'laws.FnExactBestSplit', WHERE WHAT IT READS IS OF BULK AT MOST 1048576: true; the input reads as it did. -/
def fnExactBestSplitUptoRow : OpenClaim := { program := "ytoofpgehkihbcac", sum := "9c18806a22c596e44f4dbc4baf7b94f8a27e94afb5ff245cdfaa1c0de4a06bf5", func := "loop.example/g01243/laws.FnExactBestSplit", spec := "fnExactBestSplit", unfollowed := true, recurses := true, apart := false, narrowed := true }
def FnExactBestSplitUptoSaid : Prop := fnExactBestSplitUptoRow.holds Try.pinned (OpenSpec.upto fnExactBestSplitSpec)

/-- 'laws.FnExactFirstWords', WHERE WHAT IT READS IS OF BULK AT MOST 1048576: true; the input reads as it did. -/
def fnExactFirstWordsUptoRow : OpenClaim := { program := "ytoofpgehkihbcac", sum := "9c18806a22c596e44f4dbc4baf7b94f8a27e94afb5ff245cdfaa1c0de4a06bf5", func := "loop.example/g01243/laws.FnExactFirstWords", spec := "fnExactFirstWords", unfollowed := true, recurses := true, apart := false, narrowed := true }
def FnExactFirstWordsUptoSaid : Prop := fnExactFirstWordsUptoRow.holds Try.pinned (OpenSpec.upto fnExactFirstWordsSpec)

/-- 'laws.FnExactLastWords', WHERE WHAT IT READS IS OF BULK AT MOST 1048576: true; the input reads as it did. -/
def fnExactLastWordsUptoRow : OpenClaim := { program := "ytoofpgehkihbcac", sum := "9c18806a22c596e44f4dbc4baf7b94f8a27e94afb5ff245cdfaa1c0de4a06bf5", func := "loop.example/g01243/laws.FnExactLastWords", spec := "fnExactLastWords", unfollowed := true, recurses := true, apart := false, narrowed := true }
def FnExactLastWordsUptoSaid : Prop := fnExactLastWordsUptoRow.holds Try.pinned (OpenSpec.upto fnExactLastWordsSpec)

/-- 'laws.FnExactIsFree', WHERE WHAT IT READS IS OF BULK AT MOST 1048576: true; the input reads as it did. -/
def fnExactIsFreeUptoRow : OpenClaim := { program := "ytoofpgehkihbcac", sum := "9c18806a22c596e44f4dbc4baf7b94f8a27e94afb5ff245cdfaa1c0de4a06bf5", func := "loop.example/g01243/laws.FnExactIsFree", spec := "fnExactIsFree", unfollowed := true, recurses := true, apart := false, narrowed := true }
def FnExactIsFreeUptoSaid : Prop := fnExactIsFreeUptoRow.holds Try.pinned (OpenSpec.upto fnExactIsFreeSpec)

end Rows
end Go.Proofs.Ytoofpgehkihbcac
