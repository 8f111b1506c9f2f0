/-
  No cell of these rows narrows 'for every input' (looked for: loops, veiled, ifaces, maps, wideKeys, modest, calm, conditions, laid).
  DERIVED. THE GIVEN ROWS OF THIS SEAT. 6 by the template 'for every input the law returns true; each argument reads behind the call as it read before'; 0 by the template 'total and deterministic' (their statements: YtpneflbnipefaabTotals.lean).
  GIVEN WITH THE SEED: the statements are not yours to turn. If you find one false, say at which input.
  Laid BY PROGRAM, IN A SANDBOX (cutbox-rows.mjs): the forced cells as the released guide's own fill.sh prints them over the translation 719ea2256c49d9a2… (all of the seat's roots in one cut). By AI agents, Wed Nov 11 2026. No macro, syntax, notation, axiom, sorry.
-/
import Derived.Test.YtpneflbnipefaabChecked
import GoSem.Claim
import GoSem.ClaimJoined
import GoSem.ClaimMapViews
import Derived.JoinedTies
import Derived.KernelRfl
namespace Go.Proofs.Ytpneflbnipefaab
/- THE CELL 'sum', in the pinned program and in every row, IS THE sha256 OF THE DUMP (.gsa) THAT YtpneflbnipefaabProg.lean LOADS. Nothing in Lean hashes anything: it is a label: what it is worth is what the hold of that sum in a sandbox is worth. -/
noncomputable def Try.pinned : Pinned := { name := "ytpneflbnipefaab", sum := "719ea2256c49d9a2ff30401156da824ff34a12c5953b0669a08237c090620ab1", checked := Try.checked }
namespace Rows
def none {H : Type} : Left H := { results := [], args := [] }

/-- 'laws.FnExactAlikeWords': WHATEVER THE INPUT: true; the input reads as it did. -/
def fnExactAlikeWordsSpec : ChangeSpec := { name := "fnExactAlikeWords", fn := fun _ => fun
  | [d1, d2, d3] => { results := [.lit (.bool true)], args := [d1, d2, d3] }
  | _ => none }
def fnExactAlikeWordsRow : OpenClaim := { program := "ytpneflbnipefaab", sum := "719ea2256c49d9a2ff30401156da824ff34a12c5953b0669a08237c090620ab1", func := "loop.example/g01243/laws.FnExactAlikeWords", spec := "fnExactAlikeWords", unfollowed := true, recurses := true, apart := false }
def FnExactAlikeWordsSaid : Prop := fnExactAlikeWordsRow.holds Try.pinned (OpenSpec.ofChange fnExactAlikeWordsSpec)

/-- ITS FALSE NEIGHBOUR: 'it returns false'. Refute it at one input. -/
def fnExactAlikeWordsWrong : ChangeSpec := { name := "fnExactAlikeWords", fn := fun _ => fun
  | [d1, d2, d3] => { results := [.lit (.bool false)], args := [d1, d2, d3] }
  | _ => none }
def FnExactAlikeWordsWrongFalsely : Prop := fnExactAlikeWordsRow.holds Try.pinned (OpenSpec.ofChange fnExactAlikeWordsWrong)

/-- 'laws.FnExactFittingWords': WHATEVER THE INPUT: true; the input reads as it did. -/
def fnExactFittingWordsSpec : ChangeSpec := { name := "fnExactFittingWords", fn := fun _ => fun
  | [d1, d2] => { results := [.lit (.bool true)], args := [d1, d2] }
  | _ => none }
def fnExactFittingWordsRow : OpenClaim := { program := "ytpneflbnipefaab", sum := "719ea2256c49d9a2ff30401156da824ff34a12c5953b0669a08237c090620ab1", func := "loop.example/g01243/laws.FnExactFittingWords", spec := "fnExactFittingWords", unfollowed := true, recurses := true, apart := false }
def FnExactFittingWordsSaid : Prop := fnExactFittingWordsRow.holds Try.pinned (OpenSpec.ofChange fnExactFittingWordsSpec)

/-- ITS FALSE NEIGHBOUR: 'it returns false'. Refute it at one input. -/
def fnExactFittingWordsWrong : ChangeSpec := { name := "fnExactFittingWords", fn := fun _ => fun
  | [d1, d2] => { results := [.lit (.bool false)], args := [d1, d2] }
  | _ => none }
def FnExactFittingWordsWrongFalsely : Prop := fnExactFittingWordsRow.holds Try.pinned (OpenSpec.ofChange fnExactFittingWordsWrong)

/-- 'laws.FnExactNeighborPairs': WHATEVER THE INPUT: true; the input reads as it did. -/
def fnExactNeighborPairsSpec : ChangeSpec := { name := "fnExactNeighborPairs", fn := fun _ => fun
  | [d] => { results := [.lit (.bool true)], args := [d] }
  | _ => none }
def fnExactNeighborPairsRow : OpenClaim := { program := "ytpneflbnipefaab", sum := "719ea2256c49d9a2ff30401156da824ff34a12c5953b0669a08237c090620ab1", func := "loop.example/g01243/laws.FnExactNeighborPairs", spec := "fnExactNeighborPairs", apart := false }
def FnExactNeighborPairsSaid : Prop := fnExactNeighborPairsRow.holds Try.pinned (OpenSpec.ofChange fnExactNeighborPairsSpec)

/-- ITS FALSE NEIGHBOUR: 'it returns false'. Refute it at one input. -/
def fnExactNeighborPairsWrong : ChangeSpec := { name := "fnExactNeighborPairs", fn := fun _ => fun
  | [d] => { results := [.lit (.bool false)], args := [d] }
  | _ => none }
def FnExactNeighborPairsWrongFalsely : Prop := fnExactNeighborPairsRow.holds Try.pinned (OpenSpec.ofChange fnExactNeighborPairsWrong)

/-- 'laws.FnExactFirstWords': WHATEVER THE INPUT: true; the input reads as it did. -/
def fnExactFirstWordsSpec : ChangeSpec := { name := "fnExactFirstWords", fn := fun _ => fun
  | [d] => { results := [.lit (.bool true)], args := [d] }
  | _ => none }
def fnExactFirstWordsRow : OpenClaim := { program := "ytpneflbnipefaab", sum := "719ea2256c49d9a2ff30401156da824ff34a12c5953b0669a08237c090620ab1", func := "loop.example/g01243/laws.FnExactFirstWords", spec := "fnExactFirstWords", unfollowed := true, recurses := true, apart := false }
def FnExactFirstWordsSaid : Prop := fnExactFirstWordsRow.holds Try.pinned (OpenSpec.ofChange fnExactFirstWordsSpec)

/-- ITS FALSE NEIGHBOUR: 'it returns false'. Refute it at one input. -/
def fnExactFirstWordsWrong : ChangeSpec := { name := "fnExactFirstWords", fn := fun _ => fun
  | [d] => { results := [.lit (.bool false)], args := [d] }
  | _ => none }
def FnExactFirstWordsWrongFalsely : Prop := fnExactFirstWordsRow.holds Try.pinned (OpenSpec.ofChange fnExactFirstWordsWrong)

/-- 'laws.FnExactLastWords': WHATEVER THE INPUT: true; the input reads as it did. -/
def fnExactLastWordsSpec : ChangeSpec := { name := "fnExactLastWords", fn := fun _ => fun
  | [d] => { results := [.lit (.bool true)], args := [d] }
  | _ => none }
def fnExactLastWordsRow : OpenClaim := { program := "ytpneflbnipefaab", sum := "719ea2256c49d9a2ff30401156da824ff34a12c5953b0669a08237c090620ab1", func := "loop.example/g01243/laws.FnExactLastWords", spec := "fnExactLastWords", unfollowed := true, recurses := true, apart := false }
def FnExactLastWordsSaid : Prop := fnExactLastWordsRow.holds Try.pinned (OpenSpec.ofChange fnExactLastWordsSpec)

/-- ITS FALSE NEIGHBOUR: 'it returns false'. Refute it at one input. -/
def fnExactLastWordsWrong : ChangeSpec := { name := "fnExactLastWords", fn := fun _ => fun
  | [d] => { results := [.lit (.bool false)], args := [d] }
  | _ => none }
def FnExactLastWordsWrongFalsely : Prop := fnExactLastWordsRow.holds Try.pinned (OpenSpec.ofChange fnExactLastWordsWrong)

/-- 'laws.FnExactEditsOf': WHATEVER THE INPUT: true; the input reads as it did. -/
def fnExactEditsOfSpec : ChangeSpec := { name := "fnExactEditsOf", fn := fun _ => fun
  | [d] => { results := [.lit (.bool true)], args := [d] }
  | _ => none }
def fnExactEditsOfRow : OpenClaim := { program := "ytpneflbnipefaab", sum := "719ea2256c49d9a2ff30401156da824ff34a12c5953b0669a08237c090620ab1", func := "loop.example/g01243/laws.FnExactEditsOf", spec := "fnExactEditsOf", recurses := true, apart := false }
def FnExactEditsOfSaid : Prop := fnExactEditsOfRow.holds Try.pinned (OpenSpec.ofChange fnExactEditsOfSpec)

/-- ITS FALSE NEIGHBOUR: 'it returns false'. Refute it at one input. -/
def fnExactEditsOfWrong : ChangeSpec := { name := "fnExactEditsOf", fn := fun _ => fun
  | [d] => { results := [.lit (.bool false)], args := [d] }
  | _ => none }
def FnExactEditsOfWrongFalsely : Prop := fnExactEditsOfRow.holds Try.pinned (OpenSpec.ofChange fnExactEditsOfWrong)

/- THE SECOND FORM. 'bulk': how many values and letters a reading holds, each counted each time it is reached (what is shared counts as often as it is met; a slice's spare places count too). A statement '..UptoSaid' is the law's where the arguments, and the package variables that the reading takes, are together of bulk at most 1048576: NARROWER than '..Said'. Prove '..Said' where nothing that the law and all that it calls make is longer than what came in: it says more and counts as full. Else prove '..UptoSaid'. A law counts once. -/
mutual
def uptoBulk {H : Type} : DataW H → Nat
  | .lit (.string bytes) => bytes.length + 1
  | .lit _ => 1
  | .nil => 1
  | .ptr d => uptoBulk d + 1
  | .slice elems spare => uptoBulkAll elems + uptoBulkAll spare + 1
  | .agg parts => uptoBulkAll parts + 1
  | .iface _ d => uptoBulk d + 1
  | .map entries => uptoBulkEntries entries + 1
  | .held _ => 1
def uptoBulkAll {H : Type} : List (DataW H) → Nat
  | [] => 0
  | d :: r => uptoBulk d + uptoBulkAll r
def uptoBulkEntries {H : Type} : List (Lit × DataW H) → Nat
  | [] => 0
  | x :: r => uptoBulkEntry x + uptoBulkEntries r
def uptoBulkEntry {H : Type} : Lit × DataW H → Nat
  | (.string bytes, d) => bytes.length + uptoBulk d + 1
  | (_, d) => uptoBulk d + 1
 end
def uptoSmall : (H : Type) → List (DataW H) → Bool := fun _ ds => decide (uptoBulkAll ds ≤ 1048576)
def OpenSpec.upto (s : _root_.Go.ChangeSpec) : _root_.Go.OpenSpec := { _root_.Go.OpenSpec.ofChange s with cond := some uptoSmall }

/-- 'laws.FnExactAlikeWords', WHERE WHAT IT READS IS OF BULK AT MOST 1048576: true; the input reads as it did. -/
def fnExactAlikeWordsUptoRow : OpenClaim := { program := "ytpneflbnipefaab", sum := "719ea2256c49d9a2ff30401156da824ff34a12c5953b0669a08237c090620ab1", func := "loop.example/g01243/laws.FnExactAlikeWords", spec := "fnExactAlikeWords", unfollowed := true, recurses := true, apart := false, narrowed := true }
def FnExactAlikeWordsUptoSaid : Prop := fnExactAlikeWordsUptoRow.holds Try.pinned (OpenSpec.upto fnExactAlikeWordsSpec)

/-- 'laws.FnExactFittingWords', WHERE WHAT IT READS IS OF BULK AT MOST 1048576: true; the input reads as it did. -/
def fnExactFittingWordsUptoRow : OpenClaim := { program := "ytpneflbnipefaab", sum := "719ea2256c49d9a2ff30401156da824ff34a12c5953b0669a08237c090620ab1", func := "loop.example/g01243/laws.FnExactFittingWords", spec := "fnExactFittingWords", unfollowed := true, recurses := true, apart := false, narrowed := true }
def FnExactFittingWordsUptoSaid : Prop := fnExactFittingWordsUptoRow.holds Try.pinned (OpenSpec.upto fnExactFittingWordsSpec)

/-- 'laws.FnExactNeighborPairs', WHERE WHAT IT READS IS OF BULK AT MOST 1048576: true; the input reads as it did. -/
def fnExactNeighborPairsUptoRow : OpenClaim := { program := "ytpneflbnipefaab", sum := "719ea2256c49d9a2ff30401156da824ff34a12c5953b0669a08237c090620ab1", func := "loop.example/g01243/laws.FnExactNeighborPairs", spec := "fnExactNeighborPairs", apart := false, narrowed := true }
def FnExactNeighborPairsUptoSaid : Prop := fnExactNeighborPairsUptoRow.holds Try.pinned (OpenSpec.upto fnExactNeighborPairsSpec)

/-- 'laws.FnExactFirstWords', WHERE WHAT IT READS IS OF BULK AT MOST 1048576: true; the input reads as it did. -/
def fnExactFirstWordsUptoRow : OpenClaim := { program := "ytpneflbnipefaab", sum := "719ea2256c49d9a2ff30401156da824ff34a12c5953b0669a08237c090620ab1", func := "loop.example/g01243/laws.FnExactFirstWords", spec := "fnExactFirstWords", unfollowed := true, recurses := true, apart := false, narrowed := true }
def FnExactFirstWordsUptoSaid : Prop := fnExactFirstWordsUptoRow.holds Try.pinned (OpenSpec.upto fnExactFirstWordsSpec)

/-- 'laws.FnExactLastWords', WHERE WHAT IT READS IS OF BULK AT MOST 1048576: true; the input reads as it did. -/
def fnExactLastWordsUptoRow : OpenClaim := { program := "ytpneflbnipefaab", sum := "719ea2256c49d9a2ff30401156da824ff34a12c5953b0669a08237c090620ab1", func := "loop.example/g01243/laws.FnExactLastWords", spec := "fnExactLastWords", unfollowed := true, recurses := true, apart := false, narrowed := true }
def FnExactLastWordsUptoSaid : Prop := fnExactLastWordsUptoRow.holds Try.pinned (OpenSpec.upto fnExactLastWordsSpec)

/-- 'laws.FnExactEditsOf', WHERE WHAT IT READS IS OF BULK AT MOST 1048576: true; the input reads as it did. -/
def fnExactEditsOfUptoRow : OpenClaim := { program := "ytpneflbnipefaab", sum := "719ea2256c49d9a2ff30401156da824ff34a12c5953b0669a08237c090620ab1", func := "loop.example/g01243/laws.FnExactEditsOf", spec := "fnExactEditsOf", recurses := true, apart := false, narrowed := true }
def FnExactEditsOfUptoSaid : Prop := fnExactEditsOfUptoRow.holds Try.pinned (OpenSpec.upto fnExactEditsOfSpec)

end Rows
end Go.Proofs.Ytpneflbnipefaab
