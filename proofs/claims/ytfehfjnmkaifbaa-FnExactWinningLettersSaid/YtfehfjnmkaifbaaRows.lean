/-
  No cell of these rows narrows 'for every input' (looked for: loops, veiled, ifaces, maps, wideKeys, modest, calm, conditions, laid).
  DERIVED. THE GIVEN ROWS OF THIS SEAT. 6 by the template 'for every input the law returns true; each argument reads behind the call as it read before'; 0 by the template 'total and deterministic' (their statements: YtfehfjnmkaifbaaTotals.lean).
  GIVEN WITH THE SEED: the statements are not yours to turn. If you find one false, say at which input.
  Laid BY PROGRAM, IN A SANDBOX (cutbox-rows.mjs): the forced cells as the released guide's own fill.sh prints them over the translation 1484a733e24fc0cf… (all of the seat's roots in one cut). By AI agents, Wed Nov 11 2026. No macro, syntax, notation, axiom, sorry.
-/
import Derived.Test.YtfehfjnmkaifbaaChecked
import GoSem.Claim
import GoSem.ClaimJoined
import GoSem.ClaimMapViews
import Derived.JoinedTies
import Derived.KernelRfl
namespace Go.Proofs.Ytfehfjnmkaifbaa
/- THE CELL 'sum', in the pinned program and in every row, IS THE sha256 OF THE DUMP (.gsa) THAT YtfehfjnmkaifbaaProg.lean LOADS. Nothing in Lean hashes anything: it is a label: what it is worth is what the hold of that sum in a sandbox is worth. -/
noncomputable def Try.pinned : Pinned := { name := "ytfehfjnmkaifbaa", sum := "1484a733e24fc0cffe3d8c26331653266a1e07b0b48e75c2fa999008fa9b7d19", checked := Try.checked }
namespace Rows
def none {H : Type} : Left H := { results := [], args := [] }

/-- 'laws.FnExactIsOpenNode': WHATEVER THE INPUT: true; the input reads as it did. -/
def fnExactIsOpenNodeSpec : ChangeSpec := { name := "fnExactIsOpenNode", fn := fun _ => fun
  | [d1, d2, d3] => { results := [.lit (.bool true)], args := [d1, d2, d3] }
  | _ => none }
def fnExactIsOpenNodeRow : OpenClaim := { program := "ytfehfjnmkaifbaa", sum := "1484a733e24fc0cffe3d8c26331653266a1e07b0b48e75c2fa999008fa9b7d19", func := "loop.example/g01243/laws.FnExactIsOpenNode", spec := "fnExactIsOpenNode", apart := false }
def FnExactIsOpenNodeSaid : Prop := fnExactIsOpenNodeRow.holds Try.pinned (OpenSpec.ofChange fnExactIsOpenNodeSpec)

/-- ITS FALSE NEIGHBOUR: 'it returns false'. Refute it at one input. -/
def fnExactIsOpenNodeWrong : ChangeSpec := { name := "fnExactIsOpenNode", fn := fun _ => fun
  | [d1, d2, d3] => { results := [.lit (.bool false)], args := [d1, d2, d3] }
  | _ => none }
def FnExactIsOpenNodeWrongFalsely : Prop := fnExactIsOpenNodeRow.holds Try.pinned (OpenSpec.ofChange fnExactIsOpenNodeWrong)

/-- 'laws.FnExactGameWins': WHATEVER THE INPUT: true; the input reads as it did. -/
def fnExactGameWinsSpec : ChangeSpec := { name := "fnExactGameWins", fn := fun _ => fun
  | [d1, d2, d3] => { results := [.lit (.bool true)], args := [d1, d2, d3] }
  | _ => none }
def fnExactGameWinsRow : OpenClaim := { program := "ytfehfjnmkaifbaa", sum := "1484a733e24fc0cffe3d8c26331653266a1e07b0b48e75c2fa999008fa9b7d19", func := "loop.example/g01243/laws.FnExactGameWins", spec := "fnExactGameWins", unfollowed := true, recurses := true, apart := false }
def FnExactGameWinsSaid : Prop := fnExactGameWinsRow.holds Try.pinned (OpenSpec.ofChange fnExactGameWinsSpec)

/-- ITS FALSE NEIGHBOUR: 'it returns false'. Refute it at one input. -/
def fnExactGameWinsWrong : ChangeSpec := { name := "fnExactGameWins", fn := fun _ => fun
  | [d1, d2, d3] => { results := [.lit (.bool false)], args := [d1, d2, d3] }
  | _ => none }
def FnExactGameWinsWrongFalsely : Prop := fnExactGameWinsRow.holds Try.pinned (OpenSpec.ofChange fnExactGameWinsWrong)

/-- 'laws.FnExactOtherWins': WHATEVER THE INPUT: true; the input reads as it did. -/
def fnExactOtherWinsSpec : ChangeSpec := { name := "fnExactOtherWins", fn := fun _ => fun
  | [d1, d2, d3] => { results := [.lit (.bool true)], args := [d1, d2, d3] }
  | _ => none }
def fnExactOtherWinsRow : OpenClaim := { program := "ytfehfjnmkaifbaa", sum := "1484a733e24fc0cffe3d8c26331653266a1e07b0b48e75c2fa999008fa9b7d19", func := "loop.example/g01243/laws.FnExactOtherWins", spec := "fnExactOtherWins", unfollowed := true, recurses := true, apart := false }
def FnExactOtherWinsSaid : Prop := fnExactOtherWinsRow.holds Try.pinned (OpenSpec.ofChange fnExactOtherWinsSpec)

/-- ITS FALSE NEIGHBOUR: 'it returns false'. Refute it at one input. -/
def fnExactOtherWinsWrong : ChangeSpec := { name := "fnExactOtherWins", fn := fun _ => fun
  | [d1, d2, d3] => { results := [.lit (.bool false)], args := [d1, d2, d3] }
  | _ => none }
def FnExactOtherWinsWrongFalsely : Prop := fnExactOtherWinsRow.holds Try.pinned (OpenSpec.ofChange fnExactOtherWinsWrong)

/-- 'laws.FnExactWinningLetters': WHATEVER THE INPUT: true; the input reads as it did. -/
def fnExactWinningLettersSpec : ChangeSpec := { name := "fnExactWinningLetters", fn := fun _ => fun
  | [d1, d2, d3] => { results := [.lit (.bool true)], args := [d1, d2, d3] }
  | _ => none }
def fnExactWinningLettersRow : OpenClaim := { program := "ytfehfjnmkaifbaa", sum := "1484a733e24fc0cffe3d8c26331653266a1e07b0b48e75c2fa999008fa9b7d19", func := "loop.example/g01243/laws.FnExactWinningLetters", spec := "fnExactWinningLetters", unfollowed := true, recurses := true, apart := false }
def FnExactWinningLettersSaid : Prop := fnExactWinningLettersRow.holds Try.pinned (OpenSpec.ofChange fnExactWinningLettersSpec)

/-- ITS FALSE NEIGHBOUR: 'it returns false'. Refute it at one input. -/
def fnExactWinningLettersWrong : ChangeSpec := { name := "fnExactWinningLetters", fn := fun _ => fun
  | [d1, d2, d3] => { results := [.lit (.bool false)], args := [d1, d2, d3] }
  | _ => none }
def FnExactWinningLettersWrongFalsely : Prop := fnExactWinningLettersRow.holds Try.pinned (OpenSpec.ofChange fnExactWinningLettersWrong)

/-- 'laws.FnExactFirstWinner': WHATEVER THE INPUT: true; the input reads as it did. -/
def fnExactFirstWinnerSpec : ChangeSpec := { name := "fnExactFirstWinner", fn := fun _ => fun
  | [d1, d2] => { results := [.lit (.bool true)], args := [d1, d2] }
  | _ => none }
def fnExactFirstWinnerRow : OpenClaim := { program := "ytfehfjnmkaifbaa", sum := "1484a733e24fc0cffe3d8c26331653266a1e07b0b48e75c2fa999008fa9b7d19", func := "loop.example/g01243/laws.FnExactFirstWinner", spec := "fnExactFirstWinner", unfollowed := true, recurses := true, apart := false }
def FnExactFirstWinnerSaid : Prop := fnExactFirstWinnerRow.holds Try.pinned (OpenSpec.ofChange fnExactFirstWinnerSpec)

/-- ITS FALSE NEIGHBOUR: 'it returns false'. Refute it at one input. -/
def fnExactFirstWinnerWrong : ChangeSpec := { name := "fnExactFirstWinner", fn := fun _ => fun
  | [d1, d2] => { results := [.lit (.bool false)], args := [d1, d2] }
  | _ => none }
def FnExactFirstWinnerWrongFalsely : Prop := fnExactFirstWinnerRow.holds Try.pinned (OpenSpec.ofChange fnExactFirstWinnerWrong)

/-- 'laws.FnExactCountGames': WHATEVER THE INPUT: true; the input reads as it did. -/
def fnExactCountGamesSpec : ChangeSpec := { name := "fnExactCountGames", fn := fun _ => fun
  | [d1, d2, d3] => { results := [.lit (.bool true)], args := [d1, d2, d3] }
  | _ => none }
def fnExactCountGamesRow : OpenClaim := { program := "ytfehfjnmkaifbaa", sum := "1484a733e24fc0cffe3d8c26331653266a1e07b0b48e75c2fa999008fa9b7d19", func := "loop.example/g01243/laws.FnExactCountGames", spec := "fnExactCountGames", unfollowed := true, recurses := true, apart := false }
def FnExactCountGamesSaid : Prop := fnExactCountGamesRow.holds Try.pinned (OpenSpec.ofChange fnExactCountGamesSpec)

/-- ITS FALSE NEIGHBOUR: 'it returns false'. Refute it at one input. -/
def fnExactCountGamesWrong : ChangeSpec := { name := "fnExactCountGames", fn := fun _ => fun
  | [d1, d2, d3] => { results := [.lit (.bool false)], args := [d1, d2, d3] }
  | _ => none }
def FnExactCountGamesWrongFalsely : Prop := fnExactCountGamesRow.holds Try.pinned (OpenSpec.ofChange fnExactCountGamesWrong)

/- THE SECOND FORM. 'bulk': how many values and letters a reading holds, each counted each time it is reached (what is shared counts as often as it is met; a slice's spare places count too). A statement '..UptoSaid' is the law's where the arguments, and the package variables that the reading takes, are together of bulk at most 1048576: NARROWER than '..Said'. Prove '..Said' where nothing that the law and all that it calls make is longer than what came in: it says more and counts as full. Else prove '..UptoSaid'. A law counts once. -/
mutual
def uptoBulk {H : Type} : DataW H → Nat
  | .lit (.string bytes) => bytes.length + 1
  | .lit _ => 1
  | .nil => 1
  | .ptr d => uptoBulk d + 1
  | .slice elems spare => uptoBulkAll elems + uptoBulkAll spare + 1
  | .agg parts => uptoBulkAll parts + 1
  | .iface _ d => uptoBulk d + 1
  | .map entries => uptoBulkEntries entries + 1
  | .held _ => 1
def uptoBulkAll {H : Type} : List (DataW H) → Nat
  | [] => 0
  | d :: r => uptoBulk d + uptoBulkAll r
def uptoBulkEntries {H : Type} : List (Lit × DataW H) → Nat
  | [] => 0
  | x :: r => uptoBulkEntry x + uptoBulkEntries r
def uptoBulkEntry {H : Type} : Lit × DataW H → Nat
  | (.string bytes, d) => bytes.length + uptoBulk d + 1
  | (_, d) => uptoBulk d + 1
 end
def uptoSmall : (H : Type) → List (DataW H) → Bool := fun _ ds => decide (uptoBulkAll ds ≤ 1048576)
def OpenSpec.upto (s : _root_.Go.ChangeSpec) : _root_.Go.OpenSpec := { _root_.Go.OpenSpec.ofChange s with cond := some uptoSmall }

/-- 'laws.FnExactIsOpenNode', WHERE WHAT IT READS IS OF BULK AT MOST 1048576: true; the input reads as it did. -/
def fnExactIsOpenNodeUptoRow : OpenClaim := { program := "ytfehfjnmkaifbaa", sum := "1484a733e24fc0cffe3d8c26331653266a1e07b0b48e75c2fa999008fa9b7d19", func := "loop.example/g01243/laws.FnExactIsOpenNode", spec := "fnExactIsOpenNode", apart := false, narrowed := true }
def FnExactIsOpenNodeUptoSaid : Prop := fnExactIsOpenNodeUptoRow.holds Try.pinned (OpenSpec.upto fnExactIsOpenNodeSpec)

/-- 'laws.FnExactGameWins', WHERE WHAT IT READS IS OF BULK AT MOST 1048576: true; the input reads as it did. -/
def fnExactGameWinsUptoRow : OpenClaim := { program := "ytfehfjnmkaifbaa", sum := "1484a733e24fc0cffe3d8c26331653266a1e07b0b48e75c2fa999008fa9b7d19", func := "loop.example/g01243/laws.FnExactGameWins", spec := "fnExactGameWins", unfollowed := true, recurses := true, apart := false, narrowed := true }
def FnExactGameWinsUptoSaid : Prop := fnExactGameWinsUptoRow.holds Try.pinned (OpenSpec.upto fnExactGameWinsSpec)

/-- 'laws.FnExactOtherWins', WHERE WHAT IT READS IS OF BULK AT MOST 1048576: true; the input reads as it did. -/
def fnExactOtherWinsUptoRow : OpenClaim := { program := "ytfehfjnmkaifbaa", sum := "1484a733e24fc0cffe3d8c26331653266a1e07b0b48e75c2fa999008fa9b7d19", func := "loop.example/g01243/laws.FnExactOtherWins", spec := "fnExactOtherWins", unfollowed := true, recurses := true, apart := false, narrowed := true }
def FnExactOtherWinsUptoSaid : Prop := fnExactOtherWinsUptoRow.holds Try.pinned (OpenSpec.upto fnExactOtherWinsSpec)

/-- 'laws.FnExactWinningLetters', WHERE WHAT IT READS IS OF BULK AT MOST 1048576: true; the input reads as it did. -/
def fnExactWinningLettersUptoRow : OpenClaim := { program := "ytfehfjnmkaifbaa", sum := "1484a733e24fc0cffe3d8c26331653266a1e07b0b48e75c2fa999008fa9b7d19", func := "loop.example/g01243/laws.FnExactWinningLetters", spec := "fnExactWinningLetters", unfollowed := true, recurses := true, apart := false, narrowed := true }
def FnExactWinningLettersUptoSaid : Prop := fnExactWinningLettersUptoRow.holds Try.pinned (OpenSpec.upto fnExactWinningLettersSpec)

/-- 'laws.FnExactFirstWinner', WHERE WHAT IT READS IS OF BULK AT MOST 1048576: true; the input reads as it did. -/
def fnExactFirstWinnerUptoRow : OpenClaim := { program := "ytfehfjnmkaifbaa", sum := "1484a733e24fc0cffe3d8c26331653266a1e07b0b48e75c2fa999008fa9b7d19", func := "loop.example/g01243/laws.FnExactFirstWinner", spec := "fnExactFirstWinner", unfollowed := true, recurses := true, apart := false, narrowed := true }
def FnExactFirstWinnerUptoSaid : Prop := fnExactFirstWinnerUptoRow.holds Try.pinned (OpenSpec.upto fnExactFirstWinnerSpec)

/-- 'laws.FnExactCountGames', WHERE WHAT IT READS IS OF BULK AT MOST 1048576: true; the input reads as it did. -/
def fnExactCountGamesUptoRow : OpenClaim := { program := "ytfehfjnmkaifbaa", sum := "1484a733e24fc0cffe3d8c26331653266a1e07b0b48e75c2fa999008fa9b7d19", func := "loop.example/g01243/laws.FnExactCountGames", spec := "fnExactCountGames", unfollowed := true, recurses := true, apart := false, narrowed := true }
def FnExactCountGamesUptoSaid : Prop := fnExactCountGamesUptoRow.holds Try.pinned (OpenSpec.upto fnExactCountGamesSpec)

end Rows
end Go.Proofs.Ytfehfjnmkaifbaa
