/-
  No cell of these rows narrows 'for every input' (looked for: loops, veiled, ifaces, maps, wideKeys, modest, calm, conditions, laid).
  DERIVED. THE GIVEN ROWS OF THIS SEAT. 6 by the template 'for every input the law returns true; each argument reads behind the call as it read before'; 0 by the template 'total and deterministic' (their statements: YtfehfjnmkaifbabTotals.lean).
  GIVEN WITH THE SEED: the statements are not yours to turn. If you find one false, say at which input.
  Laid BY PROGRAM, IN A SANDBOX (cutbox-rows.mjs): the forced cells as the released guide's own fill.sh prints them over the translation 76e416c347bf3608… (all of the seat's roots in one cut). By AI agents, Wed Nov 11 2026. No macro, syntax, notation, axiom, sorry.
-/
import Derived.Test.YtfehfjnmkaifbabChecked
import GoSem.Claim
import GoSem.ClaimJoined
import GoSem.ClaimMapViews
import Derived.JoinedTies
import Derived.KernelRfl
namespace Go.Proofs.Ytfehfjnmkaifbab
/- THE CELL 'sum', in the pinned program and in every row, IS THE sha256 OF THE DUMP (.gsa) THAT YtfehfjnmkaifbabProg.lean LOADS. Nothing in Lean hashes anything: it is a label: what it is worth is what the hold of that sum in a sandbox is worth. -/
noncomputable def Try.pinned : Pinned := { name := "ytfehfjnmkaifbab", sum := "76e416c347bf3608afd215ffbee45f3c68aa29a2ace587e1337b14ff01b828ff", checked := Try.checked }
namespace Rows
def none {H : Type} : Left H := { results := [], args := [] }

/-- 'laws.FnExactGameLength': WHATEVER THE INPUT: true; the input reads as it did. -/
def fnExactGameLengthSpec : ChangeSpec := { name := "fnExactGameLength", fn := fun _ => fun
  | [d1, d2, d3] => { results := [.lit (.bool true)], args := [d1, d2, d3] }
  | _ => none }
def fnExactGameLengthRow : OpenClaim := { program := "ytfehfjnmkaifbab", sum := "76e416c347bf3608afd215ffbee45f3c68aa29a2ace587e1337b14ff01b828ff", func := "loop.example/g01243/laws.FnExactGameLength", spec := "fnExactGameLength", unfollowed := true, recurses := true, apart := false }
def FnExactGameLengthSaid : Prop := fnExactGameLengthRow.holds Try.pinned (OpenSpec.ofChange fnExactGameLengthSpec)

/-- ITS FALSE NEIGHBOUR: 'it returns false'. Refute it at one input. -/
def fnExactGameLengthWrong : ChangeSpec := { name := "fnExactGameLength", fn := fun _ => fun
  | [d1, d2, d3] => { results := [.lit (.bool false)], args := [d1, d2, d3] }
  | _ => none }
def FnExactGameLengthWrongFalsely : Prop := fnExactGameLengthRow.holds Try.pinned (OpenSpec.ofChange fnExactGameLengthWrong)

/-- 'laws.FnExactFatalWords': WHATEVER THE INPUT: true; the input reads as it did. -/
def fnExactFatalWordsSpec : ChangeSpec := { name := "fnExactFatalWords", fn := fun _ => fun
  | [d1, d2] => { results := [.lit (.bool true)], args := [d1, d2] }
  | _ => none }
def fnExactFatalWordsRow : OpenClaim := { program := "ytfehfjnmkaifbab", sum := "76e416c347bf3608afd215ffbee45f3c68aa29a2ace587e1337b14ff01b828ff", func := "loop.example/g01243/laws.FnExactFatalWords", spec := "fnExactFatalWords", apart := false }
def FnExactFatalWordsSaid : Prop := fnExactFatalWordsRow.holds Try.pinned (OpenSpec.ofChange fnExactFatalWordsSpec)

/-- ITS FALSE NEIGHBOUR: 'it returns false'. Refute it at one input. -/
def fnExactFatalWordsWrong : ChangeSpec := { name := "fnExactFatalWords", fn := fun _ => fun
  | [d1, d2] => { results := [.lit (.bool false)], args := [d1, d2] }
  | _ => none }
def FnExactFatalWordsWrongFalsely : Prop := fnExactFatalWordsRow.holds Try.pinned (OpenSpec.ofChange fnExactFatalWordsWrong)

/-- 'laws.FnExactBestGame': WHATEVER THE INPUT: true; the input reads as it did. -/
def fnExactBestGameSpec : ChangeSpec := { name := "fnExactBestGame", fn := fun _ => fun
  | [d1, d2] => { results := [.lit (.bool true)], args := [d1, d2] }
  | _ => none }
def fnExactBestGameRow : OpenClaim := { program := "ytfehfjnmkaifbab", sum := "76e416c347bf3608afd215ffbee45f3c68aa29a2ace587e1337b14ff01b828ff", func := "loop.example/g01243/laws.FnExactBestGame", spec := "fnExactBestGame", unfollowed := true, recurses := true, apart := false }
def FnExactBestGameSaid : Prop := fnExactBestGameRow.holds Try.pinned (OpenSpec.ofChange fnExactBestGameSpec)

/-- ITS FALSE NEIGHBOUR: 'it returns false'. Refute it at one input. -/
def fnExactBestGameWrong : ChangeSpec := { name := "fnExactBestGame", fn := fun _ => fun
  | [d1, d2] => { results := [.lit (.bool false)], args := [d1, d2] }
  | _ => none }
def FnExactBestGameWrongFalsely : Prop := fnExactBestGameRow.holds Try.pinned (OpenSpec.ofChange fnExactBestGameWrong)

/-- 'laws.FnExactPlayLetters': WHATEVER THE INPUT: true; the input reads as it did. -/
def fnExactPlayLettersSpec : ChangeSpec := { name := "fnExactPlayLetters", fn := fun _ => fun
  | [d1, d2, d3] => { results := [.lit (.bool true)], args := [d1, d2, d3] }
  | _ => none }
def fnExactPlayLettersRow : OpenClaim := { program := "ytfehfjnmkaifbab", sum := "76e416c347bf3608afd215ffbee45f3c68aa29a2ace587e1337b14ff01b828ff", func := "loop.example/g01243/laws.FnExactPlayLetters", spec := "fnExactPlayLetters", apart := false }
def FnExactPlayLettersSaid : Prop := fnExactPlayLettersRow.holds Try.pinned (OpenSpec.ofChange fnExactPlayLettersSpec)

/-- ITS FALSE NEIGHBOUR: 'it returns false'. Refute it at one input. -/
def fnExactPlayLettersWrong : ChangeSpec := { name := "fnExactPlayLetters", fn := fun _ => fun
  | [d1, d2, d3] => { results := [.lit (.bool false)], args := [d1, d2, d3] }
  | _ => none }
def FnExactPlayLettersWrongFalsely : Prop := fnExactPlayLettersRow.holds Try.pinned (OpenSpec.ofChange fnExactPlayLettersWrong)

/-- 'laws.FnExactKeyWords': WHATEVER THE INPUT: true; the input reads as it did. -/
def fnExactKeyWordsSpec : ChangeSpec := { name := "fnExactKeyWords", fn := fun _ => fun
  | [d1, d2] => { results := [.lit (.bool true)], args := [d1, d2] }
  | _ => none }
def fnExactKeyWordsRow : OpenClaim := { program := "ytfehfjnmkaifbab", sum := "76e416c347bf3608afd215ffbee45f3c68aa29a2ace587e1337b14ff01b828ff", func := "loop.example/g01243/laws.FnExactKeyWords", spec := "fnExactKeyWords", unfollowed := true, recurses := true, apart := false }
def FnExactKeyWordsSaid : Prop := fnExactKeyWordsRow.holds Try.pinned (OpenSpec.ofChange fnExactKeyWordsSpec)

/-- ITS FALSE NEIGHBOUR: 'it returns false'. Refute it at one input. -/
def fnExactKeyWordsWrong : ChangeSpec := { name := "fnExactKeyWords", fn := fun _ => fun
  | [d1, d2] => { results := [.lit (.bool false)], args := [d1, d2] }
  | _ => none }
def FnExactKeyWordsWrongFalsely : Prop := fnExactKeyWordsRow.holds Try.pinned (OpenSpec.ofChange fnExactKeyWordsWrong)

/-- 'laws.FnExactBestLetter': WHATEVER THE INPUT: true; the input reads as it did. -/
def fnExactBestLetterSpec : ChangeSpec := { name := "fnExactBestLetter", fn := fun _ => fun
  | [d] => { results := [.lit (.bool true)], args := [d] }
  | _ => none }
def fnExactBestLetterRow : OpenClaim := { program := "ytfehfjnmkaifbab", sum := "76e416c347bf3608afd215ffbee45f3c68aa29a2ace587e1337b14ff01b828ff", func := "loop.example/g01243/laws.FnExactBestLetter", spec := "fnExactBestLetter", inPlace := ["internal/bytealg.IndexByteString", "internal/bytealg.IndexString"], unfollowed := true, recurses := true, named := ["internal/bytealg.MaxLen"], apart := false }
def FnExactBestLetterSaid : Prop := fnExactBestLetterRow.holds Try.pinned (OpenSpec.ofChange fnExactBestLetterSpec)

/-- ITS FALSE NEIGHBOUR: 'it returns false'. Refute it at one input. -/
def fnExactBestLetterWrong : ChangeSpec := { name := "fnExactBestLetter", fn := fun _ => fun
  | [d] => { results := [.lit (.bool false)], args := [d] }
  | _ => none }
def FnExactBestLetterWrongFalsely : Prop := fnExactBestLetterRow.holds Try.pinned (OpenSpec.ofChange fnExactBestLetterWrong)

/- THE SECOND FORM. 'bulk': how many values and letters a reading holds, each counted each time it is reached (what is shared counts as often as it is met; a slice's spare places count too). A statement '..UptoSaid' is the law's where the arguments, and the package variables that the reading takes, are together of bulk at most 1048576: NARROWER than '..Said'. Prove '..Said' where nothing that the law and all that it calls make is longer than what came in: it says more and counts as full. Else prove '..UptoSaid'. A law counts once. -/
mutual
def uptoBulk {H : Type} : DataW H → Nat
  | .lit (.string bytes) => bytes.length + 1
  | .lit _ => 1
  | .nil => 1
  | .ptr d => uptoBulk d + 1
  | .slice elems spare => uptoBulkAll elems + uptoBulkAll spare + 1
  | .agg parts => uptoBulkAll parts + 1
  | .iface _ d => uptoBulk d + 1
  | .map entries => uptoBulkEntries entries + 1
  | .held _ => 1
def uptoBulkAll {H : Type} : List (DataW H) → Nat
  | [] => 0
  | d :: r => uptoBulk d + uptoBulkAll r
def uptoBulkEntries {H : Type} : List (Lit × DataW H) → Nat
  | [] => 0
  | x :: r => uptoBulkEntry x + uptoBulkEntries r
def uptoBulkEntry {H : Type} : Lit × DataW H → Nat
  | (.string bytes, d) => bytes.length + uptoBulk d + 1
  | (_, d) => uptoBulk d + 1
 end
def uptoSmall : (H : Type) → List (DataW H) → Bool := fun _ ds => decide (uptoBulkAll ds ≤ 1048576)
def OpenSpec.upto (s : _root_.Go.ChangeSpec) : _root_.Go.OpenSpec := { _root_.Go.OpenSpec.ofChange s with cond := some uptoSmall }

/-- 'laws.FnExactGameLength', WHERE WHAT IT READS IS OF BULK AT MOST 1048576: true; the input reads as it did. -/
def fnExactGameLengthUptoRow : OpenClaim := { program := "ytfehfjnmkaifbab", sum := "76e416c347bf3608afd215ffbee45f3c68aa29a2ace587e1337b14ff01b828ff", func := "loop.example/g01243/laws.FnExactGameLength", spec := "fnExactGameLength", unfollowed := true, recurses := true, apart := false, narrowed := true }
def FnExactGameLengthUptoSaid : Prop := fnExactGameLengthUptoRow.holds Try.pinned (OpenSpec.upto fnExactGameLengthSpec)

/-- 'laws.FnExactFatalWords', WHERE WHAT IT READS IS OF BULK AT MOST 1048576: true; the input reads as it did. -/
def fnExactFatalWordsUptoRow : OpenClaim := { program := "ytfehfjnmkaifbab", sum := "76e416c347bf3608afd215ffbee45f3c68aa29a2ace587e1337b14ff01b828ff", func := "loop.example/g01243/laws.FnExactFatalWords", spec := "fnExactFatalWords", apart := false, narrowed := true }
def FnExactFatalWordsUptoSaid : Prop := fnExactFatalWordsUptoRow.holds Try.pinned (OpenSpec.upto fnExactFatalWordsSpec)

/-- 'laws.FnExactBestGame', WHERE WHAT IT READS IS OF BULK AT MOST 1048576: true; the input reads as it did. -/
def fnExactBestGameUptoRow : OpenClaim := { program := "ytfehfjnmkaifbab", sum := "76e416c347bf3608afd215ffbee45f3c68aa29a2ace587e1337b14ff01b828ff", func := "loop.example/g01243/laws.FnExactBestGame", spec := "fnExactBestGame", unfollowed := true, recurses := true, apart := false, narrowed := true }
def FnExactBestGameUptoSaid : Prop := fnExactBestGameUptoRow.holds Try.pinned (OpenSpec.upto fnExactBestGameSpec)

/-- 'laws.FnExactPlayLetters', WHERE WHAT IT READS IS OF BULK AT MOST 1048576: true; the input reads as it did. -/
def fnExactPlayLettersUptoRow : OpenClaim := { program := "ytfehfjnmkaifbab", sum := "76e416c347bf3608afd215ffbee45f3c68aa29a2ace587e1337b14ff01b828ff", func := "loop.example/g01243/laws.FnExactPlayLetters", spec := "fnExactPlayLetters", apart := false, narrowed := true }
def FnExactPlayLettersUptoSaid : Prop := fnExactPlayLettersUptoRow.holds Try.pinned (OpenSpec.upto fnExactPlayLettersSpec)

/-- 'laws.FnExactKeyWords', WHERE WHAT IT READS IS OF BULK AT MOST 1048576: true; the input reads as it did. -/
def fnExactKeyWordsUptoRow : OpenClaim := { program := "ytfehfjnmkaifbab", sum := "76e416c347bf3608afd215ffbee45f3c68aa29a2ace587e1337b14ff01b828ff", func := "loop.example/g01243/laws.FnExactKeyWords", spec := "fnExactKeyWords", unfollowed := true, recurses := true, apart := false, narrowed := true }
def FnExactKeyWordsUptoSaid : Prop := fnExactKeyWordsUptoRow.holds Try.pinned (OpenSpec.upto fnExactKeyWordsSpec)

/-- 'laws.FnExactBestLetter', WHERE WHAT IT READS IS OF BULK AT MOST 1048576: true; the input reads as it did. -/
def fnExactBestLetterUptoRow : OpenClaim := { program := "ytfehfjnmkaifbab", sum := "76e416c347bf3608afd215ffbee45f3c68aa29a2ace587e1337b14ff01b828ff", func := "loop.example/g01243/laws.FnExactBestLetter", spec := "fnExactBestLetter", inPlace := ["internal/bytealg.IndexByteString", "internal/bytealg.IndexString"], unfollowed := true, recurses := true, named := ["internal/bytealg.MaxLen"], apart := false, narrowed := true }
def FnExactBestLetterUptoSaid : Prop := fnExactBestLetterUptoRow.holds Try.pinned (OpenSpec.upto fnExactBestLetterSpec)

end Rows
end Go.Proofs.Ytfehfjnmkaifbab
