/-
  No cell of these rows narrows 'for every input' (looked for: loops, veiled, ifaces, maps, wideKeys, modest, calm, conditions, laid).
  DERIVED. THE GIVEN ROWS OF THIS SEAT. 7 by the template 'for every input the law returns true; each argument reads behind the call as it read before'; 0 by the template 'total and deterministic' (their statements: YtifkggapdaflmaaTotals.lean).
  GIVEN WITH THE SEED: the statements are not yours to turn. If you find one false, say at which input.
  Laid BY PROGRAM, IN A SANDBOX (cutbox-rows.mjs): the forced cells as the released guide's own fill.sh prints them over the translation c1d675434e30e127… (all of the seat's roots in one cut). By AI agents, Wed Nov 11 2026. No macro, syntax, notation, axiom, sorry.
-/
import Derived.Test.YtifkggapdaflmaaChecked
import GoSem.Claim
import GoSem.ClaimJoined
import GoSem.ClaimMapViews
import Derived.JoinedTies
import Derived.KernelRfl
namespace Go.Proofs.Ytifkggapdaflmaa
/- THE CELL 'sum', in the pinned program and in every row, IS THE sha256 OF THE DUMP (.gsa) THAT YtifkggapdaflmaaProg.lean LOADS. Nothing in Lean hashes anything: it is a label: what it is worth is what the hold of that sum in a sandbox is worth. -/
noncomputable def Try.pinned : Pinned := { name := "ytifkggapdaflmaa", sum := "c1d675434e30e127a9bf142cafb41ca04dc5af022415acf26360ac32fdff7cc0", checked := Try.checked }
namespace Rows
def none {H : Type} : Left H := { results := [], args := [] }

/-- 'laws.FnExactIsText': WHATEVER THE INPUT: true; the input reads as it did. -/
def fnExactIsTextSpec : ChangeSpec := { name := "fnExactIsText", fn := fun _ => fun
  | [d] => { results := [.lit (.bool true)], args := [d] }
  | _ => none }
def fnExactIsTextRow : OpenClaim := { program := "ytifkggapdaflmaa", sum := "c1d675434e30e127a9bf142cafb41ca04dc5af022415acf26360ac32fdff7cc0", func := "loop.example/g01243/laws.FnExactIsText", spec := "fnExactIsText", apart := false }
def FnExactIsTextSaid : Prop := fnExactIsTextRow.holds Try.pinned (OpenSpec.ofChange fnExactIsTextSpec)

/-- ITS FALSE NEIGHBOUR: 'it returns false'. Refute it at one input. -/
def fnExactIsTextWrong : ChangeSpec := { name := "fnExactIsText", fn := fun _ => fun
  | [d] => { results := [.lit (.bool false)], args := [d] }
  | _ => none }
def FnExactIsTextWrongFalsely : Prop := fnExactIsTextRow.holds Try.pinned (OpenSpec.ofChange fnExactIsTextWrong)

/-- 'laws.FnExactSubstringsOf': WHATEVER THE INPUT: true; the input reads as it did. -/
def fnExactSubstringsOfSpec : ChangeSpec := { name := "fnExactSubstringsOf", fn := fun _ => fun
  | [d] => { results := [.lit (.bool true)], args := [d] }
  | _ => none }
def fnExactSubstringsOfRow : OpenClaim := { program := "ytifkggapdaflmaa", sum := "c1d675434e30e127a9bf142cafb41ca04dc5af022415acf26360ac32fdff7cc0", func := "loop.example/g01243/laws.FnExactSubstringsOf", spec := "fnExactSubstringsOf", unfollowed := true, recurses := true, apart := false }
def FnExactSubstringsOfSaid : Prop := fnExactSubstringsOfRow.holds Try.pinned (OpenSpec.ofChange fnExactSubstringsOfSpec)

/-- ITS FALSE NEIGHBOUR: 'it returns false'. Refute it at one input. -/
def fnExactSubstringsOfWrong : ChangeSpec := { name := "fnExactSubstringsOf", fn := fun _ => fun
  | [d] => { results := [.lit (.bool false)], args := [d] }
  | _ => none }
def FnExactSubstringsOfWrongFalsely : Prop := fnExactSubstringsOfRow.holds Try.pinned (OpenSpec.ofChange fnExactSubstringsOfWrong)

/-- 'laws.FnExactCountSubstrings': WHATEVER THE INPUT: true; the input reads as it did. -/
def fnExactCountSubstringsSpec : ChangeSpec := { name := "fnExactCountSubstrings", fn := fun _ => fun
  | [d] => { results := [.lit (.bool true)], args := [d] }
  | _ => none }
def fnExactCountSubstringsRow : OpenClaim := { program := "ytifkggapdaflmaa", sum := "c1d675434e30e127a9bf142cafb41ca04dc5af022415acf26360ac32fdff7cc0", func := "loop.example/g01243/laws.FnExactCountSubstrings", spec := "fnExactCountSubstrings", unfollowed := true, recurses := true, apart := false }
def FnExactCountSubstringsSaid : Prop := fnExactCountSubstringsRow.holds Try.pinned (OpenSpec.ofChange fnExactCountSubstringsSpec)

/-- ITS FALSE NEIGHBOUR: 'it returns false'. Refute it at one input. -/
def fnExactCountSubstringsWrong : ChangeSpec := { name := "fnExactCountSubstrings", fn := fun _ => fun
  | [d] => { results := [.lit (.bool false)], args := [d] }
  | _ => none }
def FnExactCountSubstringsWrongFalsely : Prop := fnExactCountSubstringsRow.holds Try.pinned (OpenSpec.ofChange fnExactCountSubstringsWrong)

/-- 'laws.FnExactCountOfLength': WHATEVER THE INPUT: true; the input reads as it did. -/
def fnExactCountOfLengthSpec : ChangeSpec := { name := "fnExactCountOfLength", fn := fun _ => fun
  | [d] => { results := [.lit (.bool true)], args := [d] }
  | _ => none }
def fnExactCountOfLengthRow : OpenClaim := { program := "ytifkggapdaflmaa", sum := "c1d675434e30e127a9bf142cafb41ca04dc5af022415acf26360ac32fdff7cc0", func := "loop.example/g01243/laws.FnExactCountOfLength", spec := "fnExactCountOfLength", unfollowed := true, recurses := true, apart := false }
def FnExactCountOfLengthSaid : Prop := fnExactCountOfLengthRow.holds Try.pinned (OpenSpec.ofChange fnExactCountOfLengthSpec)

/-- ITS FALSE NEIGHBOUR: 'it returns false'. Refute it at one input. -/
def fnExactCountOfLengthWrong : ChangeSpec := { name := "fnExactCountOfLength", fn := fun _ => fun
  | [d] => { results := [.lit (.bool false)], args := [d] }
  | _ => none }
def FnExactCountOfLengthWrongFalsely : Prop := fnExactCountOfLengthRow.holds Try.pinned (OpenSpec.ofChange fnExactCountOfLengthWrong)

/-- 'laws.FnExactOccursAt': WHATEVER THE INPUT: true; the input reads as it did. -/
def fnExactOccursAtSpec : ChangeSpec := { name := "fnExactOccursAt", fn := fun _ => fun
  | [d1, d2] => { results := [.lit (.bool true)], args := [d1, d2] }
  | _ => none }
def fnExactOccursAtRow : OpenClaim := { program := "ytifkggapdaflmaa", sum := "c1d675434e30e127a9bf142cafb41ca04dc5af022415acf26360ac32fdff7cc0", func := "loop.example/g01243/laws.FnExactOccursAt", spec := "fnExactOccursAt", apart := false }
def FnExactOccursAtSaid : Prop := fnExactOccursAtRow.holds Try.pinned (OpenSpec.ofChange fnExactOccursAtSpec)

/-- ITS FALSE NEIGHBOUR: 'it returns false'. Refute it at one input. -/
def fnExactOccursAtWrong : ChangeSpec := { name := "fnExactOccursAt", fn := fun _ => fun
  | [d1, d2] => { results := [.lit (.bool false)], args := [d1, d2] }
  | _ => none }
def FnExactOccursAtWrongFalsely : Prop := fnExactOccursAtRow.holds Try.pinned (OpenSpec.ofChange fnExactOccursAtWrong)

/-- 'laws.FnExactEndsOf': WHATEVER THE INPUT: true; the input reads as it did. -/
def fnExactEndsOfSpec : ChangeSpec := { name := "fnExactEndsOf", fn := fun _ => fun
  | [d] => { results := [.lit (.bool true)], args := [d] }
  | _ => none }
def fnExactEndsOfRow : OpenClaim := { program := "ytifkggapdaflmaa", sum := "c1d675434e30e127a9bf142cafb41ca04dc5af022415acf26360ac32fdff7cc0", func := "loop.example/g01243/laws.FnExactEndsOf", spec := "fnExactEndsOf", recurses := true, apart := false }
def FnExactEndsOfSaid : Prop := fnExactEndsOfRow.holds Try.pinned (OpenSpec.ofChange fnExactEndsOfSpec)

/-- ITS FALSE NEIGHBOUR: 'it returns false'. Refute it at one input. -/
def fnExactEndsOfWrong : ChangeSpec := { name := "fnExactEndsOf", fn := fun _ => fun
  | [d] => { results := [.lit (.bool false)], args := [d] }
  | _ => none }
def FnExactEndsOfWrongFalsely : Prop := fnExactEndsOfRow.holds Try.pinned (OpenSpec.ofChange fnExactEndsOfWrong)

/-- 'laws.FnExactCommonWithNext': WHATEVER THE INPUT: true; the input reads as it did. -/
def fnExactCommonWithNextSpec : ChangeSpec := { name := "fnExactCommonWithNext", fn := fun _ => fun
  | [d] => { results := [.lit (.bool true)], args := [d] }
  | _ => none }
def fnExactCommonWithNextRow : OpenClaim := { program := "ytifkggapdaflmaa", sum := "c1d675434e30e127a9bf142cafb41ca04dc5af022415acf26360ac32fdff7cc0", func := "loop.example/g01243/laws.FnExactCommonWithNext", spec := "fnExactCommonWithNext", recurses := true, apart := false }
def FnExactCommonWithNextSaid : Prop := fnExactCommonWithNextRow.holds Try.pinned (OpenSpec.ofChange fnExactCommonWithNextSpec)

/-- ITS FALSE NEIGHBOUR: 'it returns false'. Refute it at one input. -/
def fnExactCommonWithNextWrong : ChangeSpec := { name := "fnExactCommonWithNext", fn := fun _ => fun
  | [d] => { results := [.lit (.bool false)], args := [d] }
  | _ => none }
def FnExactCommonWithNextWrongFalsely : Prop := fnExactCommonWithNextRow.holds Try.pinned (OpenSpec.ofChange fnExactCommonWithNextWrong)

/- THE SECOND FORM. 'bulk': how many values and letters a reading holds, each counted each time it is reached (what is shared counts as often as it is met; a slice's spare places count too). A statement '..UptoSaid' is the law's where the arguments, and the package variables that the reading takes, are together of bulk at most 1048576: NARROWER than '..Said'. Prove '..Said' where nothing that the law and all that it calls make is longer than what came in: it says more and counts as full. Else prove '..UptoSaid'. A law counts once. -/
mutual
def uptoBulk {H : Type} : DataW H → Nat
  | .lit (.string bytes) => bytes.length + 1
  | .lit _ => 1
  | .nil => 1
  | .ptr d => uptoBulk d + 1
  | .slice elems spare => uptoBulkAll elems + uptoBulkAll spare + 1
  | .agg parts => uptoBulkAll parts + 1
  | .iface _ d => uptoBulk d + 1
  | .map entries => uptoBulkEntries entries + 1
  | .held _ => 1
def uptoBulkAll {H : Type} : List (DataW H) → Nat
  | [] => 0
  | d :: r => uptoBulk d + uptoBulkAll r
def uptoBulkEntries {H : Type} : List (Lit × DataW H) → Nat
  | [] => 0
  | x :: r => uptoBulkEntry x + uptoBulkEntries r
def uptoBulkEntry {H : Type} : Lit × DataW H → Nat
  | (.string bytes, d) => bytes.length + uptoBulk d + 1
  | (_, d) => uptoBulk d + 1
 end
def uptoSmall : (H : Type) → List (DataW H) → Bool := fun _ ds => decide (uptoBulkAll ds ≤ 1048576)
def OpenSpec.upto (s : _root_.Go.ChangeSpec) : _root_.Go.OpenSpec := { _root_.Go.OpenSpec.ofChange s with cond := some uptoSmall }

/-- 'laws.FnExactIsText', WHERE WHAT IT READS IS OF BULK AT MOST 1048576: true; the input reads as it did. -/
def fnExactIsTextUptoRow : OpenClaim := { program := "ytifkggapdaflmaa", sum := "c1d675434e30e127a9bf142cafb41ca04dc5af022415acf26360ac32fdff7cc0", func := "loop.example/g01243/laws.FnExactIsText", spec := "fnExactIsText", apart := false, narrowed := true }
def FnExactIsTextUptoSaid : Prop := fnExactIsTextUptoRow.holds Try.pinned (OpenSpec.upto fnExactIsTextSpec)

/-- 'laws.FnExactSubstringsOf', WHERE WHAT IT READS IS OF BULK AT MOST 1048576: true; the input reads as it did. -/
def fnExactSubstringsOfUptoRow : OpenClaim := { program := "ytifkggapdaflmaa", sum := "c1d675434e30e127a9bf142cafb41ca04dc5af022415acf26360ac32fdff7cc0", func := "loop.example/g01243/laws.FnExactSubstringsOf", spec := "fnExactSubstringsOf", unfollowed := true, recurses := true, apart := false, narrowed := true }
def FnExactSubstringsOfUptoSaid : Prop := fnExactSubstringsOfUptoRow.holds Try.pinned (OpenSpec.upto fnExactSubstringsOfSpec)

/-- 'laws.FnExactCountSubstrings', WHERE WHAT IT READS IS OF BULK AT MOST 1048576: true; the input reads as it did. -/
def fnExactCountSubstringsUptoRow : OpenClaim := { program := "ytifkggapdaflmaa", sum := "c1d675434e30e127a9bf142cafb41ca04dc5af022415acf26360ac32fdff7cc0", func := "loop.example/g01243/laws.FnExactCountSubstrings", spec := "fnExactCountSubstrings", unfollowed := true, recurses := true, apart := false, narrowed := true }
def FnExactCountSubstringsUptoSaid : Prop := fnExactCountSubstringsUptoRow.holds Try.pinned (OpenSpec.upto fnExactCountSubstringsSpec)

/-- 'laws.FnExactCountOfLength', WHERE WHAT IT READS IS OF BULK AT MOST 1048576: true; the input reads as it did. -/
def fnExactCountOfLengthUptoRow : OpenClaim := { program := "ytifkggapdaflmaa", sum := "c1d675434e30e127a9bf142cafb41ca04dc5af022415acf26360ac32fdff7cc0", func := "loop.example/g01243/laws.FnExactCountOfLength", spec := "fnExactCountOfLength", unfollowed := true, recurses := true, apart := false, narrowed := true }
def FnExactCountOfLengthUptoSaid : Prop := fnExactCountOfLengthUptoRow.holds Try.pinned (OpenSpec.upto fnExactCountOfLengthSpec)

/-- 'laws.FnExactOccursAt', WHERE WHAT IT READS IS OF BULK AT MOST 1048576: true; the input reads as it did. -/
def fnExactOccursAtUptoRow : OpenClaim := { program := "ytifkggapdaflmaa", sum := "c1d675434e30e127a9bf142cafb41ca04dc5af022415acf26360ac32fdff7cc0", func := "loop.example/g01243/laws.FnExactOccursAt", spec := "fnExactOccursAt", apart := false, narrowed := true }
def FnExactOccursAtUptoSaid : Prop := fnExactOccursAtUptoRow.holds Try.pinned (OpenSpec.upto fnExactOccursAtSpec)

/-- 'laws.FnExactEndsOf', WHERE WHAT IT READS IS OF BULK AT MOST 1048576: true; the input reads as it did. -/
def fnExactEndsOfUptoRow : OpenClaim := { program := "ytifkggapdaflmaa", sum := "c1d675434e30e127a9bf142cafb41ca04dc5af022415acf26360ac32fdff7cc0", func := "loop.example/g01243/laws.FnExactEndsOf", spec := "fnExactEndsOf", recurses := true, apart := false, narrowed := true }
def FnExactEndsOfUptoSaid : Prop := fnExactEndsOfUptoRow.holds Try.pinned (OpenSpec.upto fnExactEndsOfSpec)

/-- 'laws.FnExactCommonWithNext', WHERE WHAT IT READS IS OF BULK AT MOST 1048576: true; the input reads as it did. -/
def fnExactCommonWithNextUptoRow : OpenClaim := { program := "ytifkggapdaflmaa", sum := "c1d675434e30e127a9bf142cafb41ca04dc5af022415acf26360ac32fdff7cc0", func := "loop.example/g01243/laws.FnExactCommonWithNext", spec := "fnExactCommonWithNext", recurses := true, apart := false, narrowed := true }
def FnExactCommonWithNextUptoSaid : Prop := fnExactCommonWithNextUptoRow.holds Try.pinned (OpenSpec.upto fnExactCommonWithNextSpec)

end Rows
end Go.Proofs.Ytifkggapdaflmaa
