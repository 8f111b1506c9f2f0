/-
  No cell of these rows narrows 'for every input' (looked for: loops, veiled, ifaces, maps, wideKeys, modest, calm, conditions, laid).
  DERIVED. THE GIVEN ROWS OF THIS SEAT. 6 by the template 'for every input the law returns true; each argument reads behind the call as it read before'; 0 by the template 'total and deterministic' (their statements: YtibdfhhbkbncgaaTotals.lean).
  GIVEN WITH THE SEED: the statements are not yours to turn. If you find one false, say at which input.
  Laid BY PROGRAM, IN A SANDBOX (cutbox-rows.mjs): the forced cells as the released guide's own fill.sh prints them over the translation 35b85bdaf5854be5… (all of the seat's roots in one cut). By AI agents, Wed Nov 11 2026. No macro, syntax, notation, axiom, sorry.
-/
import Derived.Test.YtibdfhhbkbncgaaChecked
import GoSem.Claim
import GoSem.ClaimJoined
import GoSem.ClaimMapViews
import Derived.JoinedTies
import Derived.KernelRfl
namespace Go.Proofs.Ytibdfhhbkbncgaa
/- THE CELL 'sum', in the pinned program and in every row, IS THE sha256 OF THE DUMP (.gsa) THAT YtibdfhhbkbncgaaProg.lean LOADS. Nothing in Lean hashes anything: it is a label: what it is worth is what the hold of that sum in a sandbox is worth. -/
noncomputable def Try.pinned : Pinned := { name := "ytibdfhhbkbncgaa", sum := "35b85bdaf5854be5dbe7af7aae488b3cd39c88ec398a54cd858b10c6d6a478db", checked := Try.checked }
namespace Rows
def none {H : Type} : Left H := { results := [], args := [] }

/-- 'laws.FnExactChanceUnder': WHATEVER THE INPUT: true; the input reads as it did. -/
def fnExactChanceUnderSpec : ChangeSpec := { name := "fnExactChanceUnder", fn := fun _ => fun
  | [d1, d2] => { results := [.lit (.bool true)], args := [d1, d2] }
  | _ => none }
def fnExactChanceUnderRow : OpenClaim := { program := "ytibdfhhbkbncgaa", sum := "35b85bdaf5854be5dbe7af7aae488b3cd39c88ec398a54cd858b10c6d6a478db", func := "loop.example/g01243/laws.FnExactChanceUnder", spec := "fnExactChanceUnder", apart := false }
def FnExactChanceUnderSaid : Prop := fnExactChanceUnderRow.holds Try.pinned (OpenSpec.ofChange fnExactChanceUnderSpec)

/-- ITS FALSE NEIGHBOUR: 'it returns false'. Refute it at one input. -/
def fnExactChanceUnderWrong : ChangeSpec := { name := "fnExactChanceUnder", fn := fun _ => fun
  | [d1, d2] => { results := [.lit (.bool false)], args := [d1, d2] }
  | _ => none }
def FnExactChanceUnderWrongFalsely : Prop := fnExactChanceUnderRow.holds Try.pinned (OpenSpec.ofChange fnExactChanceUnderWrong)

/-- 'laws.FnExactMeanLetters': WHATEVER THE INPUT: true; the input reads as it did. -/
def fnExactMeanLettersSpec : ChangeSpec := { name := "fnExactMeanLetters", fn := fun _ => fun
  | [d] => { results := [.lit (.bool true)], args := [d] }
  | _ => none }
def fnExactMeanLettersRow : OpenClaim := { program := "ytibdfhhbkbncgaa", sum := "35b85bdaf5854be5dbe7af7aae488b3cd39c88ec398a54cd858b10c6d6a478db", func := "loop.example/g01243/laws.FnExactMeanLetters", spec := "fnExactMeanLetters", unfollowed := true, recurses := true, apart := false }
def FnExactMeanLettersSaid : Prop := fnExactMeanLettersRow.holds Try.pinned (OpenSpec.ofChange fnExactMeanLettersSpec)

/-- ITS FALSE NEIGHBOUR: 'it returns false'. Refute it at one input. -/
def fnExactMeanLettersWrong : ChangeSpec := { name := "fnExactMeanLetters", fn := fun _ => fun
  | [d] => { results := [.lit (.bool false)], args := [d] }
  | _ => none }
def FnExactMeanLettersWrongFalsely : Prop := fnExactMeanLettersRow.holds Try.pinned (OpenSpec.ofChange fnExactMeanLettersWrong)

/-- 'laws.FnExactChanceSameStart': WHATEVER THE INPUT: true; the input reads as it did. -/
def fnExactChanceSameStartSpec : ChangeSpec := { name := "fnExactChanceSameStart", fn := fun _ => fun
  | [d1, d2] => { results := [.lit (.bool true)], args := [d1, d2] }
  | _ => none }
def fnExactChanceSameStartRow : OpenClaim := { program := "ytibdfhhbkbncgaa", sum := "35b85bdaf5854be5dbe7af7aae488b3cd39c88ec398a54cd858b10c6d6a478db", func := "loop.example/g01243/laws.FnExactChanceSameStart", spec := "fnExactChanceSameStart", unfollowed := true, recurses := true, apart := false }
def FnExactChanceSameStartSaid : Prop := fnExactChanceSameStartRow.holds Try.pinned (OpenSpec.ofChange fnExactChanceSameStartSpec)

/-- ITS FALSE NEIGHBOUR: 'it returns false'. Refute it at one input. -/
def fnExactChanceSameStartWrong : ChangeSpec := { name := "fnExactChanceSameStart", fn := fun _ => fun
  | [d1, d2] => { results := [.lit (.bool false)], args := [d1, d2] }
  | _ => none }
def FnExactChanceSameStartWrongFalsely : Prop := fnExactChanceSameStartRow.holds Try.pinned (OpenSpec.ofChange fnExactChanceSameStartWrong)

/-- 'laws.FnExactMeanUnique': WHATEVER THE INPUT: true; the input reads as it did. -/
def fnExactMeanUniqueSpec : ChangeSpec := { name := "fnExactMeanUnique", fn := fun _ => fun
  | [d] => { results := [.lit (.bool true)], args := [d] }
  | _ => none }
def fnExactMeanUniqueRow : OpenClaim := { program := "ytibdfhhbkbncgaa", sum := "35b85bdaf5854be5dbe7af7aae488b3cd39c88ec398a54cd858b10c6d6a478db", func := "loop.example/g01243/laws.FnExactMeanUnique", spec := "fnExactMeanUnique", unfollowed := true, recurses := true, apart := false }
def FnExactMeanUniqueSaid : Prop := fnExactMeanUniqueRow.holds Try.pinned (OpenSpec.ofChange fnExactMeanUniqueSpec)

/-- ITS FALSE NEIGHBOUR: 'it returns false'. Refute it at one input. -/
def fnExactMeanUniqueWrong : ChangeSpec := { name := "fnExactMeanUnique", fn := fun _ => fun
  | [d] => { results := [.lit (.bool false)], args := [d] }
  | _ => none }
def FnExactMeanUniqueWrongFalsely : Prop := fnExactMeanUniqueRow.holds Try.pinned (OpenSpec.ofChange fnExactMeanUniqueWrong)

/-- 'laws.FnExactMeanCommon': WHATEVER THE INPUT: true; the input reads as it did. -/
def fnExactMeanCommonSpec : ChangeSpec := { name := "fnExactMeanCommon", fn := fun _ => fun
  | [d] => { results := [.lit (.bool true)], args := [d] }
  | _ => none }
def fnExactMeanCommonRow : OpenClaim := { program := "ytibdfhhbkbncgaa", sum := "35b85bdaf5854be5dbe7af7aae488b3cd39c88ec398a54cd858b10c6d6a478db", func := "loop.example/g01243/laws.FnExactMeanCommon", spec := "fnExactMeanCommon", unfollowed := true, recurses := true, apart := false }
def FnExactMeanCommonSaid : Prop := fnExactMeanCommonRow.holds Try.pinned (OpenSpec.ofChange fnExactMeanCommonSpec)

/-- ITS FALSE NEIGHBOUR: 'it returns false'. Refute it at one input. -/
def fnExactMeanCommonWrong : ChangeSpec := { name := "fnExactMeanCommon", fn := fun _ => fun
  | [d] => { results := [.lit (.bool false)], args := [d] }
  | _ => none }
def FnExactMeanCommonWrongFalsely : Prop := fnExactMeanCommonRow.holds Try.pinned (OpenSpec.ofChange fnExactMeanCommonWrong)

/-- 'laws.FnExactBestLetter': WHATEVER THE INPUT: true; the input reads as it did. -/
def fnExactBestLetterSpec : ChangeSpec := { name := "fnExactBestLetter", fn := fun _ => fun
  | [d] => { results := [.lit (.bool true)], args := [d] }
  | _ => none }
def fnExactBestLetterRow : OpenClaim := { program := "ytibdfhhbkbncgaa", sum := "35b85bdaf5854be5dbe7af7aae488b3cd39c88ec398a54cd858b10c6d6a478db", func := "loop.example/g01243/laws.FnExactBestLetter", spec := "fnExactBestLetter", inPlace := ["internal/bytealg.IndexByteString", "internal/bytealg.IndexString"], unfollowed := true, recurses := true, named := ["internal/bytealg.MaxLen"], apart := false }
def FnExactBestLetterSaid : Prop := fnExactBestLetterRow.holds Try.pinned (OpenSpec.ofChange fnExactBestLetterSpec)

/-- ITS FALSE NEIGHBOUR: 'it returns false'. Refute it at one input. -/
def fnExactBestLetterWrong : ChangeSpec := { name := "fnExactBestLetter", fn := fun _ => fun
  | [d] => { results := [.lit (.bool false)], args := [d] }
  | _ => none }
def FnExactBestLetterWrongFalsely : Prop := fnExactBestLetterRow.holds Try.pinned (OpenSpec.ofChange fnExactBestLetterWrong)

/- THE SECOND FORM. 'bulk': how many values and letters a reading holds, each counted each time it is reached (what is shared counts as often as it is met; a slice's spare places count too). A statement '..UptoSaid' is the law's where the arguments, and the package variables that the reading takes, are together of bulk at most 1048576: NARROWER than '..Said'. Prove '..Said' where nothing that the law and all that it calls make is longer than what came in: it says more and counts as full. Else prove '..UptoSaid'. A law counts once. -/
mutual
def uptoBulk {H : Type} : DataW H → Nat
  | .lit (.string bytes) => bytes.length + 1
  | .lit _ => 1
  | .nil => 1
  | .ptr d => uptoBulk d + 1
  | .slice elems spare => uptoBulkAll elems + uptoBulkAll spare + 1
  | .agg parts => uptoBulkAll parts + 1
  | .iface _ d => uptoBulk d + 1
  | .map entries => uptoBulkEntries entries + 1
  | .held _ => 1
def uptoBulkAll {H : Type} : List (DataW H) → Nat
  | [] => 0
  | d :: r => uptoBulk d + uptoBulkAll r
def uptoBulkEntries {H : Type} : List (Lit × DataW H) → Nat
  | [] => 0
  | x :: r => uptoBulkEntry x + uptoBulkEntries r
def uptoBulkEntry {H : Type} : Lit × DataW H → Nat
  | (.string bytes, d) => bytes.length + uptoBulk d + 1
  | (_, d) => uptoBulk d + 1
 end
def uptoSmall : (H : Type) → List (DataW H) → Bool := fun _ ds => decide (uptoBulkAll ds ≤ 1048576)
def OpenSpec.upto (s : _root_.Go.ChangeSpec) : _root_.Go.OpenSpec := { _root_.Go.OpenSpec.ofChange s with cond := some uptoSmall }

/-- 'laws.FnExactChanceUnder', WHERE WHAT IT READS IS OF BULK AT MOST 1048576: true; the input reads as it did. -/
def fnExactChanceUnderUptoRow : OpenClaim := { program := "ytibdfhhbkbncgaa", sum := "35b85bdaf5854be5dbe7af7aae488b3cd39c88ec398a54cd858b10c6d6a478db", func := "loop.example/g01243/laws.FnExactChanceUnder", spec := "fnExactChanceUnder", apart := false, narrowed := true }
def FnExactChanceUnderUptoSaid : Prop := fnExactChanceUnderUptoRow.holds Try.pinned (OpenSpec.upto fnExactChanceUnderSpec)

/-- 'laws.FnExactMeanLetters', WHERE WHAT IT READS IS OF BULK AT MOST 1048576: true; the input reads as it did. -/
def fnExactMeanLettersUptoRow : OpenClaim := { program := "ytibdfhhbkbncgaa", sum := "35b85bdaf5854be5dbe7af7aae488b3cd39c88ec398a54cd858b10c6d6a478db", func := "loop.example/g01243/laws.FnExactMeanLetters", spec := "fnExactMeanLetters", unfollowed := true, recurses := true, apart := false, narrowed := true }
def FnExactMeanLettersUptoSaid : Prop := fnExactMeanLettersUptoRow.holds Try.pinned (OpenSpec.upto fnExactMeanLettersSpec)

/-- 'laws.FnExactChanceSameStart', WHERE WHAT IT READS IS OF BULK AT MOST 1048576: true; the input reads as it did. -/
def fnExactChanceSameStartUptoRow : OpenClaim := { program := "ytibdfhhbkbncgaa", sum := "35b85bdaf5854be5dbe7af7aae488b3cd39c88ec398a54cd858b10c6d6a478db", func := "loop.example/g01243/laws.FnExactChanceSameStart", spec := "fnExactChanceSameStart", unfollowed := true, recurses := true, apart := false, narrowed := true }
def FnExactChanceSameStartUptoSaid : Prop := fnExactChanceSameStartUptoRow.holds Try.pinned (OpenSpec.upto fnExactChanceSameStartSpec)

/-- 'laws.FnExactMeanUnique', WHERE WHAT IT READS IS OF BULK AT MOST 1048576: true; the input reads as it did. -/
def fnExactMeanUniqueUptoRow : OpenClaim := { program := "ytibdfhhbkbncgaa", sum := "35b85bdaf5854be5dbe7af7aae488b3cd39c88ec398a54cd858b10c6d6a478db", func := "loop.example/g01243/laws.FnExactMeanUnique", spec := "fnExactMeanUnique", unfollowed := true, recurses := true, apart := false, narrowed := true }
def FnExactMeanUniqueUptoSaid : Prop := fnExactMeanUniqueUptoRow.holds Try.pinned (OpenSpec.upto fnExactMeanUniqueSpec)

/-- 'laws.FnExactMeanCommon', WHERE WHAT IT READS IS OF BULK AT MOST 1048576: true; the input reads as it did. -/
def fnExactMeanCommonUptoRow : OpenClaim := { program := "ytibdfhhbkbncgaa", sum := "35b85bdaf5854be5dbe7af7aae488b3cd39c88ec398a54cd858b10c6d6a478db", func := "loop.example/g01243/laws.FnExactMeanCommon", spec := "fnExactMeanCommon", unfollowed := true, recurses := true, apart := false, narrowed := true }
def FnExactMeanCommonUptoSaid : Prop := fnExactMeanCommonUptoRow.holds Try.pinned (OpenSpec.upto fnExactMeanCommonSpec)

/-- 'laws.FnExactBestLetter', WHERE WHAT IT READS IS OF BULK AT MOST 1048576: true; the input reads as it did. -/
def fnExactBestLetterUptoRow : OpenClaim := { program := "ytibdfhhbkbncgaa", sum := "35b85bdaf5854be5dbe7af7aae488b3cd39c88ec398a54cd858b10c6d6a478db", func := "loop.example/g01243/laws.FnExactBestLetter", spec := "fnExactBestLetter", inPlace := ["internal/bytealg.IndexByteString", "internal/bytealg.IndexString"], unfollowed := true, recurses := true, named := ["internal/bytealg.MaxLen"], apart := false, narrowed := true }
def FnExactBestLetterUptoSaid : Prop := fnExactBestLetterUptoRow.holds Try.pinned (OpenSpec.upto fnExactBestLetterSpec)

end Rows
end Go.Proofs.Ytibdfhhbkbncgaa
