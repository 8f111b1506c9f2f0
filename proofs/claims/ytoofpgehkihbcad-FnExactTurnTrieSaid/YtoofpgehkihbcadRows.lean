/-
  No cell of these rows narrows 'for every input' (looked for: loops, veiled, ifaces, maps, wideKeys, modest, calm, conditions, laid).
  DERIVED. THE GIVEN ROWS OF THIS SEAT. 5 by the template 'for every input the law returns true; each argument reads behind the call as it read before'; 0 by the template 'total and deterministic' (their statements: YtoofpgehkihbcadTotals.lean).
  GIVEN WITH THE SEED: the statements are not yours to turn. If you find one false, say at which input.
  Laid BY PROGRAM, IN A SANDBOX (cutbox-rows.mjs): the forced cells as the released guide's own fill.sh prints them over the translation d21bfb0e86e57307… (all of the seat's roots in one cut). By AI agents, Wed Nov 11 2026. No macro, syntax, notation, axiom, sorry.
-/
import Derived.Test.YtoofpgehkihbcadChecked
import GoSem.Claim
import GoSem.ClaimJoined
import GoSem.ClaimMapViews
import Derived.JoinedTies
import Derived.KernelRfl
namespace Go.Proofs.Ytoofpgehkihbcad
/- THE CELL 'sum', in the pinned program and in every row, IS THE sha256 OF THE DUMP (.gsa) THAT YtoofpgehkihbcadProg.lean LOADS. Nothing in Lean hashes anything: it is a label: what it is worth is what the hold of that sum in a sandbox is worth. -/
noncomputable def Try.pinned : Pinned := { name := "ytoofpgehkihbcad", sum := "d21bfb0e86e573071ae0d266b336963f71cb40b0424fffaa88c2c2e1561a21b5", checked := Try.checked }
namespace Rows
def none {H : Type} : Left H := { results := [], args := [] }

/-- 'laws.FnExactIsClosed': WHATEVER THE INPUT: true; the input reads as it did. -/
def fnExactIsClosedSpec : ChangeSpec := { name := "fnExactIsClosed", fn := fun _ => fun
  | [d] => { results := [.lit (.bool true)], args := [d] }
  | _ => none }
def fnExactIsClosedRow : OpenClaim := { program := "ytoofpgehkihbcad", sum := "d21bfb0e86e573071ae0d266b336963f71cb40b0424fffaa88c2c2e1561a21b5", func := "loop.example/g01243/laws.FnExactIsClosed", spec := "fnExactIsClosed", apart := false }
def FnExactIsClosedSaid : Prop := fnExactIsClosedRow.holds Try.pinned (OpenSpec.ofChange fnExactIsClosedSpec)

/-- ITS FALSE NEIGHBOUR: 'it returns false'. Refute it at one input. -/
def fnExactIsClosedWrong : ChangeSpec := { name := "fnExactIsClosed", fn := fun _ => fun
  | [d] => { results := [.lit (.bool false)], args := [d] }
  | _ => none }
def FnExactIsClosedWrongFalsely : Prop := fnExactIsClosedRow.holds Try.pinned (OpenSpec.ofChange fnExactIsClosedWrong)

/-- 'laws.FnExactCloseTrie': WHATEVER THE INPUT: true; the input reads as it did. -/
def fnExactCloseTrieSpec : ChangeSpec := { name := "fnExactCloseTrie", fn := fun _ => fun
  | [d] => { results := [.lit (.bool true)], args := [d] }
  | _ => none }
def fnExactCloseTrieRow : OpenClaim := { program := "ytoofpgehkihbcad", sum := "d21bfb0e86e573071ae0d266b336963f71cb40b0424fffaa88c2c2e1561a21b5", func := "loop.example/g01243/laws.FnExactCloseTrie", spec := "fnExactCloseTrie", apart := false }
def FnExactCloseTrieSaid : Prop := fnExactCloseTrieRow.holds Try.pinned (OpenSpec.ofChange fnExactCloseTrieSpec)

/-- ITS FALSE NEIGHBOUR: 'it returns false'. Refute it at one input. -/
def fnExactCloseTrieWrong : ChangeSpec := { name := "fnExactCloseTrie", fn := fun _ => fun
  | [d] => { results := [.lit (.bool false)], args := [d] }
  | _ => none }
def FnExactCloseTrieWrongFalsely : Prop := fnExactCloseTrieRow.holds Try.pinned (OpenSpec.ofChange fnExactCloseTrieWrong)

/-- 'laws.FnExactJoinTries': WHATEVER THE INPUT: true; the input reads as it did. -/
def fnExactJoinTriesSpec : ChangeSpec := { name := "fnExactJoinTries", fn := fun _ => fun
  | [d1, d2] => { results := [.lit (.bool true)], args := [d1, d2] }
  | _ => none }
def fnExactJoinTriesRow : OpenClaim := { program := "ytoofpgehkihbcad", sum := "d21bfb0e86e573071ae0d266b336963f71cb40b0424fffaa88c2c2e1561a21b5", func := "loop.example/g01243/laws.FnExactJoinTries", spec := "fnExactJoinTries", recurses := true, apart := false }
def FnExactJoinTriesSaid : Prop := fnExactJoinTriesRow.holds Try.pinned (OpenSpec.ofChange fnExactJoinTriesSpec)

/-- ITS FALSE NEIGHBOUR: 'it returns false'. Refute it at one input. -/
def fnExactJoinTriesWrong : ChangeSpec := { name := "fnExactJoinTries", fn := fun _ => fun
  | [d1, d2] => { results := [.lit (.bool false)], args := [d1, d2] }
  | _ => none }
def FnExactJoinTriesWrongFalsely : Prop := fnExactJoinTriesRow.holds Try.pinned (OpenSpec.ofChange fnExactJoinTriesWrong)

/-- 'laws.FnExactBehindPrefix': WHATEVER THE INPUT: true; the input reads as it did. -/
def fnExactBehindPrefixSpec : ChangeSpec := { name := "fnExactBehindPrefix", fn := fun _ => fun
  | [d1, d2] => { results := [.lit (.bool true)], args := [d1, d2] }
  | _ => none }
def fnExactBehindPrefixRow : OpenClaim := { program := "ytoofpgehkihbcad", sum := "d21bfb0e86e573071ae0d266b336963f71cb40b0424fffaa88c2c2e1561a21b5", func := "loop.example/g01243/laws.FnExactBehindPrefix", spec := "fnExactBehindPrefix", recurses := true, apart := false }
def FnExactBehindPrefixSaid : Prop := fnExactBehindPrefixRow.holds Try.pinned (OpenSpec.ofChange fnExactBehindPrefixSpec)

/-- ITS FALSE NEIGHBOUR: 'it returns false'. Refute it at one input. -/
def fnExactBehindPrefixWrong : ChangeSpec := { name := "fnExactBehindPrefix", fn := fun _ => fun
  | [d1, d2] => { results := [.lit (.bool false)], args := [d1, d2] }
  | _ => none }
def FnExactBehindPrefixWrongFalsely : Prop := fnExactBehindPrefixRow.holds Try.pinned (OpenSpec.ofChange fnExactBehindPrefixWrong)

/-- 'laws.FnExactTurnTrie': WHATEVER THE INPUT: true; the input reads as it did. -/
def fnExactTurnTrieSpec : ChangeSpec := { name := "fnExactTurnTrie", fn := fun _ => fun
  | [d] => { results := [.lit (.bool true)], args := [d] }
  | _ => none }
def fnExactTurnTrieRow : OpenClaim := { program := "ytoofpgehkihbcad", sum := "d21bfb0e86e573071ae0d266b336963f71cb40b0424fffaa88c2c2e1561a21b5", func := "loop.example/g01243/laws.FnExactTurnTrie", spec := "fnExactTurnTrie", unfollowed := true, recurses := true, apart := false }
def FnExactTurnTrieSaid : Prop := fnExactTurnTrieRow.holds Try.pinned (OpenSpec.ofChange fnExactTurnTrieSpec)

/-- ITS FALSE NEIGHBOUR: 'it returns false'. Refute it at one input. -/
def fnExactTurnTrieWrong : ChangeSpec := { name := "fnExactTurnTrie", fn := fun _ => fun
  | [d] => { results := [.lit (.bool false)], args := [d] }
  | _ => none }
def FnExactTurnTrieWrongFalsely : Prop := fnExactTurnTrieRow.holds Try.pinned (OpenSpec.ofChange fnExactTurnTrieWrong)

/- THE SECOND FORM. 'bulk': how many values and letters a reading holds, each counted each time it is reached (what is shared counts as often as it is met; a slice's spare places count too). A statement '..UptoSaid' is the law's where the arguments, and the package variables that the reading takes, are together of bulk at most 1048576: NARROWER than '..Said'. Prove '..Said' where nothing that the law and all that it calls make is longer than what came in: it says more and counts as full. Else prove '..UptoSaid'. A law counts once. -/
mutual
def uptoBulk {H : Type} : DataW H → Nat
  | .lit (.string bytes) => bytes.length + 1
  | .lit _ => 1
  | .nil => 1
  | .ptr d => uptoBulk d + 1
  | .slice elems spare => uptoBulkAll elems + uptoBulkAll spare + 1
  | .agg parts => uptoBulkAll parts + 1
  | .iface _ d => uptoBulk d + 1
  | .map entries => uptoBulkEntries entries + 1
  | .held _ => 1
def uptoBulkAll {H : Type} : List (DataW H) → Nat
  | [] => 0
  | d :: r => uptoBulk d + uptoBulkAll r
def uptoBulkEntries {H : Type} : List (Lit × DataW H) → Nat
  | [] => 0
  | x :: r => uptoBulkEntry x + uptoBulkEntries r
def uptoBulkEntry {H : Type} : Lit × DataW H → Nat
  | (.string bytes, d) => bytes.length + uptoBulk d + 1
  | (_, d) => uptoBulk d + 1
 end
def uptoSmall : (H : Type) → List (DataW H) → Bool := fun _ ds => decide (uptoBulkAll ds ≤ 1048576)
def OpenSpec.upto (s : _root_.Go.ChangeSpec) : _root_.Go.OpenSpec := { _root_.Go.OpenSpec.ofChange s with cond := some uptoSmall }

/-- 'laws.FnExactIsClosed', WHERE WHAT IT READS IS OF BULK AT MOST 1048576: true; the input reads as it did. -/
def fnExactIsClosedUptoRow : OpenClaim := { program := "ytoofpgehkihbcad", sum := "d21bfb0e86e573071ae0d266b336963f71cb40b0424fffaa88c2c2e1561a21b5", func := "loop.example/g01243/laws.FnExactIsClosed", spec := "fnExactIsClosed", apart := false, narrowed := true }
def FnExactIsClosedUptoSaid : Prop := fnExactIsClosedUptoRow.holds Try.pinned (OpenSpec.upto fnExactIsClosedSpec)

/-- 'laws.FnExactCloseTrie', WHERE WHAT IT READS IS OF BULK AT MOST 1048576: true; the input reads as it did. -/
def fnExactCloseTrieUptoRow : OpenClaim := { program := "ytoofpgehkihbcad", sum := "d21bfb0e86e573071ae0d266b336963f71cb40b0424fffaa88c2c2e1561a21b5", func := "loop.example/g01243/laws.FnExactCloseTrie", spec := "fnExactCloseTrie", apart := false, narrowed := true }
def FnExactCloseTrieUptoSaid : Prop := fnExactCloseTrieUptoRow.holds Try.pinned (OpenSpec.upto fnExactCloseTrieSpec)

/-- 'laws.FnExactJoinTries', WHERE WHAT IT READS IS OF BULK AT MOST 1048576: true; the input reads as it did. -/
def fnExactJoinTriesUptoRow : OpenClaim := { program := "ytoofpgehkihbcad", sum := "d21bfb0e86e573071ae0d266b336963f71cb40b0424fffaa88c2c2e1561a21b5", func := "loop.example/g01243/laws.FnExactJoinTries", spec := "fnExactJoinTries", recurses := true, apart := false, narrowed := true }
def FnExactJoinTriesUptoSaid : Prop := fnExactJoinTriesUptoRow.holds Try.pinned (OpenSpec.upto fnExactJoinTriesSpec)

/-- 'laws.FnExactBehindPrefix', WHERE WHAT IT READS IS OF BULK AT MOST 1048576: true; the input reads as it did. -/
def fnExactBehindPrefixUptoRow : OpenClaim := { program := "ytoofpgehkihbcad", sum := "d21bfb0e86e573071ae0d266b336963f71cb40b0424fffaa88c2c2e1561a21b5", func := "loop.example/g01243/laws.FnExactBehindPrefix", spec := "fnExactBehindPrefix", recurses := true, apart := false, narrowed := true }
def FnExactBehindPrefixUptoSaid : Prop := fnExactBehindPrefixUptoRow.holds Try.pinned (OpenSpec.upto fnExactBehindPrefixSpec)

/-- 'laws.FnExactTurnTrie', WHERE WHAT IT READS IS OF BULK AT MOST 1048576: true; the input reads as it did. -/
def fnExactTurnTrieUptoRow : OpenClaim := { program := "ytoofpgehkihbcad", sum := "d21bfb0e86e573071ae0d266b336963f71cb40b0424fffaa88c2c2e1561a21b5", func := "loop.example/g01243/laws.FnExactTurnTrie", spec := "fnExactTurnTrie", unfollowed := true, recurses := true, apart := false, narrowed := true }
def FnExactTurnTrieUptoSaid : Prop := fnExactTurnTrieUptoRow.holds Try.pinned (OpenSpec.upto fnExactTurnTrieSpec)

end Rows
end Go.Proofs.Ytoofpgehkihbcad
