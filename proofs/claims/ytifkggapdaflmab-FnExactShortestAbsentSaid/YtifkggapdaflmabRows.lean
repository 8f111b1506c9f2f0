/-
  No cell of these rows narrows 'for every input' (looked for: loops, veiled, ifaces, maps, wideKeys, modest, calm, conditions, laid).
  DERIVED. THE GIVEN ROWS OF THIS SEAT. 7 by the template 'for every input the law returns true; each argument reads behind the call as it read before'; 0 by the template 'total and deterministic' (their statements: YtifkggapdaflmabTotals.lean).
  GIVEN WITH THE SEED: the statements are not yours to turn. If you find one false, say at which input.
  Laid BY PROGRAM, IN A SANDBOX (cutbox-rows.mjs): the forced cells as the released guide's own fill.sh prints them over the translation 37e9f54467a90a9b… (all of the seat's roots in one cut). By AI agents, Wed Nov 11 2026. No macro, syntax, notation, axiom, sorry.
-/
import Derived.Test.YtifkggapdaflmabChecked
import GoSem.Claim
import GoSem.ClaimJoined
import GoSem.ClaimMapViews
import Derived.JoinedTies
import Derived.KernelRfl
namespace Go.Proofs.Ytifkggapdaflmab
/- THE CELL 'sum', in the pinned program and in every row, IS THE sha256 OF THE DUMP (.gsa) THAT YtifkggapdaflmabProg.lean LOADS. Nothing in Lean hashes anything: it is a label: what it is worth is what the hold of that sum in a sandbox is worth. -/
noncomputable def Try.pinned : Pinned := { name := "ytifkggapdaflmab", sum := "37e9f54467a90a9b0da3ee22315ca4dc4ea1acfe8f9c1d287ba49206de05271b", checked := Try.checked }
namespace Rows
def none {H : Type} : Left H := { results := [], args := [] }

/-- 'laws.FnExactLongestRepeat': WHATEVER THE INPUT: true; the input reads as it did. -/
def fnExactLongestRepeatSpec : ChangeSpec := { name := "fnExactLongestRepeat", fn := fun _ => fun
  | [d] => { results := [.lit (.bool true)], args := [d] }
  | _ => none }
def fnExactLongestRepeatRow : OpenClaim := { program := "ytifkggapdaflmab", sum := "37e9f54467a90a9b0da3ee22315ca4dc4ea1acfe8f9c1d287ba49206de05271b", func := "loop.example/g01243/laws.FnExactLongestRepeat", spec := "fnExactLongestRepeat", unfollowed := true, recurses := true, apart := false }
def FnExactLongestRepeatSaid : Prop := fnExactLongestRepeatRow.holds Try.pinned (OpenSpec.ofChange fnExactLongestRepeatSpec)

/-- ITS FALSE NEIGHBOUR: 'it returns false'. Refute it at one input. -/
def fnExactLongestRepeatWrong : ChangeSpec := { name := "fnExactLongestRepeat", fn := fun _ => fun
  | [d] => { results := [.lit (.bool false)], args := [d] }
  | _ => none }
def FnExactLongestRepeatWrongFalsely : Prop := fnExactLongestRepeatRow.holds Try.pinned (OpenSpec.ofChange fnExactLongestRepeatWrong)

/-- 'laws.FnExactShortestOnce': WHATEVER THE INPUT: true; the input reads as it did. -/
def fnExactShortestOnceSpec : ChangeSpec := { name := "fnExactShortestOnce", fn := fun _ => fun
  | [d] => { results := [.lit (.bool true)], args := [d] }
  | _ => none }
def fnExactShortestOnceRow : OpenClaim := { program := "ytifkggapdaflmab", sum := "37e9f54467a90a9b0da3ee22315ca4dc4ea1acfe8f9c1d287ba49206de05271b", func := "loop.example/g01243/laws.FnExactShortestOnce", spec := "fnExactShortestOnce", unfollowed := true, recurses := true, apart := false }
def FnExactShortestOnceSaid : Prop := fnExactShortestOnceRow.holds Try.pinned (OpenSpec.ofChange fnExactShortestOnceSpec)

/-- ITS FALSE NEIGHBOUR: 'it returns false'. Refute it at one input. -/
def fnExactShortestOnceWrong : ChangeSpec := { name := "fnExactShortestOnce", fn := fun _ => fun
  | [d] => { results := [.lit (.bool false)], args := [d] }
  | _ => none }
def FnExactShortestOnceWrongFalsely : Prop := fnExactShortestOnceRow.holds Try.pinned (OpenSpec.ofChange fnExactShortestOnceWrong)

/-- 'laws.FnExactShortestAbsent': WHATEVER THE INPUT: true; the input reads as it did. -/
def fnExactShortestAbsentSpec : ChangeSpec := { name := "fnExactShortestAbsent", fn := fun _ => fun
  | [d1, d2] => { results := [.lit (.bool true)], args := [d1, d2] }
  | _ => none }
def fnExactShortestAbsentRow : OpenClaim := { program := "ytifkggapdaflmab", sum := "37e9f54467a90a9b0da3ee22315ca4dc4ea1acfe8f9c1d287ba49206de05271b", func := "loop.example/g01243/laws.FnExactShortestAbsent", spec := "fnExactShortestAbsent", inPlace := ["internal/bytealg.IndexByteString", "internal/bytealg.IndexString"], named := ["internal/bytealg.MaxLen"], apart := false }
def FnExactShortestAbsentSaid : Prop := fnExactShortestAbsentRow.holds Try.pinned (OpenSpec.ofChange fnExactShortestAbsentSpec)

/-- ITS FALSE NEIGHBOUR: 'it returns false'. Refute it at one input. -/
def fnExactShortestAbsentWrong : ChangeSpec := { name := "fnExactShortestAbsent", fn := fun _ => fun
  | [d1, d2] => { results := [.lit (.bool false)], args := [d1, d2] }
  | _ => none }
def FnExactShortestAbsentWrongFalsely : Prop := fnExactShortestAbsentRow.holds Try.pinned (OpenSpec.ofChange fnExactShortestAbsentWrong)

/-- 'laws.FnExactCommonSubstring': WHATEVER THE INPUT: true; the input reads as it did. -/
def fnExactCommonSubstringSpec : ChangeSpec := { name := "fnExactCommonSubstring", fn := fun _ => fun
  | [d1, d2] => { results := [.lit (.bool true)], args := [d1, d2] }
  | _ => none }
def fnExactCommonSubstringRow : OpenClaim := { program := "ytifkggapdaflmab", sum := "37e9f54467a90a9b0da3ee22315ca4dc4ea1acfe8f9c1d287ba49206de05271b", func := "loop.example/g01243/laws.FnExactCommonSubstring", spec := "fnExactCommonSubstring", inPlace := ["internal/bytealg.IndexByteString", "internal/bytealg.IndexString"], unfollowed := true, recurses := true, named := ["internal/bytealg.MaxLen"], apart := false }
def FnExactCommonSubstringSaid : Prop := fnExactCommonSubstringRow.holds Try.pinned (OpenSpec.ofChange fnExactCommonSubstringSpec)

/-- ITS FALSE NEIGHBOUR: 'it returns false'. Refute it at one input. -/
def fnExactCommonSubstringWrong : ChangeSpec := { name := "fnExactCommonSubstring", fn := fun _ => fun
  | [d1, d2] => { results := [.lit (.bool false)], args := [d1, d2] }
  | _ => none }
def FnExactCommonSubstringWrongFalsely : Prop := fnExactCommonSubstringRow.holds Try.pinned (OpenSpec.ofChange fnExactCommonSubstringWrong)

/-- 'laws.FnExactSquaresOf': WHATEVER THE INPUT: true; the input reads as it did. -/
def fnExactSquaresOfSpec : ChangeSpec := { name := "fnExactSquaresOf", fn := fun _ => fun
  | [d] => { results := [.lit (.bool true)], args := [d] }
  | _ => none }
def fnExactSquaresOfRow : OpenClaim := { program := "ytifkggapdaflmab", sum := "37e9f54467a90a9b0da3ee22315ca4dc4ea1acfe8f9c1d287ba49206de05271b", func := "loop.example/g01243/laws.FnExactSquaresOf", spec := "fnExactSquaresOf", unfollowed := true, recurses := true, apart := false }
def FnExactSquaresOfSaid : Prop := fnExactSquaresOfRow.holds Try.pinned (OpenSpec.ofChange fnExactSquaresOfSpec)

/-- ITS FALSE NEIGHBOUR: 'it returns false'. Refute it at one input. -/
def fnExactSquaresOfWrong : ChangeSpec := { name := "fnExactSquaresOf", fn := fun _ => fun
  | [d] => { results := [.lit (.bool false)], args := [d] }
  | _ => none }
def FnExactSquaresOfWrongFalsely : Prop := fnExactSquaresOfRow.holds Try.pinned (OpenSpec.ofChange fnExactSquaresOfWrong)

/-- 'laws.FnExactTurnsBack': WHATEVER THE INPUT: true; the input reads as it did. -/
def fnExactTurnsBackSpec : ChangeSpec := { name := "fnExactTurnsBack", fn := fun _ => fun
  | [d] => { results := [.lit (.bool true)], args := [d] }
  | _ => none }
def fnExactTurnsBackRow : OpenClaim := { program := "ytifkggapdaflmab", sum := "37e9f54467a90a9b0da3ee22315ca4dc4ea1acfe8f9c1d287ba49206de05271b", func := "loop.example/g01243/laws.FnExactTurnsBack", spec := "fnExactTurnsBack", unfollowed := true, recurses := true, apart := false }
def FnExactTurnsBackSaid : Prop := fnExactTurnsBackRow.holds Try.pinned (OpenSpec.ofChange fnExactTurnsBackSpec)

/-- ITS FALSE NEIGHBOUR: 'it returns false'. Refute it at one input. -/
def fnExactTurnsBackWrong : ChangeSpec := { name := "fnExactTurnsBack", fn := fun _ => fun
  | [d] => { results := [.lit (.bool false)], args := [d] }
  | _ => none }
def FnExactTurnsBackWrongFalsely : Prop := fnExactTurnsBackRow.holds Try.pinned (OpenSpec.ofChange fnExactTurnsBackWrong)

/-- 'laws.FnExactSubstringTrie': WHATEVER THE INPUT: true; the input reads as it did. -/
def fnExactSubstringTrieSpec : ChangeSpec := { name := "fnExactSubstringTrie", fn := fun _ => fun
  | [d] => { results := [.lit (.bool true)], args := [d] }
  | _ => none }
def fnExactSubstringTrieRow : OpenClaim := { program := "ytifkggapdaflmab", sum := "37e9f54467a90a9b0da3ee22315ca4dc4ea1acfe8f9c1d287ba49206de05271b", func := "loop.example/g01243/laws.FnExactSubstringTrie", spec := "fnExactSubstringTrie", unfollowed := true, recurses := true, apart := false }
def FnExactSubstringTrieSaid : Prop := fnExactSubstringTrieRow.holds Try.pinned (OpenSpec.ofChange fnExactSubstringTrieSpec)

/-- ITS FALSE NEIGHBOUR: 'it returns false'. Refute it at one input. -/
def fnExactSubstringTrieWrong : ChangeSpec := { name := "fnExactSubstringTrie", fn := fun _ => fun
  | [d] => { results := [.lit (.bool false)], args := [d] }
  | _ => none }
def FnExactSubstringTrieWrongFalsely : Prop := fnExactSubstringTrieRow.holds Try.pinned (OpenSpec.ofChange fnExactSubstringTrieWrong)

/- THE SECOND FORM. 'bulk': how many values and letters a reading holds, each counted each time it is reached (what is shared counts as often as it is met; a slice's spare places count too). A statement '..UptoSaid' is the law's where the arguments, and the package variables that the reading takes, are together of bulk at most 1048576: NARROWER than '..Said'. Prove '..Said' where nothing that the law and all that it calls make is longer than what came in: it says more and counts as full. Else prove '..UptoSaid'. A law counts once. -/
mutual
def uptoBulk {H : Type} : DataW H → Nat
  | .lit (.string bytes) => bytes.length + 1
  | .lit _ => 1
  | .nil => 1
  | .ptr d => uptoBulk d + 1
  | .slice elems spare => uptoBulkAll elems + uptoBulkAll spare + 1
  | .agg parts => uptoBulkAll parts + 1
  | .iface _ d => uptoBulk d + 1
  | .map entries => uptoBulkEntries entries + 1
  | .held _ => 1
def uptoBulkAll {H : Type} : List (DataW H) → Nat
  | [] => 0
  | d :: r => uptoBulk d + uptoBulkAll r
def uptoBulkEntries {H : Type} : List (Lit × DataW H) → Nat
  | [] => 0
  | x :: r => uptoBulkEntry x + uptoBulkEntries r
def uptoBulkEntry {H : Type} : Lit × DataW H → Nat
  | (.string bytes, d) => bytes.length + uptoBulk d + 1
  | (_, d) => uptoBulk d + 1
 end
def uptoSmall : (H : Type) → List (DataW H) → Bool := fun _ ds => decide (uptoBulkAll ds ≤ 1048576)
def OpenSpec.upto (s : _root_.Go.ChangeSpec) : _root_.Go.OpenSpec := { _root_.Go.OpenSpec.ofChange s with cond := some uptoSmall }

/-- 'laws.FnExactLongestRepeat', WHERE WHAT IT READS IS OF BULK AT MOST 1048576: true; the input reads as it did. -/
def fnExactLongestRepeatUptoRow : OpenClaim := { program := "ytifkggapdaflmab", sum := "37e9f54467a90a9b0da3ee22315ca4dc4ea1acfe8f9c1d287ba49206de05271b", func := "loop.example/g01243/laws.FnExactLongestRepeat", spec := "fnExactLongestRepeat", unfollowed := true, recurses := true, apart := false, narrowed := true }
def FnExactLongestRepeatUptoSaid : Prop := fnExactLongestRepeatUptoRow.holds Try.pinned (OpenSpec.upto fnExactLongestRepeatSpec)

/-- 'laws.FnExactShortestOnce', WHERE WHAT IT READS IS OF BULK AT MOST 1048576: true; the input reads as it did. -/
def fnExactShortestOnceUptoRow : OpenClaim := { program := "ytifkggapdaflmab", sum := "37e9f54467a90a9b0da3ee22315ca4dc4ea1acfe8f9c1d287ba49206de05271b", func := "loop.example/g01243/laws.FnExactShortestOnce", spec := "fnExactShortestOnce", unfollowed := true, recurses := true, apart := false, narrowed := true }
def FnExactShortestOnceUptoSaid : Prop := fnExactShortestOnceUptoRow.holds Try.pinned (OpenSpec.upto fnExactShortestOnceSpec)

/-- 'laws.FnExactShortestAbsent', WHERE WHAT IT READS IS OF BULK AT MOST 1048576: true; the input reads as it did. -/
def fnExactShortestAbsentUptoRow : OpenClaim := { program := "ytifkggapdaflmab", sum := "37e9f54467a90a9b0da3ee22315ca4dc4ea1acfe8f9c1d287ba49206de05271b", func := "loop.example/g01243/laws.FnExactShortestAbsent", spec := "fnExactShortestAbsent", inPlace := ["internal/bytealg.IndexByteString", "internal/bytealg.IndexString"], named := ["internal/bytealg.MaxLen"], apart := false, narrowed := true }
def FnExactShortestAbsentUptoSaid : Prop := fnExactShortestAbsentUptoRow.holds Try.pinned (OpenSpec.upto fnExactShortestAbsentSpec)

/-- 'laws.FnExactCommonSubstring', WHERE WHAT IT READS IS OF BULK AT MOST 1048576: true; the input reads as it did. -/
def fnExactCommonSubstringUptoRow : OpenClaim := { program := "ytifkggapdaflmab", sum := "37e9f54467a90a9b0da3ee22315ca4dc4ea1acfe8f9c1d287ba49206de05271b", func := "loop.example/g01243/laws.FnExactCommonSubstring", spec := "fnExactCommonSubstring", inPlace := ["internal/bytealg.IndexByteString", "internal/bytealg.IndexString"], unfollowed := true, recurses := true, named := ["internal/bytealg.MaxLen"], apart := false, narrowed := true }
def FnExactCommonSubstringUptoSaid : Prop := fnExactCommonSubstringUptoRow.holds Try.pinned (OpenSpec.upto fnExactCommonSubstringSpec)

/-- 'laws.FnExactSquaresOf', WHERE WHAT IT READS IS OF BULK AT MOST 1048576: true; the input reads as it did. -/
def fnExactSquaresOfUptoRow : OpenClaim := { program := "ytifkggapdaflmab", sum := "37e9f54467a90a9b0da3ee22315ca4dc4ea1acfe8f9c1d287ba49206de05271b", func := "loop.example/g01243/laws.FnExactSquaresOf", spec := "fnExactSquaresOf", unfollowed := true, recurses := true, apart := false, narrowed := true }
def FnExactSquaresOfUptoSaid : Prop := fnExactSquaresOfUptoRow.holds Try.pinned (OpenSpec.upto fnExactSquaresOfSpec)

/-- 'laws.FnExactTurnsBack', WHERE WHAT IT READS IS OF BULK AT MOST 1048576: true; the input reads as it did. -/
def fnExactTurnsBackUptoRow : OpenClaim := { program := "ytifkggapdaflmab", sum := "37e9f54467a90a9b0da3ee22315ca4dc4ea1acfe8f9c1d287ba49206de05271b", func := "loop.example/g01243/laws.FnExactTurnsBack", spec := "fnExactTurnsBack", unfollowed := true, recurses := true, apart := false, narrowed := true }
def FnExactTurnsBackUptoSaid : Prop := fnExactTurnsBackUptoRow.holds Try.pinned (OpenSpec.upto fnExactTurnsBackSpec)

/-- 'laws.FnExactSubstringTrie', WHERE WHAT IT READS IS OF BULK AT MOST 1048576: true; the input reads as it did. -/
def fnExactSubstringTrieUptoRow : OpenClaim := { program := "ytifkggapdaflmab", sum := "37e9f54467a90a9b0da3ee22315ca4dc4ea1acfe8f9c1d287ba49206de05271b", func := "loop.example/g01243/laws.FnExactSubstringTrie", spec := "fnExactSubstringTrie", unfollowed := true, recurses := true, apart := false, narrowed := true }
def FnExactSubstringTrieUptoSaid : Prop := fnExactSubstringTrieUptoRow.holds Try.pinned (OpenSpec.upto fnExactSubstringTrieSpec)

end Rows
end Go.Proofs.Ytifkggapdaflmab
