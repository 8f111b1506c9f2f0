/-
  No cell of these rows narrows 'for every input' (looked for: loops, veiled, ifaces, maps, wideKeys, modest, calm, conditions, laid).
  DERIVED. THE GIVEN ROWS OF THIS SEAT. 8 by the template 'for every input the law returns true; each argument reads behind the call as it read before'; 0 by the template 'total and deterministic' (their statements: YtjcaikfejgeknabTotals.lean).
  GIVEN WITH THE SEED: the statements are not yours to turn. If you find one false, say at which input.
  Laid BY PROGRAM, IN A SANDBOX (cutbox-rows.mjs): the forced cells as the released guide's own fill.sh prints them over the translation bec2ddd99f27ab79… (all of the seat's roots in one cut). By AI agents, Wed Nov 11 2026. No macro, syntax, notation, axiom, sorry.
-/
import Derived.Test.YtjcaikfejgeknabChecked
import GoSem.Claim
import GoSem.ClaimJoined
import GoSem.ClaimMapViews
import Derived.JoinedTies
import Derived.KernelRfl
namespace Go.Proofs.Ytjcaikfejgeknab
/- THE CELL 'sum', in the pinned program and in every row, IS THE sha256 OF THE DUMP (.gsa) THAT YtjcaikfejgeknabProg.lean LOADS. Nothing in Lean hashes anything: it is a label: what it is worth is what the hold of that sum in a sandbox is worth. -/
noncomputable def Try.pinned : Pinned := { name := "ytjcaikfejgeknab", sum := "bec2ddd99f27ab79590fad5cdc9602e75794de34345944a1e1ac4ae1c3fb2c3d", checked := Try.checked }
namespace Rows
def none {H : Type} : Left H := { results := [], args := [] }

/-- 'laws.FnExactRankOf': WHATEVER THE INPUT: true; the input reads as it did. -/
def fnExactRankOfSpec : ChangeSpec := { name := "fnExactRankOf", fn := fun _ => fun
  | [d1, d2] => { results := [.lit (.bool true)], args := [d1, d2] }
  | _ => none }
def fnExactRankOfRow : OpenClaim := { program := "ytjcaikfejgeknab", sum := "bec2ddd99f27ab79590fad5cdc9602e75794de34345944a1e1ac4ae1c3fb2c3d", func := "loop.example/g01243/laws.FnExactRankOf", spec := "fnExactRankOf", apart := false }
def FnExactRankOfSaid : Prop := fnExactRankOfRow.holds Try.pinned (OpenSpec.ofChange fnExactRankOfSpec)

/-- ITS FALSE NEIGHBOUR: 'it returns false'. Refute it at one input. -/
def fnExactRankOfWrong : ChangeSpec := { name := "fnExactRankOf", fn := fun _ => fun
  | [d1, d2] => { results := [.lit (.bool false)], args := [d1, d2] }
  | _ => none }
def FnExactRankOfWrongFalsely : Prop := fnExactRankOfRow.holds Try.pinned (OpenSpec.ofChange fnExactRankOfWrong)

/-- 'laws.FnExactTrieOf': WHATEVER THE INPUT: true; the input reads as it did. -/
def fnExactTrieOfSpec : ChangeSpec := { name := "fnExactTrieOf", fn := fun _ => fun
  | [d] => { results := [.lit (.bool true)], args := [d] }
  | _ => none }
def fnExactTrieOfRow : OpenClaim := { program := "ytjcaikfejgeknab", sum := "bec2ddd99f27ab79590fad5cdc9602e75794de34345944a1e1ac4ae1c3fb2c3d", func := "loop.example/g01243/laws.FnExactTrieOf", spec := "fnExactTrieOf", recurses := true, apart := false }
def FnExactTrieOfSaid : Prop := fnExactTrieOfRow.holds Try.pinned (OpenSpec.ofChange fnExactTrieOfSpec)

/-- ITS FALSE NEIGHBOUR: 'it returns false'. Refute it at one input. -/
def fnExactTrieOfWrong : ChangeSpec := { name := "fnExactTrieOf", fn := fun _ => fun
  | [d] => { results := [.lit (.bool false)], args := [d] }
  | _ => none }
def FnExactTrieOfWrongFalsely : Prop := fnExactTrieOfRow.holds Try.pinned (OpenSpec.ofChange fnExactTrieOfWrong)

/-- 'laws.FnExactAddWord': WHATEVER THE INPUT: true; the input reads as it did. -/
def fnExactAddWordSpec : ChangeSpec := { name := "fnExactAddWord", fn := fun _ => fun
  | [d1, d2] => { results := [.lit (.bool true)], args := [d1, d2] }
  | _ => none }
def fnExactAddWordRow : OpenClaim := { program := "ytjcaikfejgeknab", sum := "bec2ddd99f27ab79590fad5cdc9602e75794de34345944a1e1ac4ae1c3fb2c3d", func := "loop.example/g01243/laws.FnExactAddWord", spec := "fnExactAddWord", recurses := true, apart := false }
def FnExactAddWordSaid : Prop := fnExactAddWordRow.holds Try.pinned (OpenSpec.ofChange fnExactAddWordSpec)

/-- ITS FALSE NEIGHBOUR: 'it returns false'. Refute it at one input. -/
def fnExactAddWordWrong : ChangeSpec := { name := "fnExactAddWord", fn := fun _ => fun
  | [d1, d2] => { results := [.lit (.bool false)], args := [d1, d2] }
  | _ => none }
def FnExactAddWordWrongFalsely : Prop := fnExactAddWordRow.holds Try.pinned (OpenSpec.ofChange fnExactAddWordWrong)

/-- 'laws.FnExactDropWord': WHATEVER THE INPUT: true; the input reads as it did. -/
def fnExactDropWordSpec : ChangeSpec := { name := "fnExactDropWord", fn := fun _ => fun
  | [d1, d2] => { results := [.lit (.bool true)], args := [d1, d2] }
  | _ => none }
def fnExactDropWordRow : OpenClaim := { program := "ytjcaikfejgeknab", sum := "bec2ddd99f27ab79590fad5cdc9602e75794de34345944a1e1ac4ae1c3fb2c3d", func := "loop.example/g01243/laws.FnExactDropWord", spec := "fnExactDropWord", recurses := true, apart := false }
def FnExactDropWordSaid : Prop := fnExactDropWordRow.holds Try.pinned (OpenSpec.ofChange fnExactDropWordSpec)

/-- ITS FALSE NEIGHBOUR: 'it returns false'. Refute it at one input. -/
def fnExactDropWordWrong : ChangeSpec := { name := "fnExactDropWord", fn := fun _ => fun
  | [d1, d2] => { results := [.lit (.bool false)], args := [d1, d2] }
  | _ => none }
def FnExactDropWordWrongFalsely : Prop := fnExactDropWordRow.holds Try.pinned (OpenSpec.ofChange fnExactDropWordWrong)

/-- 'laws.FnExactTrieText': WHATEVER THE INPUT: true; the input reads as it did. -/
def fnExactTrieTextSpec : ChangeSpec := { name := "fnExactTrieText", fn := fun _ => fun
  | [d] => { results := [.lit (.bool true)], args := [d] }
  | _ => none }
def fnExactTrieTextRow : OpenClaim := { program := "ytjcaikfejgeknab", sum := "bec2ddd99f27ab79590fad5cdc9602e75794de34345944a1e1ac4ae1c3fb2c3d", func := "loop.example/g01243/laws.FnExactTrieText", spec := "fnExactTrieText", recurses := true, apart := false }
def FnExactTrieTextSaid : Prop := fnExactTrieTextRow.holds Try.pinned (OpenSpec.ofChange fnExactTrieTextSpec)

/-- ITS FALSE NEIGHBOUR: 'it returns false'. Refute it at one input. -/
def fnExactTrieTextWrong : ChangeSpec := { name := "fnExactTrieText", fn := fun _ => fun
  | [d] => { results := [.lit (.bool false)], args := [d] }
  | _ => none }
def FnExactTrieTextWrongFalsely : Prop := fnExactTrieTextRow.holds Try.pinned (OpenSpec.ofChange fnExactTrieTextWrong)

/-- 'laws.FnExactParseTrie': WHATEVER THE INPUT: true; the input reads as it did. -/
def fnExactParseTrieSpec : ChangeSpec := { name := "fnExactParseTrie", fn := fun _ => fun
  | [d] => { results := [.lit (.bool true)], args := [d] }
  | _ => none }
def fnExactParseTrieRow : OpenClaim := { program := "ytjcaikfejgeknab", sum := "bec2ddd99f27ab79590fad5cdc9602e75794de34345944a1e1ac4ae1c3fb2c3d", func := "loop.example/g01243/laws.FnExactParseTrie", spec := "fnExactParseTrie", recurses := true, apart := false }
def FnExactParseTrieSaid : Prop := fnExactParseTrieRow.holds Try.pinned (OpenSpec.ofChange fnExactParseTrieSpec)

/-- ITS FALSE NEIGHBOUR: 'it returns false'. Refute it at one input. -/
def fnExactParseTrieWrong : ChangeSpec := { name := "fnExactParseTrie", fn := fun _ => fun
  | [d] => { results := [.lit (.bool false)], args := [d] }
  | _ => none }
def FnExactParseTrieWrongFalsely : Prop := fnExactParseTrieRow.holds Try.pinned (OpenSpec.ofChange fnExactParseTrieWrong)

/-- 'laws.FnTries': WHATEVER THE INPUT: true; the input reads as it did. -/
def fnTriesSpec : ChangeSpec := { name := "fnTries", fn := fun _ => fun
  | [d] => { results := [.lit (.bool true)], args := [d] }
  | _ => none }
def fnTriesRow : OpenClaim := { program := "ytjcaikfejgeknab", sum := "bec2ddd99f27ab79590fad5cdc9602e75794de34345944a1e1ac4ae1c3fb2c3d", func := "loop.example/g01243/laws.FnTries", spec := "fnTries", recurses := true, apart := false }
def FnTriesSaid : Prop := fnTriesRow.holds Try.pinned (OpenSpec.ofChange fnTriesSpec)

/-- ITS FALSE NEIGHBOUR: 'it returns false'. Refute it at one input. -/
def fnTriesWrong : ChangeSpec := { name := "fnTries", fn := fun _ => fun
  | [d] => { results := [.lit (.bool false)], args := [d] }
  | _ => none }
def FnTriesWrongFalsely : Prop := fnTriesRow.holds Try.pinned (OpenSpec.ofChange fnTriesWrong)

/-- 'laws.FnNodes': WHATEVER THE INPUT: true; the input reads as it did. -/
def fnNodesSpec : ChangeSpec := { name := "fnNodes", fn := fun _ => fun
  | [d] => { results := [.lit (.bool true)], args := [d] }
  | _ => none }
def fnNodesRow : OpenClaim := { program := "ytjcaikfejgeknab", sum := "bec2ddd99f27ab79590fad5cdc9602e75794de34345944a1e1ac4ae1c3fb2c3d", func := "loop.example/g01243/laws.FnNodes", spec := "fnNodes", apart := false }
def FnNodesSaid : Prop := fnNodesRow.holds Try.pinned (OpenSpec.ofChange fnNodesSpec)

/-- ITS FALSE NEIGHBOUR: 'it returns false'. Refute it at one input. -/
def fnNodesWrong : ChangeSpec := { name := "fnNodes", fn := fun _ => fun
  | [d] => { results := [.lit (.bool false)], args := [d] }
  | _ => none }
def FnNodesWrongFalsely : Prop := fnNodesRow.holds Try.pinned (OpenSpec.ofChange fnNodesWrong)

/- THE SECOND FORM. 'bulk': how many values and letters a reading holds, each counted each time it is reached (what is shared counts as often as it is met; a slice's spare places count too). A statement '..UptoSaid' is the law's where the arguments, and the package variables that the reading takes, are together of bulk at most 1048576: NARROWER than '..Said'. Prove '..Said' where nothing that the law and all that it calls make is longer than what came in: it says more and counts as full. Else prove '..UptoSaid'. A law counts once. -/
mutual
def uptoBulk {H : Type} : DataW H → Nat
  | .lit (.string bytes) => bytes.length + 1
  | .lit _ => 1
  | .nil => 1
  | .ptr d => uptoBulk d + 1
  | .slice elems spare => uptoBulkAll elems + uptoBulkAll spare + 1
  | .agg parts => uptoBulkAll parts + 1
  | .iface _ d => uptoBulk d + 1
  | .map entries => uptoBulkEntries entries + 1
  | .held _ => 1
def uptoBulkAll {H : Type} : List (DataW H) → Nat
  | [] => 0
  | d :: r => uptoBulk d + uptoBulkAll r
def uptoBulkEntries {H : Type} : List (Lit × DataW H) → Nat
  | [] => 0
  | x :: r => uptoBulkEntry x + uptoBulkEntries r
def uptoBulkEntry {H : Type} : Lit × DataW H → Nat
  | (.string bytes, d) => bytes.length + uptoBulk d + 1
  | (_, d) => uptoBulk d + 1
 end
def uptoSmall : (H : Type) → List (DataW H) → Bool := fun _ ds => decide (uptoBulkAll ds ≤ 1048576)
def OpenSpec.upto (s : _root_.Go.ChangeSpec) : _root_.Go.OpenSpec := { _root_.Go.OpenSpec.ofChange s with cond := some uptoSmall }

/-- 'laws.FnExactRankOf', WHERE WHAT IT READS IS OF BULK AT MOST 1048576: true; the input reads as it did. -/
def fnExactRankOfUptoRow : OpenClaim := { program := "ytjcaikfejgeknab", sum := "bec2ddd99f27ab79590fad5cdc9602e75794de34345944a1e1ac4ae1c3fb2c3d", func := "loop.example/g01243/laws.FnExactRankOf", spec := "fnExactRankOf", apart := false, narrowed := true }
def FnExactRankOfUptoSaid : Prop := fnExactRankOfUptoRow.holds Try.pinned (OpenSpec.upto fnExactRankOfSpec)

/-- 'laws.FnExactTrieOf', WHERE WHAT IT READS IS OF BULK AT MOST 1048576: true; the input reads as it did. -/
def fnExactTrieOfUptoRow : OpenClaim := { program := "ytjcaikfejgeknab", sum := "bec2ddd99f27ab79590fad5cdc9602e75794de34345944a1e1ac4ae1c3fb2c3d", func := "loop.example/g01243/laws.FnExactTrieOf", spec := "fnExactTrieOf", recurses := true, apart := false, narrowed := true }
def FnExactTrieOfUptoSaid : Prop := fnExactTrieOfUptoRow.holds Try.pinned (OpenSpec.upto fnExactTrieOfSpec)

/-- 'laws.FnExactAddWord', WHERE WHAT IT READS IS OF BULK AT MOST 1048576: true; the input reads as it did. -/
def fnExactAddWordUptoRow : OpenClaim := { program := "ytjcaikfejgeknab", sum := "bec2ddd99f27ab79590fad5cdc9602e75794de34345944a1e1ac4ae1c3fb2c3d", func := "loop.example/g01243/laws.FnExactAddWord", spec := "fnExactAddWord", recurses := true, apart := false, narrowed := true }
def FnExactAddWordUptoSaid : Prop := fnExactAddWordUptoRow.holds Try.pinned (OpenSpec.upto fnExactAddWordSpec)

/-- 'laws.FnExactDropWord', WHERE WHAT IT READS IS OF BULK AT MOST 1048576: true; the input reads as it did. -/
def fnExactDropWordUptoRow : OpenClaim := { program := "ytjcaikfejgeknab", sum := "bec2ddd99f27ab79590fad5cdc9602e75794de34345944a1e1ac4ae1c3fb2c3d", func := "loop.example/g01243/laws.FnExactDropWord", spec := "fnExactDropWord", recurses := true, apart := false, narrowed := true }
def FnExactDropWordUptoSaid : Prop := fnExactDropWordUptoRow.holds Try.pinned (OpenSpec.upto fnExactDropWordSpec)

/-- 'laws.FnExactTrieText', WHERE WHAT IT READS IS OF BULK AT MOST 1048576: true; the input reads as it did. -/
def fnExactTrieTextUptoRow : OpenClaim := { program := "ytjcaikfejgeknab", sum := "bec2ddd99f27ab79590fad5cdc9602e75794de34345944a1e1ac4ae1c3fb2c3d", func := "loop.example/g01243/laws.FnExactTrieText", spec := "fnExactTrieText", recurses := true, apart := false, narrowed := true }
def FnExactTrieTextUptoSaid : Prop := fnExactTrieTextUptoRow.holds Try.pinned (OpenSpec.upto fnExactTrieTextSpec)

/-- 'laws.FnExactParseTrie', WHERE WHAT IT READS IS OF BULK AT MOST 1048576: true; the input reads as it did. -/
def fnExactParseTrieUptoRow : OpenClaim := { program := "ytjcaikfejgeknab", sum := "bec2ddd99f27ab79590fad5cdc9602e75794de34345944a1e1ac4ae1c3fb2c3d", func := "loop.example/g01243/laws.FnExactParseTrie", spec := "fnExactParseTrie", recurses := true, apart := false, narrowed := true }
def FnExactParseTrieUptoSaid : Prop := fnExactParseTrieUptoRow.holds Try.pinned (OpenSpec.upto fnExactParseTrieSpec)

/-- 'laws.FnTries', WHERE WHAT IT READS IS OF BULK AT MOST 1048576: true; the input reads as it did. -/
def fnTriesUptoRow : OpenClaim := { program := "ytjcaikfejgeknab", sum := "bec2ddd99f27ab79590fad5cdc9602e75794de34345944a1e1ac4ae1c3fb2c3d", func := "loop.example/g01243/laws.FnTries", spec := "fnTries", recurses := true, apart := false, narrowed := true }
def FnTriesUptoSaid : Prop := fnTriesUptoRow.holds Try.pinned (OpenSpec.upto fnTriesSpec)

/-- 'laws.FnNodes', WHERE WHAT IT READS IS OF BULK AT MOST 1048576: true; the input reads as it did. -/
def fnNodesUptoRow : OpenClaim := { program := "ytjcaikfejgeknab", sum := "bec2ddd99f27ab79590fad5cdc9602e75794de34345944a1e1ac4ae1c3fb2c3d", func := "loop.example/g01243/laws.FnNodes", spec := "fnNodes", apart := false, narrowed := true }
def FnNodesUptoSaid : Prop := fnNodesUptoRow.holds Try.pinned (OpenSpec.upto fnNodesSpec)

end Rows
end Go.Proofs.Ytjcaikfejgeknab
