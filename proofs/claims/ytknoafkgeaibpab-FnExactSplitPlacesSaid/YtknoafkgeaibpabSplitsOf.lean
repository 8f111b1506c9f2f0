/-
  How many splits each rest of a passage has: the program's list.
-/
import Derived.Test.YtknoafkgeaibpabRestsSplits
import Derived.Test.YtknoafkgeaibpabGv
namespace Go.Proofs.Ytknoafkgeaibpab
open Go.RowKit
set_option linter.unusedVariables false

set_option maxRecDepth 1000000 in
set_option maxHeartbeats 1000000 in
theorem splitsOfRests_any (B : Nat) (a : Option Addr) (n c : Nat) (t : List Nd) (ps : List Txt) (s : ByteArray) (w : World) (hB : B ≤ w.heap.size) (h : Nds B w a n c t) (hv : Valid t ps) (hs : Low (tx s)) (hs60 : s.size ≤ 60) :
    Calls Try.prog 47 #[.agg #[.slice a n c], .string s] w fun en w' => ∃ g, en = .returned (.slice (some ⟨g, 0, none⟩) (s.size + 1) (s.size + 1)) ∧ w'.ownsRow w.heap.size 3 1 (.slice (some ⟨g, 0, none⟩) (s.size + 1) (s.size + 1)) (s.size + 1) ((telv sumT (wds t ps) 1 (tx s)).map (Value.int .i64)) ∧ Below w.heap.size w w' := by
  have G1 := Lib.hid (Gv.start (h.mono hB))
  have hbx := G1.out.box
  have cR := Lib.hid (fun (W : World) (G : Gv w W a n c t) => restsSplits_any w.heap.size a n c t ps s 1 W G.bel.size G.nds hv hs hs60)
  obtain ⟨l, hl⟩ : ∃ l, (telv sumT (wds t ps) 1 (tx s)).map (Value.int .i64) = l := ⟨_, rfl⟩
  rw [hl] at cR ⊢
  clear h hB hv hs hl
  obtain ⟨nn, hnn⟩ : ∃ nn, s.size + 1 = nn := ⟨_, rfl⟩
  rw [hnn] at cR ⊢
  clear hnn
  go_enter Try.func47, Try.ntmps47
  go_wp2_with fail
  refine (cR.out _ G1.out).mono ?_
  rintro e w2 ⟨g, rfl, hO, hb⟩
  have HO := Lib.hid hO
  have G2 := Lib.hid (G1.out.on hb)
  clear hO hb
  go_wp2_with fail
  go_ret
  exact ⟨g, rfl, own_down HO.out G1.out.bel.size, G2.out.bel⟩

end Go.Proofs.Ytknoafkgeaibpab
