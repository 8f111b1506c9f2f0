/-
  What has been told of a rest: the program's closure that looks it up.
-/
import Derived.Test.YtknoafkgeaibpabTell
import Derived.Test.YtknoafkgeaibpabGv
namespace Go.Proofs.Ytknoafkgeaibpab
open Go.RowKit
set_option linter.unusedVariables false

/-- the closure's two variables hold the row and the place -/
structure Told (w : World) (bt ba g nn cc k : Nat) : Prop where
  row : w.cell? ⟨bt, 0, none⟩ = some (.slice (some ⟨g, 0, none⟩) nn cc)
  at0 : w.cell? ⟨ba, 0, none⟩ = some (.int .i64 (k : Int))
  le : nn ≤ cc
  top : cc ≤ 1000

set_option maxRecDepth 1000000 in
set_option maxHeartbeats 400000 in
theorem behind_any (w : World) (bt ba g nn cc k j : Nat) (z : Int) (h : Told w bt ba g nn cc k) (hj : k + j < nn) (hz : w.cell? ⟨g, k + j, none⟩ = some (.int .i64 z)) :
    Calls Try.prog 82 #[.int .i64 (j : Int), .pointer (some ⟨bt, 0, none⟩), .pointer (some ⟨ba, 0, none⟩)] w fun e w' => e = .returned (.int .i64 z) ∧ w = w' := by
  have h1 := h.row
  have h2 := h.at0
  have h3 := h.le
  have h4 := h.top
  clear h
  have hc : (k : Int) + (j : Int) < (nn : Int) := by omega
  have hc0 : (0 : Int) ≤ (k : Int) + (j : Int) := by omega
  have hc2 : ((k : Int) + (j : Int)).toNat = k + j := by omega
  go_enter Try.func82, Try.ntmps82
  go_wp2
  go_ret
  exact ⟨rfl, rfl⟩

end Go.Proofs.Ytknoafkgeaibpab
