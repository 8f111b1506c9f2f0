/-
  The laws' comparison of two fractions that are the same.
-/
import Derived.Test.YthjafoacnfgjhacFrD
namespace Go.Proofs.Ythjafoacnfgjhac
open Go.RowKit
set_option linter.unusedVariables false

set_option maxRecDepth 1000000 in
set_option maxHeartbeats 1000000 in
theorem eqFrac_any (x y : Nat) (w : World) : Calls Try.prog 17 #[.agg #[.int .i64 (x : Int), .int .i64 (y : Int)], .agg #[.int .i64 (x : Int), .int .i64 (y : Int)]] w fun e w' => e = .returned (.bool true) ∧ Below w.heap.size w w' := by
  have HB1 : Hid (Below w.heap.size w ((w.alloc (.cells #[.int .i64 (x : Int), .int .i64 (y : Int)] 33)).alloc (.cells #[.int .i64 (x : Int), .int .i64 (y : Int)] 33))) := Lib.hid (((Below.refl _ _).alloc (Nat.le_refl _) _).alloc (by simp) _)
  obtain ⟨u1, u2⟩ := pair_cells w (.int .i64 (x : Int)) (.int .i64 (y : Int)) 33
  obtain ⟨u3, u4⟩ := pair_cells (w.alloc (.cells #[.int .i64 (x : Int), .int .i64 (y : Int)] 33)) (.int .i64 (x : Int)) (.int .i64 (y : Int)) 33
  have hb2 : Below (w.alloc (.cells #[.int .i64 (x : Int), .int .i64 (y : Int)] 33)).heap.size (w.alloc (.cells #[.int .i64 (x : Int), .int .i64 (y : Int)] 33)) ((w.alloc (.cells #[.int .i64 (x : Int), .int .i64 (y : Int)] 33)).alloc (.cells #[.int .i64 (x : Int), .int .i64 (y : Int)] 33)) := (Below.refl _ _).alloc (Nat.le_refl _) _
  have v1 := (hb2.cell (p := ⟨w.heap.size, 0, none⟩) (by simp)).trans u1
  have v2 := (hb2.cell (p := ⟨w.heap.size, 1, none⟩) (by simp)).trans u2
  rw [World.size_alloc] at u3 u4
  have HV := Lib.hid (And.intro (And.intro v1 v2) (And.intro u3 u4))
  clear u1 u2 u3 u4 v1 v2 hb2
  have hx : ((x : Int) != x) = false := by simp
  have hy : ((y : Int) != y) = false := by simp
  go_enter Try.func17, Try.ntmps17
  go_wp2
  obtain ⟨W1, hW1⟩ : ∃ W1, (w.alloc (.cells #[.int .i64 (x : Int), .int .i64 (y : Int)] 33)).alloc (.cells #[.int .i64 (x : Int), .int .i64 (y : Int)] 33) = W1 := ⟨_, rfl⟩
  rw [hW1] at HB1 HV ⊢
  clear hW1
  obtain ⟨⟨v1, v2⟩, u3, u4⟩ := HV.out
  go_loopw [5] (fun i wr => ∃ (k q : Nat), k ≤ 2 ∧ i = .int .i64 k ∧ wr = W1.drewN q) (fun i _ => 2 - (intOf i).toNat)
  case atStart => exact ⟨0, 0, by omega, rfl, rfl⟩
  case round =>
    obtain ⟨k, q, hk, rfl, rfl⟩ := hrel
    by_cases h0 : k = 0
    · subst h0
      go_wp2
      go_quiet (fail)
      go_wp2
      go_roundw
      case rel => exact ⟨1, q + nq, by omega, by go_num, by simp⟩
      case measure => simp [intOf]
    · by_cases h1 : k = 1
      · subst h1
        go_wp2
        go_quiet (fail)
        go_wp2
        go_roundw
        case rel => exact ⟨2, q + nq, by omega, by go_num, by simp⟩
        case measure => simp [intOf]
      · obtain rfl : k = 2 := by omega
        go_wp2
        go_ret
        exact ⟨rfl, below_drewN HB1.out _⟩

end Go.Proofs.Ythjafoacnfgjhac
