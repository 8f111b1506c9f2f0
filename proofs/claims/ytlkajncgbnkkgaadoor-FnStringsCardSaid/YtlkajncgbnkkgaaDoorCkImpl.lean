/-
  The contract of the program's checksum.
-/
import Derived.Test.YtlkajncgbnkkgaaDoorRows
import Derived.Test.YtlkajncgbnkkgaaDoorCkSum
import Derived.WalkKit
import Derived.Lib.Hide
namespace Go.Proofs.YtlkajncgbnkkgaaDoor.ck
open Go.RowKit
set_option linter.unusedVariables false

theorem impl_no (s : ByteArray) (w : World) (hs : s.size ≤ maxLen) (h : 4000 < s.size) :
    Calls Tryd.prog 28 #[.string s] w fun e w' => e = .returned (.tuple #[.int .i64 0, .bool false]) ∧ w = w' := by
  unfold maxLen at hs
  go_enter Tryd.func28, Tryd.ntmps28
  go_wp2
  go_ret2
  exact ⟨rfl, rfl⟩

theorem impl_yes (s : ByteArray) (w : World) (hs : s.size ≤ maxLen) (h : s.size ≤ 4000) :
    Calls Tryd.prog 28 #[.string s] w fun e w' => e = .returned (.tuple #[.int .i64 (ck s.data.toList), .bool true]) ∧ w = w' := by
  unfold maxLen at hs
  go_enter Tryd.func28, Tryd.ntmps28
  go_wp2
  go_loop [4, 11] (fun n i => ∃ k : Nat, k ≤ s.size ∧ i = .int .i64 k ∧ n = .int .i64 (ck (s.data.toList.take k))) (fun _ i => s.size - (intOf i).toNat)
  case atStart => exact ⟨0, Nat.zero_le _, rfl, rfl⟩
  case round =>
    obtain ⟨k, hk, rfl, rfl⟩ := hrel
    have hd := ck_bd (s.data.toList.take k)
    by_cases hlt : k < s.size
    · have hb := byte_bd s k hlt
      have HS := Lib.hid (ck_take s k hlt)
      go_wp2
      go_round
      case rel => exact ⟨k + 1, by omega, by go_num, by rw [HS.out]⟩
      case measure => simp [intOf]; omega
    · go_wp2
      go_ret2
      exact ⟨ret_ok (by rw [List.take_of_length_le (by simp; omega)]), rfl⟩

end Go.Proofs.YtlkajncgbnkkgaaDoor.ck
