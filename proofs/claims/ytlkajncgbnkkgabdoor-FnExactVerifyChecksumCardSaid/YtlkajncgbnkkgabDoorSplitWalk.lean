/-
  The contract of the model's splitting at a byte.
-/
import Derived.Test.YtlkajncgbnkkgabDoorOwn
import Derived.Test.YtlkajncgbnkkgabDoorStands
import Derived.Test.YtlkajncgbnkkgabDoorSplit
import Derived.Maps.AppendAt
namespace Go.Proofs.YtlkajncgbnkkgabDoor
open Go.RowKit
set_option linter.unusedVariables false

set_option maxHeartbeats 1000000 in
theorem l1Split_any (s : ByteArray) (x : UInt8) (w : World) (hs : s.size ≤ 1048576) :
    Calls Tryd.prog 14 #[.string s, .int .u8 (x.toNat : Int)] w fun e w' => ∃ g cap, e = .returned (.slice (some ⟨g, 0, none⟩) (spl s x).length cap) ∧
      w'.ownsRow w.heap.size 9 1 (.slice (some ⟨g, 0, none⟩) (spl s x).length cap) (spl s x).length ((spl s x).map Value.string) ∧ Below w.heap.size w w' := by
  obtain ⟨i0, hi, hz0, hz1, hz2⟩ := info_parts infoS
  have hown0 := World.ownsRow_lit (base := w.heap.size) (e := 9) (size := 1) w #[] 0 (Nat.le_refl _) (by unfold maxLen; omega) rfl
  go_enter Tryd.func14, Tryd.ntmps14
  go_wp2
  go_loopw [5, 6, 7] (fun v q i wr => ∃ (k f g cap : Nat) (P : List ByteArray), k ≤ s.size ∧ i = .int .i64 k ∧ q = .int .i64 f ∧ v = .slice (some ⟨g, 0, none⟩) P.length cap ∧ f ≤ k ∧ P.length ≤ k ∧ Hid (P = splP s x k ∧ f = splF s x k) ∧
      wr.ownsRow w.heap.size 9 1 (.slice (some ⟨g, 0, none⟩) P.length cap) P.length (P.map Value.string) ∧ Below w.heap.size w wr) (fun _ _ i _ => s.size - (intOf i).toNat)
  case atStart => exact ⟨0, 0, w.heap.size, 0, [], Nat.zero_le _, rfl, rfl, rfl, Nat.le_refl _, Nat.le_refl _, Lib.hid ⟨rfl, rfl⟩, hown0, (Below.refl _ _).alloc (Nat.le_refl _) _⟩
  case round =>
    clear hown0
    obtain ⟨k, f, g, cap, P, hk, rfl, rfl, rfl, hfk, hPk, HP, hown, hb⟩ := hrel
    by_cases hlt : k < s.size
    · by_cases hx : s[k] = x
      · have hq : ((s[k].toNat : Int) == (x.toNat : Int)) = true := by rw [byte_eq]; simp [hx]
        have HN : Hid (P ++ [s.extract f k] = splP s x (k + 1) ∧ k + 1 = splF s x (k + 1)) := Lib.hid ⟨by rw [splP_hit hlt hx, ← HP.out.1, ← HP.out.2], (splF_hit hlt hx).symm⟩
        clear hx
        go_wp2_with (at_builtin; refine wpList_append_own _ rfl _ _ 31 rfl w.heap.size 9 i0 (.string ByteArray.empty) 1 16 Tryd.underlying31 hi hz0 hz1 hz2 rfl (by decide) _ _ _ rfl (hown.alloc _) ⟨wr.heap.size, 0, none⟩ 1 1 [.string (s.extract f k)] rfl rfl (cell_one_new _ _ _) (by simp [Value.oneCell']) (by unfold maxLen; omega) (by omega) (by have := hb.size; simp; omega) ?_; intro v' w1 hown' hgrow _; obtain ⟨g', cap', rfl⟩ := own_succ hown')
        have hb1 : Below w.heap.size w w1 := (hb.alloc hb.size _).grown hgrow (by have := hb.size; simp; omega) (fun j e => by cases e; exact own_base hown)
        go_roundw
        case rel => exact ⟨k + 1, k + 1, g', cap', P ++ [s.extract f k], by omega, by go_num, by go_num, by simp, Nat.le_refl _, by simp; omega, HN, by simpa using hown', hb1⟩
        case measure => simp [intOf]; omega
      · have hq : ((s[k].toNat : Int) == (x.toNat : Int)) = false := by rw [byte_eq]; simp [hx]
        have HN : Hid (P = splP s x (k + 1) ∧ f = splF s x (k + 1)) := Lib.hid ⟨by rw [splP_miss hlt hx, ← HP.out.1], by rw [splF_miss hlt hx, ← HP.out.2]⟩
        clear hx
        go_wp2
        go_roundw
        case rel => exact ⟨k + 1, f, g, cap, P, by omega, by go_num, rfl, rfl, by omega, by omega, HN, hown, hb⟩
        case measure => simp [intOf]; omega
    · have e : k = s.size := by omega
      subst e
      have HN : Hid (P ++ [s.extract f s.size] = spl s x) := Lib.hid (by unfold spl; rw [← HP.out.1, ← HP.out.2])
      go_wp2_with (at_builtin; refine wpList_append_own _ rfl _ _ 31 rfl w.heap.size 9 i0 (.string ByteArray.empty) 1 16 Tryd.underlying31 hi hz0 hz1 hz2 rfl (by decide) _ _ _ rfl (hown.alloc _) ⟨wr.heap.size, 0, none⟩ 1 1 [.string (s.extract f s.size)] rfl rfl (cell_one_new _ _ _) (by simp [Value.oneCell']) (by unfold maxLen; omega) (by omega) (by have := hb.size; simp; omega) ?_; intro v' w1 hown' hgrow _; obtain ⟨g', cap', rfl⟩ := own_succ hown')
      have hb1 : Below w.heap.size w w1 := (hb.alloc hb.size _).grown hgrow (by have := hb.size; simp; omega) (fun j e => by cases e; exact own_base hown)
      go_ret
      have hl : (spl s x).length = P.length + 1 := by rw [← HN.out]; simp
      refine ⟨g', cap', by rw [hl]; rfl, ?_, hb1⟩
      rw [hl, ← HN.out]
      simpa using hown'

end Go.Proofs.YtlkajncgbnkkgabDoor
