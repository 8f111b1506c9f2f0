/-
  The contract of the model's test whether a byte stands in a text.
-/
import Derived.Test.YtlkajncgbnkkgaaDoorRows
import Derived.WalkKit
import Derived.Lib.Hide
import Derived.Lib.Strings
namespace Go.Proofs.YtlkajncgbnkkgaaDoor
open Go.RowKit
set_option linter.unusedVariables false

theorem mem_of_at {s : ByteArray} {k : Nat} (h : k < s.size) : s[k] ∈ s.data.toList := by
  have : s.data.toList[k]'(by rw [← Lib.size_eq]; exact h) = s[k] := rfl
  rw [← this]
  exact List.getElem_mem _

/-- none of the first k bytes is x -/
def Free (s : ByteArray) (x : UInt8) (k : Nat) : Prop := ∀ j (h : j < s.size), j < k → s[j] ≠ x

theorem Free.all {s : ByteArray} {x : UInt8} (h : Free s x s.size) : x ∉ s.data.toList := by
  intro hm
  obtain ⟨j, hj, e⟩ := List.getElem_of_mem hm
  have hs : j < s.size := by rw [Lib.size_eq]; exact hj
  exact h j hs hs e

theorem Free.succ {s : ByteArray} {x : UInt8} {k : Nat} (h : Free s x k) (hk : k < s.size) (hx : s[k] ≠ x) : Free s x (k + 1) := by
  intro j hj hjk
  by_cases e : j = k
  · subst e; exact hx
  · exact h j hj (by omega)

theorem byte_eq (a b : UInt8) : ((a.toNat : Int) == (b.toNat : Int)) = decide (a = b) := by
  by_cases h : a = b
  · subst h; simp
  · have : a.toNat ≠ b.toNat := fun e => h (UInt8.toNat.inj e)
    simp [h]
    omega

/-- whether a byte stands in a text -/
def standsB (s : ByteArray) (x : UInt8) : Bool := decide (x ∈ s.data.toList)
theorem standsB_yes {s : ByteArray} {x : UInt8} (h : x ∈ s.data.toList) : standsB s x = true := decide_eq_true h
theorem standsB_no {s : ByteArray} {x : UInt8} (h : x ∉ s.data.toList) : standsB s x = false := decide_eq_false h
theorem ret_b {a b : Bool} (h : b = a) : Ending.returned (.bool a) = .returned (.bool b) := by rw [h]

theorem stands_any (s : ByteArray) (x : UInt8) (w : World) (hs : s.size ≤ 9223372036854775807) :
    Calls Tryd.prog 30 #[.string s, .int .u8 (x.toNat : Int)] w fun e w' => e = .returned (.bool (standsB s x)) ∧ w' = w := by
  go_enter Tryd.func30, Tryd.ntmps30
  go_wp2
  go_loop [5] (fun i => ∃ k : Nat, k ≤ s.size ∧ i = .int .i64 k ∧ Hid (Free s x k)) (fun i => s.size - (intOf i).toNat)
  case atStart => exact ⟨0, Nat.zero_le _, rfl, Lib.hid (fun j _ hj => by omega)⟩
  case round =>
    obtain ⟨k, hk, rfl, hf⟩ := hrel
    by_cases hlt : k < s.size
    · by_cases hx : s[k] = x
      · have hq : ((s[k].toNat : Int) == (x.toNat : Int)) = true := by rw [byte_eq]; simp [hx]
        have HM := Lib.hid (hx ▸ mem_of_at hlt)
        clear hx
        go_wp2
        go_ret
        exact ⟨ret_b (standsB_yes HM.out), rfl⟩
      · have hq : ((s[k].toNat : Int) == (x.toNat : Int)) = false := by rw [byte_eq]; simp [hx]
        have HX := Lib.hid (hf.out.succ hlt hx)
        clear hx
        go_wp2
        go_round
        case rel => exact ⟨k + 1, by omega, by go_num, HX⟩
        case measure => simp [intOf]; omega
    · have e : k = s.size := by omega
      subst e
      have HX := Lib.hid hf.out.all
      go_wp2
      go_ret
      exact ⟨ret_b (standsB_no HX.out), rfl⟩

theorem stands_yes (s : ByteArray) (x : UInt8) (w : World) (hs : s.size ≤ 9223372036854775807) (h : x ∈ s.data.toList) :
    Calls Tryd.prog 30 #[.string s, .int .u8 (x.toNat : Int)] w fun e w' => e = .returned (.bool true) ∧ w' = w := by
  have := stands_any s x w hs
  rwa [standsB_yes h] at this

theorem stands_no (s : ByteArray) (x : UInt8) (w : World) (hs : s.size ≤ 9223372036854775807) (h : x ∉ s.data.toList) :
    Calls Tryd.prog 30 #[.string s, .int .u8 (x.toNat : Int)] w fun e w' => e = .returned (.bool false) ∧ w' = w := by
  have := stands_any s x w hs
  rwa [standsB_no h] at this

end Go.Proofs.YtlkajncgbnkkgaaDoor
