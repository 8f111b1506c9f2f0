/-
  The contracts of the laws' own helpers on a code.
-/
import Derived.Test.YtlkajncgbnkkgaaDoorCur
import Derived.Test.YtlkajncgbnkkgaaDoorDrawAny
namespace Go.Proofs.YtlkajncgbnkkgaaDoor
open Go.RowKit
set_option linter.unusedVariables false

theorem vBig_any (a : Option Addr) (n c : Nat) (t : Bool) (h : decide ((65536 : Int) < (n : Int)) = t) (w : World) :
    Calls Tryd.prog 6 #[.slice a n c] w fun e w' => e = .returned (.bool t) ∧ w = w' := by
  go_enter Tryd.func6, Tryd.ntmps6
  go_wp2
  go_ret
  exact ⟨by rw [← h]; rfl, rfl⟩

theorem vAt_any (a : Option Addr) (n c : Nat) (l : List UInt8) (w : World) (hY : Bytes w.heap.size w a n c l) (hn : n ≤ 1000000) (i : Nat) (hi : i ≤ 1000) :
    Calls Tryd.prog 17 #[.slice a n c, .int .i64 (i : Int)] w fun e w' => (∃ r : Nat, e = .returned (.int .i64 (r : Int)) ∧ r ≤ 255) ∧ Below w.heap.size w w' := by
  have HY := Lib.hid hY
  clear hY
  by_cases hlt : i < n
  · obtain ⟨cb, co, x, rfl, hcb, hx, hc⟩ := HY.out.elem i hlt
    clear hx
    have hxb : x.toNat ≤ 255 := by have := x.toNat_lt; omega
    have hi0 : (0 : Int) ≤ (i : Int) := by omega
    have hi1 : (i : Int) < (n : Int) := by omega
    go_enter Tryd.func17, Tryd.ntmps17
    go_wp2
    go_ret
    exact ⟨⟨x.toNat, rfl, hxb⟩, Below.refl _ _⟩
  · have hi1 : ¬ (i : Int) < (n : Int) := by omega
    go_enter Tryd.func17, Tryd.ntmps17
    go_wp2
    go_ret
    exact ⟨⟨(i * 7 + n) % 256, by simp, by omega⟩, Below.refl _ _⟩

/-- its answer is one number as long as the code stands -/
theorem vAt_fix (a : Option Addr) (n c : Nat) (l : List UInt8) (w : World) (hY : Bytes w.heap.size w a n c l) (hn : n ≤ 1000000) (i : Nat) (hi : i ≤ 1000) :
    ∃ r : Nat, r ≤ 255 ∧ ∀ q, Calls Tryd.prog 17 #[.slice a n c, .int .i64 (i : Int)] (w.drewN q) fun e w' => e = .returned (.int .i64 (r : Int)) ∧ w' = w.drewN q := by
  have HY := Lib.hid hY
  clear hY
  by_cases hlt : i < n
  · obtain ⟨cb, co, x, rfl, hcb, hx, hc⟩ := HY.out.elem i hlt
    clear hx
    have hxb : x.toNat ≤ 255 := by have := x.toNat_lt; omega
    refine ⟨x.toNat, hxb, fun q => ?_⟩
    have hc' : (w.drewN q).cell? ⟨cb, co + i, none⟩ = some (.int .u8 (x.toNat : Int)) := hc
    obtain ⟨w2, hw2⟩ : ∃ w2, w.drewN q = w2 := ⟨_, rfl⟩
    rw [hw2] at hc' ⊢
    clear hw2 hc
    have hi0 : (0 : Int) ≤ (i : Int) := by omega
    have hi1 : (i : Int) < (n : Int) := by omega
    go_enter Tryd.func17, Tryd.ntmps17
    go_wp2
    go_ret
    exact ⟨rfl, rfl⟩
  · have hi1 : ¬ (i : Int) < (n : Int) := by omega
    refine ⟨(i * 7 + n) % 256, by omega, fun q => ?_⟩
    obtain ⟨w2, hw2⟩ : ∃ w2, w.drewN q = w2 := ⟨_, rfl⟩
    rw [hw2]
    clear hw2
    go_enter Tryd.func17, Tryd.ntmps17
    go_wp2
    go_ret
    exact ⟨by simp, rfl⟩

end Go.Proofs.YtlkajncgbnkkgaaDoor
