/-
  The contract of the program's FormatInt.
-/
import Derived.Test.YtlkajncgbnkkgaaDoorNum
import Derived.Test.YtlkajncgbnkkgaaDoorShelf
import Derived.Lib.AppendIntMem
import Derived.WalkSmall
namespace Go.Proofs.YtlkajncgbnkkgaaDoor
open Go.RowKit
set_option linter.unusedVariables false

/-- What FormatInt answers. -/
def fmtS (n : Int) : ByteArray := if -999999 ≤ n ∧ n ≤ 999999 then numI n else ⟨#[]⟩
def fmtB (n : Int) : Bool := decide (-999999 ≤ n ∧ n ≤ 999999)

theorem ret_fmt_no {n : Int} (h : ¬ (-999999 ≤ n ∧ n ≤ 999999)) : Ending.returned (.tuple #[.string ⟨#[]⟩, .bool false]) = .returned (.tuple #[.string (fmtS n), .bool (fmtB n)]) := by
  unfold fmtS fmtB
  rw [if_neg h, decide_eq_false h]
theorem ret_fmt_yes {n : Int} (h : -999999 ≤ n ∧ n ≤ 999999) : Ending.returned (.tuple #[.string (numI n), .bool true]) = .returned (.tuple #[.string (fmtS n), .bool (fmtB n)]) := by
  unfold fmtS fmtB
  rw [if_pos h, decide_eq_true h]

theorem implFmt_any (n : Int) (w : World) (htab : Lib.TabIs Tryd.prog w "internal/strconv.uint64pow10" .u64 Lib.pow10Tab) :
    Calls Tryd.prog 8 #[.int .i64 n] w fun e w' => e = .returned (.tuple #[.string (fmtS n), .bool (fmtB n)]) ∧ Below w.heap.size w w' := by
  have HT := Lib.hid htab
  clear htab
  by_cases h : -999999 ≤ n ∧ n ≤ 999999
  · have H := Lib.hid h
    obtain ⟨h1, h2⟩ := h
    have q1 : decide (n < -999999) = false := by simp; omega
    have q2 : decide (999999 < n) = false := by simp; omega
    go_enter Tryd.func8, Tryd.ntmps8
    go_wp2_with (go_at_call 20; refine (Tryd.strconv_Itoa n (by omega) (by omega) _ HT.out).mono ?_; rintro e w' ⟨rfl, k, os, rfl⟩)
    go_ret2
    exact ⟨ret_fmt_yes H.out, Lib.below_grow _ _ (Nat.le_refl _) _ _⟩
  · have H := Lib.hid h
    by_cases h1 : n < -999999
    · have q1 : decide (n < -999999) = true := by simp; omega
      clear h
      go_enter Tryd.func8, Tryd.ntmps8
      go_wp2_with fail
      go_ret2
      exact ⟨ret_fmt_no H.out, Below.refl _ _⟩
    · have h2 : 999999 < n := by omega
      have q1 : decide (n < -999999) = false := by simp; omega
      have q2 : decide (999999 < n) = true := by simp; omega
      clear h
      go_enter Tryd.func8, Tryd.ntmps8
      go_wp2_with fail
      go_ret2
      exact ⟨ret_fmt_no H.out, Below.refl _ _⟩

end Go.Proofs.YtlkajncgbnkkgaaDoor
