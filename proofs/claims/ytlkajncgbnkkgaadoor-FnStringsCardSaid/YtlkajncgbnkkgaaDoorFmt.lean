/-
  The contract of the model's FormatInt.
-/
import Derived.Test.YtlkajncgbnkkgaaDoorFmtImpl
namespace Go.Proofs.YtlkajncgbnkkgaaDoor
open Go.RowKit
set_option linter.unusedVariables false

theorem l1In_yes (x a b : Int) (w : World) (h1 : a ≤ x) (h2 : x ≤ b) :
    Calls Tryd.prog 21 #[.int .i64 x, .int .i64 a, .int .i64 b] w fun e w' => e = .returned (.bool true) ∧ w = w' := by
  go_enter Tryd.func21, Tryd.ntmps21
  go_wp2
  go_ret
  exact ⟨rfl, rfl⟩
theorem l1In_no (x a b : Int) (w : World) (h : x < a ∨ b < x) :
    Calls Tryd.prog 21 #[.int .i64 x, .int .i64 a, .int .i64 b] w fun e w' => e = .returned (.bool false) ∧ w = w' := by
  by_cases h1 : x < a
  · clear h
    have q : decide (a ≤ x) = false := by simp; omega
    go_enter Tryd.func21, Tryd.ntmps21
    go_wp2
    go_ret
    exact ⟨rfl, rfl⟩
  · have h2 : b < x := by omega
    have h3 : a ≤ x := by omega
    have q : decide (a ≤ x) = true := by simp; omega
    have q2 : decide (x ≤ b) = false := by simp; omega
    clear h h1
    go_enter Tryd.func21, Tryd.ntmps21
    go_wp2
    go_ret
    exact ⟨rfl, rfl⟩

theorem specFmt_any (n : Int) (w : World) :
    Calls Tryd.prog 9 #[.int .i64 n] w fun e w' => e = .returned (.tuple #[.string (fmtS n), .bool (fmtB n)]) ∧ ∃ q, w' = w.drewN q := by
  by_cases h : -999999 ≤ n ∧ n ≤ 999999
  · have H := Lib.hid h
    obtain ⟨h1, h2⟩ := h
    go_enter Tryd.func9, Tryd.ntmps9
    go_wp2_with (first | (go_at_call 21; refine (l1In_yes _ _ _ _ h1 h2).mono ?_; rintro e w' ⟨rfl, rfl⟩) | (go_at_call 22; refine (num_any n _ (by omega) (by omega)).mono ?_; rintro e w' ⟨rfl, q, rfl⟩))
    go_ret2
    exact ⟨ret_fmt_yes H.out, _, rfl⟩
  · have H := Lib.hid h
    have h' : n < -999999 ∨ 999999 < n := by omega
    have H' := Lib.hid h'
    clear h h'
    go_enter Tryd.func9, Tryd.ntmps9
    go_wp2_with (go_at_call 21; refine (l1In_no _ _ _ _ H'.out).mono ?_; rintro e w' ⟨rfl, rfl⟩)
    go_ret2
    exact ⟨ret_fmt_no H.out, 0, rfl⟩

end Go.Proofs.YtlkajncgbnkkgaaDoor
