/-
  Whether a text begins with another, of whatever lengths: the reference's test and strings.HasPrefix.
-/
import Derived.Test.YthjafoacnfgjhabWordM
namespace Go.Proofs.Ythjafoacnfgjhab
open Go.RowKit
set_option linter.unusedVariables false

theorem begins_eq {s p : ByteArray} {r : Bool} (hr : r = true ↔ tx p <+: tx s) (hl : p.size ≤ s.size) : ((s.extract 0 p.size).toList == p.toList) = r := by
  rw [str_eq_list, Bool.eq_iff_iff, decide_eq_true_eq, hr, List.prefix_iff_eq_take]
  constructor
  · intro h
    have := congrArg tx h
    rw [tx_extract] at this
    rw [tx_len]; exact this.symm
  · intro h
    apply tx_inj
    rw [tx_extract, ← tx_len p]; exact h.symm
theorem begins_short {s p : ByteArray} {r : Bool} (hr : r = true ↔ tx p <+: tx s) (hl : ¬ p.size ≤ s.size) : r = false := by
  cases r with
  | false => rfl
  | true =>
    have := (hr.1 rfl).length_le
    rw [tx_len, tx_len] at this
    omega

theorem begins_any (s p : ByteArray) (r : Bool) (hr : r = true ↔ tx p <+: tx s) (w : World) (hs : s.size ≤ 9223372036854775807) (hp : p.size ≤ 9223372036854775807) :
    Calls Try.prog 43 #[.string s, .string p] w fun e w' => e = .returned (.bool r) ∧ w = w' := by
  by_cases hl : p.size ≤ s.size
  · have HX := Lib.hid (begins_eq hr hl)
    clear hr
    go_enter Try.func43, Try.ntmps43
    go_wp2
    go_ret
    exact ⟨ret_bool HX.out, rfl⟩
  · have HX := Lib.hid (begins_short hr hl)
    clear hr
    go_enter Try.func43, Try.ntmps43
    go_wp2
    go_ret
    exact ⟨ret_bool HX.out.symm, rfl⟩

theorem liteHasPrefix_any (s p : ByteArray) (r : Bool) (hr : r = true ↔ tx p <+: tx s) (w : World) (hs : s.size ≤ 9223372036854775807) (hp : p.size ≤ 9223372036854775807) :
    Calls Try.prog 78 #[.string s, .string p] w fun e w' => e = .returned (.bool r) ∧ w = w' := by
  by_cases hl : p.size ≤ s.size
  · have HX := Lib.hid (begins_eq hr hl)
    clear hr
    go_enter Try.func78, Try.ntmps78
    go_wp2
    go_ret
    exact ⟨ret_bool HX.out, rfl⟩
  · have HX := Lib.hid (begins_short hr hl)
    clear hr
    go_enter Try.func78, Try.ntmps78
    go_wp2
    go_ret
    exact ⟨ret_bool HX.out.symm, rfl⟩

theorem hasPrefix_any (s p : ByteArray) (r : Bool) (hr : r = true ↔ tx p <+: tx s) (w : World) (hs : s.size ≤ 9223372036854775807) (hp : p.size ≤ 9223372036854775807) :
    Calls Try.prog 59 #[.string s, .string p] w fun e w' => e = .returned (.bool r) ∧ w = w' := by
  have cL := Lib.hid (liteHasPrefix_any s p r hr w hs hp)
  clear hr
  go_enter Try.func59, Try.ntmps59
  go_wp2_with fail
  refine cL.out.mono ?_
  rintro e w' ⟨rfl, rfl⟩
  go_wp2_with fail
  go_ret
  exact ⟨rfl, rfl⟩

end Go.Proofs.Ythjafoacnfgjhab
