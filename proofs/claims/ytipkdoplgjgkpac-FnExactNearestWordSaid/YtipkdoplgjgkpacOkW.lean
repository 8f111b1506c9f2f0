/-
  What is known of a word.
-/
import Derived.Test.YtipkdoplgjgkpacWord
namespace Go.Proofs.Ytipkdoplgjgkpac
open Go.RowKit
set_option linter.unusedVariables false

theorem sg_mem {s : ByteArray} {k : Nat} (hk : k < s.size) : s[k] ∈ s.data.toList := by
  have : s[k] = s.data.toList[k]'(by simpa using hk) := rfl
  rw [this]; exact List.getElem_mem _
theorem okW_size {s : ByteArray} (h : okW s = true) : s.size ≤ 12 := by have := (okW_iff.1 h).1; simpa using this
theorem okW_low_at {s : ByteArray} (h : okW s = true) {k : Nat} (hk : k < s.size) : 97 ≤ s[k].toNat ∧ s[k].toNat ≤ 122 := (okW_iff.1 h).2 _ (sg_mem hk)

end Go.Proofs.Ytipkdoplgjgkpac
