/-
  What is a word: plain facts on letters.
-/
import Derived.Test.YtfehfjnmkaifbabOwn
import Derived.Test.YtfehfjnmkaifbabTri
import Derived.Laws.RangeAny
import Derived.LoopTactic
namespace Go.Proofs.Ytfehfjnmkaifbab
open Go.RowKit
set_option linter.unusedVariables false

instance (x : Txt) : Decidable (IsW x) := by unfold IsW Low; infer_instance

/-- the text is a word -/
def okW (s : ByteArray) : Bool := decide (IsW s.data.toList)

theorem okW_iff {s : ByteArray} : okW s = true ↔ IsW s.data.toList := by simp [okW]

/-- the first k letters are small ones -/
def LowTo (s : ByteArray) (k : Nat) : Prop := ∀ j (h : j < s.size), j < k → 97 ≤ (s[j]'h).toNat ∧ (s[j]'h).toNat ≤ 122

theorem low_of {s : ByteArray} (h : LowTo s s.size) : Low s.data.toList := by
  intro c hc
  obtain ⟨i, hi, e⟩ := List.mem_iff_getElem.1 hc
  have hi' : i < s.size := by simpa using hi
  have := h i hi' hi'
  rw [← e]; exact this

theorem not_low {s : ByteArray} {k : Nat} (hk : k < s.size) (h : ¬ (97 ≤ s[k].toNat ∧ s[k].toNat ≤ 122)) : ¬ Low s.data.toList := fun hl => h (by
  have := hl (s[k]) (by
    have : s[k] = s.data.toList[k]'(by simpa using hk) := rfl
    rw [this]; exact List.getElem_mem _)
  exact this)

theorem okW_yes {s : ByteArray} (h : s.size ≤ 12) (hl : LowTo s s.size) : okW s = true := okW_iff.2 ⟨by simpa using h, low_of hl⟩
theorem okW_long {s : ByteArray} (h : 12 < s.size) : okW s = false := by
  rw [okW, decide_eq_false_iff_not]; rintro ⟨h1, _⟩
  have : s.data.toList.length = s.size := by simp
  omega
theorem okW_low {s : ByteArray} {k : Nat} (hk : k < s.size) (h : ¬ (97 ≤ s[k].toNat ∧ s[k].toNat ≤ 122)) : okW s = false := by
  rw [okW, decide_eq_false_iff_not]; rintro ⟨_, h2⟩; exact not_low hk h h2

theorem LowTo.succ {s : ByteArray} {k : Nat} (hk : k < s.size) (h : LowTo s k) (h1 : 97 ≤ s[k].toNat) (h2 : s[k].toNat ≤ 122) : LowTo s (k + 1) := by
  intro j hj hlt
  by_cases e : j = k
  · subst e; exact ⟨h1, h2⟩
  · exact h j hj (by omega)

instance (x : Txt) : Decidable (Low x) := by unfold Low; infer_instance

/-- the text has no signs but small letters -/
def lowB (s : ByteArray) : Bool := decide (Low s.data.toList)

theorem lowB_iff {s : ByteArray} : lowB s = true ↔ Low s.data.toList := by simp [lowB]
theorem lowB_yes {s : ByteArray} (hl : LowTo s s.size) : lowB s = true := lowB_iff.2 (low_of hl)
theorem lowB_no {s : ByteArray} {k : Nat} (hk : k < s.size) (h : ¬ (97 ≤ s[k].toNat ∧ s[k].toNat ≤ 122)) : lowB s = false := by
  rw [lowB, decide_eq_false_iff_not]; exact not_low hk h
theorem okW_lowB {s : ByteArray} (h : s.size ≤ 12) : okW s = lowB s := by
  rw [Bool.eq_iff_iff, okW_iff, lowB_iff]
  exact ⟨fun k => k.2, fun k => ⟨by simpa using h, k⟩⟩

/- texts as lists of bytes -/
abbrev tx (s : ByteArray) : Txt := s.data.toList
def bx (x : Txt) : ByteArray := ⟨x.toArray⟩
theorem tx_bx (x : Txt) : tx (bx x) = x := rfl
theorem bx_tx (s : ByteArray) : bx (tx s) = s := by cases s; simp [bx]
theorem tx_len (s : ByteArray) : (tx s).length = s.size := by simp
theorem tx_inj {s t : ByteArray} (h : tx s = tx t) : s = t := by rw [← bx_tx s, h, bx_tx]
theorem bx_inj {x y : Txt} (h : bx x = bx y) : x = y := by rw [← tx_bx x, h, tx_bx]
theorem bx_size (x : Txt) : (bx x).size = x.length := by rw [← tx_len, tx_bx]

theorem tx_drop {s : ByteArray} {k : Nat} (h : k < s.size) : (tx s).drop k = s[k] :: (tx s).drop (k + 1) := by
  have h' : k < (tx s).length := by rw [tx_len]; exact h
  rw [List.drop_eq_getElem_cons h']
  rfl

theorem tx_end {s : ByteArray} {k : Nat} (h : s.size ≤ k) : (tx s).drop k = [] := List.drop_eq_nil_of_le (by rw [tx_len]; exact h)

theorem tx_extract (s : ByteArray) (k : Nat) : tx (s.extract 0 k) = (tx s).take k := by
  simp [tx]

theorem tx_sub (s : ByteArray) (i k : Nat) : tx (s.extract i k) = ((tx s).drop i).take (k - i) := by
  show (s.extract i k).data.toList = _
  rw [ByteArray.data_extract, Array.toList_extract, List.extract_eq_take_drop]

end Go.Proofs.Ytfehfjnmkaifbab
