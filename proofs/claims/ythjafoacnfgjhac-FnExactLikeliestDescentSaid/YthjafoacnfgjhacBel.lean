/-
  The words under a node and how many they are: the program's two helpers, for every valid trie and node.
-/
import Derived.Test.YthjafoacnfgjhacKids
import Derived.Test.YthjafoacnfgjhacNds
import Derived.Test.YthjafoacnfgjhacOf
import Derived.Deep.RegionHeld3
namespace Go.Proofs.Ythjafoacnfgjhac
open Go.RowKit
set_option linter.unusedVariables false

theorem Nds.sub {B : Nat} {w : World} {b0 o n c : Nat} {t : List Nd} (h : Nds B w (some ⟨b0, o, none⟩) n c t) {i b : Nat} (hi : i ≤ b) (hb : b ≤ n) : Nds B w (some ⟨b0, o + i * 3, none⟩) (b - i) (c - i) ((t.take b).drop i) :=
  ⟨by have := h.len; simp; omega, by have := h.cap; omega, by have := h.top; omega, fun j d hd => by
    have hd' : t[i + j]? = some d := by
      have hj := (List.getElem?_eq_some_iff.1 hd).1
      rw [List.getElem?_drop, List.getElem?_take] at hd
      simp at hj
      rw [if_pos (by omega)] at hd
      exact hd
    obtain ⟨b1, o1, e, hB, h1, h2, h3⟩ := h.spot (i + j) d hd'
    injection e with e
    injection e with e1 e2 e3
    subst e1 e2
    have ea : o + i * 3 + j * 3 = o + (i + j) * 3 := by omega
    exact ⟨b0, o + i * 3, rfl, hB, by rw [ea]; exact h1, by rw [ea]; exact h2, by rw [ea]; exact h3⟩, fun d hd => h.rng d (List.mem_of_mem_take (List.mem_of_mem_drop hd))⟩

/-- the words of the nodes from one place to another -/
def midw (t : List Nd) (ps : List Txt) (i b : Nat) : List Txt := wds ((t.take b).drop i) ((ps.take b).drop i)

theorem midw_same (t : List Nd) (ps : List Txt) (i : Nat) : midw t ps i i = [] := by
  unfold midw
  rw [List.drop_eq_nil_of_le (by rw [List.length_take]; omega), List.drop_eq_nil_of_le (by rw [List.length_take]; omega)]
  rfl

theorem midw_succ {t : List Nd} {ps : List Txt} {i k : Nat} {d : Nd} {x : Txt} (hl : ps.length = t.length) (hik : i ≤ k) (h : t[k]? = some d) (hx : ps[k]? = some x) :
    midw t ps i (k + 1) = midw t ps i k ++ if d.e then [x] else [] := by
  have hk := (List.getElem?_eq_some_iff.1 h).1
  unfold midw
  have e2 : ps.take (k + 1) = ps.take k ++ [x] := by
    obtain ⟨hk2, e⟩ := List.getElem?_eq_some_iff.1 hx
    rw [List.take_succ_eq_append_getElem hk2, e]
  rw [take_mk h, e2, List.drop_append_of_le_length (by rw [List.length_take]; omega), List.drop_append_of_le_length (by rw [List.length_take]; omega), wds_app _ _ _ _ (by simp [hl])]
  congr 1

theorem midw_all {t : List Nd} {ps : List Txt} (hl : ps.length = t.length) : midw t ps 0 t.length = wds t ps := by
  unfold midw
  rw [List.drop_zero, List.drop_zero, List.take_of_length_le (Nat.le_refl _), List.take_of_length_le (by omega)]

theorem midw_le (t : List Nd) (ps : List Txt) (i b : Nat) (hl : ps.length = t.length) (hv : ends t ≤ 40) : (midw t ps i b).length ≤ 40 := by
  unfold midw
  rw [wds_len _ _ (by simp [hl])]
  have h1 : ends ((t.take b).drop i) ≤ ends (t.take b) := by
    have := ends_app ((t.take b).take i) ((t.take b).drop i)
    rw [List.take_append_drop] at this
    omega
  have h2 : ends (t.take b) ≤ ends t := by
    have := ends_app (t.take b) (t.drop b)
    rw [List.take_append_drop] at this
    omega
  omega

end Go.Proofs.Ythjafoacnfgjhac
