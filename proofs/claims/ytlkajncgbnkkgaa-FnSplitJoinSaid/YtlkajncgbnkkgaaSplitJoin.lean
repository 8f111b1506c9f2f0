/-
  What is split is joined again: no part holds the separator, and the parts joined are the text. A text is not less than another and the other less than it.
-/
import Derived.Test.YtlkajncgbnkkgaaSplit
import Derived.Lib.IndexBytes
import GoSem.Op.String
namespace Go.Proofs.Ytlkajncgbnkkgaa
set_option linter.unusedVariables false

theorem jn_add (P : List ByteArray) (t : ByteArray) (x : UInt8) : jn (P ++ [t]) x = (if P = [] then [] else jn P x ++ [x]) ++ t.data.toList := by
  cases P with
  | nil => simp [jn_one]
  | cons y r => rw [jn_snoc]; simp

/-- the parts when the text ended at k -/
def partsAt (s : ByteArray) (x : UInt8) (k : Nat) : List ByteArray := splP s x k ++ [s.extract (splF s x k) k]

theorem extract_to (s : ByteArray) (a b : Nat) (h : b ≤ s.size) : (s.extract a b).data.toList = (s.data.toList.take b).drop a := by
  rw [Lib.extract_data, List.drop_take]

theorem extract_succ (s : ByteArray) (a k : Nat) (ha : a ≤ k) (h : k < s.size) : (s.extract a (k + 1)).data.toList = (s.extract a k).data.toList ++ [s[k]] := by
  have hl : k < s.data.toList.length := by rw [← size_data]; exact h
  rw [extract_to s a (k + 1) (by omega), extract_to s a k (by omega), List.take_succ_eq_append_getElem hl, List.drop_append_of_le_length (by rw [List.length_take]; omega)]
  rfl

theorem extract_self (s : ByteArray) (k : Nat) (h : k ≤ s.size) : (s.extract k k).data.toList = [] := by
  rw [extract_to s k k h]
  simp

theorem join_at (s : ByteArray) (x : UInt8) : ∀ k, k ≤ s.size → jn (partsAt s x k) x = s.data.toList.take k ∧ ¬ Holds (partsAt s x k) x
  | 0, h => by
    refine ⟨?_, ?_⟩
    · unfold partsAt
      rw [splP_zero, splF_zero, List.nil_append, jn_one, extract_self s 0 h, List.take_zero]
    · rintro ⟨t, ht, hx⟩
      unfold partsAt at ht
      rw [splP_zero, splF_zero] at ht
      simp only [List.nil_append, List.mem_singleton] at ht
      subst ht
      rw [extract_self s 0 h] at hx
      cases hx
  | k + 1, h => by
    obtain ⟨ih1, ih2⟩ := join_at s x k (by omega)
    have hk : k < s.size := by omega
    have hl : k < s.data.toList.length := by rw [← size_data]; exact hk
    have ht : s.data.toList.take (k + 1) = s.data.toList.take k ++ [s[k]] := by rw [List.take_succ_eq_append_getElem hl]; rfl
    have hf := splF_le s x k
    by_cases e : s[k] = x
    · have hp : partsAt s x (k + 1) = partsAt s x k ++ [s.extract (k + 1) (k + 1)] := by
        unfold partsAt
        rw [splP_hit hk e, splF_hit hk e]
      refine ⟨?_, ?_⟩
      · rw [hp, jn_add, if_neg (by unfold partsAt; simp), ih1, extract_self s (k + 1) h, ht, e]
        simp
      · rw [hp]
        rintro ⟨t, htm, hx⟩
        rcases List.mem_append.1 htm with h1 | h1
        · exact ih2 ⟨t, h1, hx⟩
        · simp only [List.mem_singleton] at h1
          subst h1
          rw [extract_self s (k + 1) h] at hx
          cases hx
    · have hp : partsAt s x (k + 1) = splP s x k ++ [s.extract (splF s x k) (k + 1)] := by
        unfold partsAt
        rw [splP_miss hk e, splF_miss hk e]
      have hx2 := extract_succ s (splF s x k) k hf hk
      refine ⟨?_, ?_⟩
      · unfold partsAt at ih1
        rw [jn_add] at ih1
        rw [hp, jn_add, hx2, ht, ← ih1, List.append_assoc]
      · rw [hp]
        rintro ⟨t, htm, hx⟩
        rcases List.mem_append.1 htm with h1 | h1
        · exact ih2 ⟨t, List.mem_append_left _ h1, hx⟩
        · simp only [List.mem_singleton] at h1
          subst h1
          rw [hx2] at hx
          rcases List.mem_append.1 hx with h2 | h2
          · exact ih2 ⟨_, List.mem_append_right _ (List.mem_singleton.2 rfl), h2⟩
          · simp only [List.mem_singleton] at h2
            exact e h2.symm

theorem join_spl (s : ByteArray) (x : UInt8) : jn (spl s x) x = s.data.toList ∧ ¬ Holds (spl s x) x := by
  have h := join_at s x s.size (Nat.le_refl _)
  have e : partsAt s x s.size = spl s x := rfl
  rw [e, List.take_of_length_le (by rw [← size_data]; exact Nat.le_refl _)] at h
  exact h

theorem joinAns_spl {s sep : ByteArray} {x : UInt8} (h : sep.size = 1) (hs : s.size ≤ 4000) (hx : sep.data.toList = [x]) : joinAns (spl s x) sep = (s.data.toList, true) := by
  obtain ⟨h1, h2⟩ := join_spl s x
  rw [joinAns_yes ⟨h, by unfold spl; simp, fun b hb => by
    rw [hx] at hb
    simp at hb
    subst hb
    exact h2, by rw [← jn_len _ x, h1, ← size_data]; exact hs⟩, hx]
  show (jn (spl s x) x, true) = _
  rw [h1]

theorem jlen_small : ∀ (P : List ByteArray), (∀ s ∈ P, s.size ≤ 5000) → (P.map (·.size)).sum ≤ 5000 * P.length
  | [], _ => by simp
  | s :: r, h => by
    have h1 := h s (by simp)
    have h2 := jlen_small r (fun t ht => h t (by simp [ht]))
    simp
    omega

theorem spl_sum (s : ByteArray) (x : UInt8) : ((spl s x).map (·.size)).sum ≤ s.size := by
  have h1 := jn_len (spl s x) x
  rw [(join_spl s x).1, ← size_data] at h1
  unfold jlen at h1
  omega

theorem less_asymm : ∀ (a b : List UInt8), Op.bytesLess a b = true → Op.bytesLess b a = false
  | [], [], h => by simp [Op.bytesLess] at h
  | [], _ :: _, h => by simp [Op.bytesLess]
  | _ :: _, [], h => by simp [Op.bytesLess] at h
  | x :: r, y :: t, h => by
    simp only [Op.bytesLess, Bool.or_eq_true, decide_eq_true_eq, Bool.and_eq_true, beq_iff_eq] at h
    simp only [Op.bytesLess, Bool.or_eq_false_iff, decide_eq_false_iff_not]
    rcases h with h | ⟨rfl, h⟩
    · refine ⟨fun h2 => ?_, ?_⟩
      · rw [UInt8.lt_iff_toNat_lt] at h h2
        omega
      · have : (y == x) = false := by
          rw [beq_eq_false_iff_ne]
          rintro rfl
          rw [UInt8.lt_iff_toNat_lt] at h
          omega
        rw [this, Bool.false_and]
    · refine ⟨fun h2 => ?_, ?_⟩
      · rw [UInt8.lt_iff_toNat_lt] at h2
        omega
      · rw [less_asymm r t h, Bool.and_false]

end Go.Proofs.Ytlkajncgbnkkgaa
