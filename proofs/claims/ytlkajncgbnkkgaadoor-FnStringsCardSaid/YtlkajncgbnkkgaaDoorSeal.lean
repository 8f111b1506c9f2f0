/-
  A checksummed text, and what comes ahead of the first sign, as plain functions.
-/
import Derived.Test.YtlkajncgbnkkgaaDoorNum
import Derived.Test.YtlkajncgbnkkgaaDoorCk
import Derived.Test.YtlkajncgbnkkgaaDoorSplit
import Derived.Lib.IndexMore
import Derived.Lib.IndexBytes
namespace Go.Proofs.YtlkajncgbnkkgaaDoor
set_option linter.unusedVariables false

/-- the text with its checksum -/
def sealS (s : ByteArray) : ByteArray := s ++ ⟨#[35]⟩ ++ numI (ck.ck s.data.toList)

theorem sealS_size (s : ByteArray) : s.size + 1 ≤ (sealS s).size ∧ (sealS s).size ≤ s.size + 2000000 := by
  have h1 := numI_le (ck.ck s.data.toList)
  have h2 := ck.ck_bd s.data.toList
  have h3 : (⟨#[35]⟩ : ByteArray).size = 1 := rfl
  unfold sealS
  rw [ByteArray.size_append, ByteArray.size_append]
  omega

open Classical in
noncomputable def appS (s : ByteArray) : ByteArray := if s.size ≤ 4000 ∧ (35 : UInt8) ∉ s.data.toList ∧ (sealS s).size ≤ 4000 then sealS s else ⟨#[]⟩
open Classical in
noncomputable def appB (s : ByteArray) : Bool := decide (s.size ≤ 4000 ∧ (35 : UInt8) ∉ s.data.toList ∧ (sealS s).size ≤ 4000)

theorem appS_yes {s : ByteArray} (h : s.size ≤ 4000 ∧ (35 : UInt8) ∉ s.data.toList ∧ (sealS s).size ≤ 4000) : appS s = sealS s := if_pos h
theorem appB_yes {s : ByteArray} (h : s.size ≤ 4000 ∧ (35 : UInt8) ∉ s.data.toList ∧ (sealS s).size ≤ 4000) : appB s = true := decide_eq_true h
theorem appS_no {s : ByteArray} (h : ¬ (s.size ≤ 4000 ∧ (35 : UInt8) ∉ s.data.toList ∧ (sealS s).size ≤ 4000)) : appS s = ⟨#[]⟩ := if_neg h
theorem appB_no {s : ByteArray} (h : ¬ (s.size ≤ 4000 ∧ (35 : UInt8) ∉ s.data.toList ∧ (sealS s).size ≤ 4000)) : appB s = false := decide_eq_false h

/-- what comes ahead of the first sign -/
def headS (s : ByteArray) : ByteArray := ⟨(s.data.toList.takeWhile (fun b => b != 35)).toArray⟩

theorem headS_le (s : ByteArray) : (headS s).size ≤ s.size := by
  have h := (List.takeWhile_sublist (fun b : UInt8 => b != 35) (l := s.data.toList)).length_le
  rw [size_data, size_data s]
  exact h

theorem takeWhile_none : ∀ (l : List UInt8) (x : UInt8), x ∉ l → l.takeWhile (fun b => b != x) = l
  | [], x, _ => rfl
  | b :: l, x, h => by
    have hb : (b != x) = true := by rw [bne_iff_ne]; rintro rfl; exact h (by simp)
    rw [List.takeWhile_cons, if_pos hb, takeWhile_none l x (fun h2 => h (by simp [h2]))]

theorem takeWhile_free : ∀ (l : List UInt8) (x : UInt8), x ∉ l.takeWhile (fun b => b != x)
  | [], x => by simp
  | b :: l, x => by
    rw [List.takeWhile_cons]
    by_cases h : (b != x) = true
    · rw [if_pos h]
      rw [List.mem_cons]
      rintro (rfl | h2)
      · simp at h
      · exact takeWhile_free l x h2
    · rw [if_neg h]
      simp

theorem headS_free (s : ByteArray) : (35 : UInt8) ∉ (headS s).data.toList := takeWhile_free s.data.toList 35

theorem headS_none {s : ByteArray} (h : (35 : UInt8) ∉ s.data.toList) : headS s = s := by
  unfold headS
  rw [takeWhile_none _ _ h]

/-- what comes ahead of the first place of a byte -/
theorem takeWhile_at : ∀ (l : List UInt8) (x : UInt8) (i : Nat), l[i]? = some x → (∀ j, j < i → l[j]? ≠ some x) → l.takeWhile (fun b => b != x) = l.take i
  | [], x, i, h, _ => by simp at h
  | b :: l, x, 0, h, _ => by
    simp at h
    subst h
    simp
  | b :: l, x, i + 1, h, hf => by
    have hb : (b != x) = true := by
      rw [bne_iff_ne]
      rintro rfl
      exact hf 0 (by omega) rfl
    rw [List.takeWhile_cons, if_pos hb, List.take_succ_cons, takeWhile_at l x i (by simpa using h) (fun j hj => by simpa using hf (j + 1) (by omega))]

theorem cut_head : ∀ (l : List UInt8) (x : UInt8), (Lib.cut l [x]).1 = l.takeWhile (fun b => b != x) ∧ (Lib.cut l [x]).2.2 = decide (x ∈ l)
  | [], x => by simp [Lib.cut, Lib.index]
  | b :: l, x => by
    obtain ⟨ih1, ih2⟩ := cut_head l x
    have hge := Lib.index_ge l [x]
    by_cases h : x = b
    · subst h
      have e : Lib.index (x :: l) [x] = 0 := by simp [Lib.index, List.isPrefixOf]
      unfold Lib.cut
      rw [e]
      simp
    · have hp : List.isPrefixOf [x] (b :: l) = false := by simp [List.isPrefixOf, h]
      have hb : (b != x) = true := by rw [bne_iff_ne]; exact fun e => h e.symm
      by_cases h2 : Lib.index l [x] = -1
      · have e : Lib.index (b :: l) [x] = -1 := by simp [Lib.index, hp, h2]
        unfold Lib.cut at ih1 ih2 ⊢
        rw [h2] at ih1 ih2
        rw [e]
        simp only [show ¬ ((0 : Int) ≤ -1) by omega, if_false] at ih1 ih2 ⊢
        rw [List.takeWhile_cons, if_pos hb, ← ih1]
        refine ⟨rfl, ?_⟩
        have h3 : x ∉ l := by simpa using ih2.symm
        simp [h, h3]
      · have h4 : (0 : Int) ≤ Lib.index l [x] := by omega
        have e : Lib.index (b :: l) [x] = Lib.index l [x] + 1 := by simp [Lib.index, hp, h2]
        unfold Lib.cut at ih1 ih2 ⊢
        rw [if_pos h4] at ih1 ih2
        rw [e, if_pos (by omega)]
        rw [List.takeWhile_cons, if_pos hb, ← ih1]
        refine ⟨?_, ?_⟩
        · show (b :: l).take (Lib.index l [x] + 1).toNat = _
          rw [show (Lib.index l [x] + 1).toNat = (Lib.index l [x]).toNat + 1 by omega, List.take_succ_cons]
        · have h3 : x ∈ l := by simpa using ih2.symm
          simp [h3]

theorem cut_head_s (s : ByteArray) : (⟨(Lib.cut s.data.toList [35]).1.toArray⟩ : ByteArray) = headS s ∧ (Lib.cut s.data.toList [35]).2.2 = decide ((35 : UInt8) ∈ s.data.toList) := by
  obtain ⟨h1, h2⟩ := cut_head s.data.toList 35
  exact ⟨by unfold headS; rw [h1], h2⟩

/-- the head of what is split -/
theorem splP_head (s : ByteArray) (x : UInt8) : ∀ k, k ≤ s.size →
    (splP s x k = [] ∧ splF s x k = 0 ∧ ∀ j, j < k → s.data.toList[j]? ≠ some x) ∨
    ∃ r i, splP s x k = s.extract 0 i :: r ∧ i < k ∧ s.data.toList[i]? = some x ∧ ∀ j, j < i → s.data.toList[j]? ≠ some x
  | 0, _ => .inl ⟨rfl, rfl, fun j hj => by omega⟩
  | k + 1, h => by
    have hk : k < s.size := by omega
    rcases splP_head s x k (by omega) with ⟨h1, h2, h3⟩ | ⟨r, i, h1, h2, h3, h4⟩
    · by_cases e : s[k] = x
      · refine .inr ⟨[], k, ?_, by omega, by rw [at_data hk, e], h3⟩
        rw [splP_hit hk e, h1, h2]
        rfl
      · refine .inl ⟨by rw [splP_miss hk e, h1], by rw [splF_miss hk e, h2], fun j hj => ?_⟩
        by_cases hj2 : j = k
        · subst hj2
          rw [at_data hk]
          simpa using e
        · exact h3 j (by omega)
    · by_cases e : s[k] = x
      · exact .inr ⟨_, i, by rw [splP_hit hk e, h1]; rfl, by omega, h3, h4⟩
      · exact .inr ⟨r, i, by rw [splP_miss hk e, h1], by omega, h3, h4⟩

theorem spl_head (s : ByteArray) : ∃ r, spl s 35 = headS s :: r := by
  have hd : ∀ i, s.extract 0 i = ⟨(s.data.toList.take i).toArray⟩ := fun i => by
    apply ByteArray.ext
    apply Array.ext'
    rw [Lib.extract_data]
    simp
  rcases splP_head s 35 s.size (Nat.le_refl _) with ⟨h1, h2, h3⟩ | ⟨r, i, h1, h2, h3, h4⟩
  · refine ⟨[], ?_⟩
    have hn : (35 : UInt8) ∉ s.data.toList := by
      intro hm
      obtain ⟨j, hj⟩ := List.getElem?_of_mem hm
      have := (List.getElem?_eq_some_iff.1 hj).1
      rw [← size_data] at this
      exact h3 j this hj
    unfold spl
    rw [h1, h2, headS_none hn, hd, List.take_of_length_le (by rw [← size_data]; exact Nat.le_refl _)]
    rfl
  · refine ⟨r ++ [s.extract (splF s 35 s.size) s.size], ?_⟩
    unfold spl
    rw [h1, hd]
    unfold headS
    rw [takeWhile_at _ _ i h3 h4]
    rfl

open Classical in
noncomputable def verS (s : ByteArray) : ByteArray := if s.size ≤ 4000 ∧ sealS (headS s) = s then headS s else ⟨#[]⟩
open Classical in
noncomputable def verB (s : ByteArray) : Bool := decide (s.size ≤ 4000 ∧ sealS (headS s) = s)
theorem verS_yes {s : ByteArray} (h : s.size ≤ 4000 ∧ sealS (headS s) = s) : verS s = headS s := if_pos h
theorem verB_yes {s : ByteArray} (h : s.size ≤ 4000 ∧ sealS (headS s) = s) : verB s = true := decide_eq_true h
theorem verS_no {s : ByteArray} (h : ¬ (s.size ≤ 4000 ∧ sealS (headS s) = s)) : verS s = ⟨#[]⟩ := if_neg h
theorem verB_no {s : ByteArray} (h : ¬ (s.size ≤ 4000 ∧ sealS (headS s) = s)) : verB s = false := decide_eq_false h

end Go.Proofs.YtlkajncgbnkkgaaDoor
