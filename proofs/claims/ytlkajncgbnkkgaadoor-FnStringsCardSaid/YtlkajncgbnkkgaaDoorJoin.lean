/-
  Joining strings, as plain functions on lists of bytes: when it may be done, and what comes of it.
-/
import Derived.Lib.Join
namespace Go.Proofs.YtlkajncgbnkkgaaDoor

def jn (ss : List ByteArray) (b : UInt8) : List UInt8 := Lib.join (ss.map (·.data.toList)) [b]

/-- some string of a list holds the byte -/
def Holds (ss : List ByteArray) (b : UInt8) : Prop := ∃ s ∈ ss, b ∈ s.data.toList

/-- the length of what is joined -/
def jlen (ss : List ByteArray) : Nat := (ss.map (·.size)).sum + (ss.length - 1)

theorem size_data (s : ByteArray) : s.size = s.data.toList.length := Lib.size_eq s

theorem jn_nil (b : UInt8) : jn [] b = [] := rfl
theorem jn_one (s : ByteArray) (b : UInt8) : jn [s] b = s.data.toList := Lib.join_one _ _

theorem jn_take_one {ss : List ByteArray} {s : ByteArray} (h : ss[0]? = some s) (b : UInt8) : jn (ss.take 1) b = s.data.toList := by
  cases ss with
  | nil => simp at h
  | cons x r =>
    simp at h
    subst h
    exact jn_one _ _

theorem jn_snoc (r : List ByteArray) (x s : ByteArray) (b : UInt8) : jn (x :: r ++ [s]) b = jn (x :: r) b ++ [b] ++ s.data.toList := by
  unfold jn
  rw [List.cons_append, List.map_cons, List.map_cons, Lib.join_cons, Lib.join_cons]
  simp [Lib.joinTail]

theorem jn_take_succ {ss : List ByteArray} {k : Nat} {s : ByteArray} (hk : 0 < k) (h : ss[k]? = some s) (b : UInt8) : jn (ss.take (k + 1)) b = jn (ss.take k) b ++ [b] ++ s.data.toList := by
  obtain ⟨hl, e⟩ := List.getElem?_eq_some_iff.1 h
  rw [List.take_succ_eq_append_getElem hl, e]
  cases ss with
  | nil => simp at hl
  | cons x r =>
    obtain ⟨j, rfl⟩ : ∃ j, k = j + 1 := ⟨k - 1, by omega⟩
    rw [List.take_succ_cons]
    exact jn_snoc _ _ _ _

theorem jn_len : ∀ (ss : List ByteArray) (b : UInt8), (jn ss b).length = jlen ss
  | [], b => rfl
  | [s], b => by rw [jn_one, ← size_data]; simp [jlen]
  | x :: y :: r, b => by
    have h : ∀ (r : List ByteArray) (x : ByteArray), (jn (x :: r) b).length = x.size + ((r.map (·.size)).sum + r.length) := by
      intro r
      unfold jn
      intro x
      rw [List.map_cons, Lib.join_cons, List.length_append, ← size_data]
      congr 1
      clear x
      induction r with
      | nil => simp [Lib.joinTail]
      | cons z r ih =>
        simp only [Lib.joinTail, List.map_cons, List.flatten_cons, List.length_append, List.length_cons, List.length_nil, ← size_data, List.sum_cons] at ih ⊢
        omega
    rw [h]
    simp [jlen]
    omega

theorem sum_take_succ {ss : List ByteArray} {k : Nat} {s : ByteArray} (h : ss[k]? = some s) : ((ss.take (k + 1)).map (·.size)).sum = ((ss.take k).map (·.size)).sum + s.size := by
  obtain ⟨hl, e⟩ := List.getElem?_eq_some_iff.1 h
  rw [List.take_succ_eq_append_getElem hl, e]
  simp

theorem sum_take_le (ss : List ByteArray) (k : Nat) : ((ss.take k).map (·.size)).sum ≤ (ss.map (·.size)).sum := by
  have h : ss = ss.take k ++ ss.drop k := (List.take_append_drop k ss).symm
  have e : (ss.map (·.size)).sum = ((ss.take k).map (·.size)).sum + ((ss.drop k).map (·.size)).sum := by
    have h2 : (ss.map (·.size)).sum = ((ss.take k ++ ss.drop k).map (·.size)).sum := by rw [← h]
    rw [h2, List.map_append, List.sum_append]
  omega

theorem jlen_take_le (ss : List ByteArray) (k : Nat) : jlen (ss.take k) ≤ jlen ss := by
  have := sum_take_le ss k
  unfold jlen
  rw [List.length_take]
  omega

theorem Holds.nil (b : UInt8) : ¬ Holds [] b := fun ⟨s, h, _⟩ => by simp at h
theorem Holds.of_at {ss : List ByteArray} {k : Nat} {s : ByteArray} (h : ss[k]? = some s) {b : UInt8} (hb : b ∈ s.data.toList) : Holds ss b := ⟨s, List.mem_of_getElem? h, hb⟩

theorem not_holds_succ {ss : List ByteArray} {k : Nat} {s : ByteArray} (h : ss[k]? = some s) {b : UInt8} (h0 : ¬ Holds (ss.take k) b) (hb : b ∉ s.data.toList) : ¬ Holds (ss.take (k + 1)) b := by
  obtain ⟨hl, e⟩ := List.getElem?_eq_some_iff.1 h
  rw [List.take_succ_eq_append_getElem hl, e]
  rintro ⟨t, ht, hbt⟩
  rcases List.mem_append.1 ht with ht | ht
  · exact h0 ⟨t, ht, hbt⟩
  · simp at ht
    subst ht
    exact hb hbt

open Classical in
/-- What JoinStrings answers, as a list of bytes and whether there is one. -/
noncomputable def joinAns (ss : List ByteArray) (sep : ByteArray) : List UInt8 × Bool :=
  if sep.size = 1 ∧ ss ≠ [] ∧ (∀ b ∈ sep.data.toList, ¬ Holds ss b) ∧ jlen ss ≤ 4000 then (Lib.join (ss.map (·.data.toList)) sep.data.toList, true) else ([], false)

theorem joinAns_no {ss : List ByteArray} {sep : ByteArray} (h : ¬ (sep.size = 1 ∧ ss ≠ [] ∧ (∀ b ∈ sep.data.toList, ¬ Holds ss b) ∧ jlen ss ≤ 4000)) : joinAns ss sep = ([], false) := by
  unfold joinAns
  rw [if_neg h]
theorem joinAns_yes {ss : List ByteArray} {sep : ByteArray} (h : sep.size = 1 ∧ ss ≠ [] ∧ (∀ b ∈ sep.data.toList, ¬ Holds ss b) ∧ jlen ss ≤ 4000) : joinAns ss sep = (Lib.join (ss.map (·.data.toList)) sep.data.toList, true) := by
  unfold joinAns
  rw [if_pos h]

/-- a separator of one byte -/
theorem sep_one {sep : ByteArray} (h : sep.size = 1) : ∃ (h0 : 0 < sep.size), sep.data.toList = [sep[0]] := by
  have h0 : 0 < sep.size := by omega
  refine ⟨h0, ?_⟩
  have hl : sep.data.toList.length = 1 := by rw [← size_data]; exact h
  obtain ⟨x, hx⟩ := List.length_eq_one_iff.1 hl
  have e : sep[0] = x := by
    have : sep.data.toList[0]'(by omega) = x := by simp [hx]
    rw [← this]; rfl
  rw [e, hx]

end Go.Proofs.YtlkajncgbnkkgaaDoor
