/-
  Splitting a text at a byte, as both programs do it: what has been cut off after k bytes, and where the next part begins.
-/
import Derived.Test.YtlkajncgbnkkgaaDoorJoin
namespace Go.Proofs.YtlkajncgbnkkgaaDoor

/-- after k bytes: the parts, and the place behind the last separator -/
def splSt (s : ByteArray) (x : UInt8) : Nat → List ByteArray × Nat
  | 0 => ([], 0)
  | k + 1 => if s.data.toList[k]? = some x then ((splSt s x k).1 ++ [s.extract (splSt s x k).2 k], k + 1) else splSt s x k

def splP (s : ByteArray) (x : UInt8) (k : Nat) : List ByteArray := (splSt s x k).1
def splF (s : ByteArray) (x : UInt8) (k : Nat) : Nat := (splSt s x k).2
def spl (s : ByteArray) (x : UInt8) : List ByteArray := splP s x s.size ++ [s.extract (splF s x s.size) s.size]

theorem splP_zero (s : ByteArray) (x : UInt8) : splP s x 0 = [] := rfl
theorem splF_zero (s : ByteArray) (x : UInt8) : splF s x 0 = 0 := rfl

theorem at_data {s : ByteArray} {k : Nat} (h : k < s.size) : s.data.toList[k]? = some s[k] := by
  rw [List.getElem?_eq_getElem (by rw [← size_data]; exact h)]; rfl

theorem splP_hit {s : ByteArray} {x : UInt8} {k : Nat} (h : k < s.size) (e : s[k] = x) : splP s x (k + 1) = splP s x k ++ [s.extract (splF s x k) k] := by
  unfold splP splF
  rw [splSt, at_data h, e, if_pos rfl]
theorem splF_hit {s : ByteArray} {x : UInt8} {k : Nat} (h : k < s.size) (e : s[k] = x) : splF s x (k + 1) = k + 1 := by
  unfold splF
  rw [splSt, at_data h, e, if_pos rfl]
theorem splP_miss {s : ByteArray} {x : UInt8} {k : Nat} (h : k < s.size) (e : s[k] ≠ x) : splP s x (k + 1) = splP s x k := by
  unfold splP
  rw [splSt, at_data h, if_neg (by simpa using e)]
theorem splF_miss {s : ByteArray} {x : UInt8} {k : Nat} (h : k < s.size) (e : s[k] ≠ x) : splF s x (k + 1) = splF s x k := by
  unfold splF
  rw [splSt, at_data h, if_neg (by simpa using e)]

theorem splF_le (s : ByteArray) (x : UInt8) : ∀ k, splF s x k ≤ k
  | 0 => Nat.le_refl _
  | k + 1 => by
    have := splF_le s x k
    unfold splF at this ⊢
    rw [splSt]
    by_cases h : s.data.toList[k]? = some x
    · rw [if_pos h]; exact Nat.le_refl _
    · rw [if_neg h]; omega

theorem splP_len (s : ByteArray) (x : UInt8) : ∀ k, (splP s x k).length ≤ k
  | 0 => Nat.le_refl _
  | k + 1 => by
    have := splP_len s x k
    unfold splP at this ⊢
    rw [splSt]
    by_cases h : s.data.toList[k]? = some x
    · rw [if_pos h]; simp; omega
    · rw [if_neg h]; omega

theorem extract_size_le (s : ByteArray) (a b : Nat) : (s.extract a b).size ≤ s.size := by
  rw [ByteArray.size_extract]
  omega

theorem splP_each (s : ByteArray) (x : UInt8) : ∀ k, ∀ t ∈ splP s x k, t.size ≤ s.size
  | 0 => fun t h => by simp [splP, splSt] at h
  | k + 1 => fun t ht => by
    have ih := splP_each s x k
    unfold splP at ih ht
    rw [splSt] at ht
    by_cases h : s.data.toList[k]? = some x
    · rw [if_pos h] at ht
      rcases List.mem_append.1 ht with h1 | h1
      · exact ih t h1
      · simp at h1
        rw [h1]
        exact extract_size_le _ _ _
    · rw [if_neg h] at ht
      exact ih t ht

theorem spl_each (s : ByteArray) (x : UInt8) : ∀ t ∈ spl s x, t.size ≤ s.size := by
  intro t ht
  rcases List.mem_append.1 ht with h1 | h1
  · exact splP_each s x _ t h1
  · simp at h1
    rw [h1]
    exact extract_size_le _ _ _

theorem spl_len (s : ByteArray) (x : UInt8) : (spl s x).length ≤ s.size + 1 := by
  have := splP_len s x s.size
  unfold spl
  simp
  omega

/-- What SplitString answers. -/
def splAns (s sep : ByteArray) : List ByteArray := if sep.size = 1 ∧ s.size ≤ 4000 then spl s (sep.data.toList.headD 0) else []
def splOk (s sep : ByteArray) : Bool := decide (sep.size = 1 ∧ s.size ≤ 4000)

theorem splAns_no {s sep : ByteArray} (h : ¬ (sep.size = 1 ∧ s.size ≤ 4000)) : splAns s sep = [] := if_neg h
theorem splOk_no {s sep : ByteArray} (h : ¬ (sep.size = 1 ∧ s.size ≤ 4000)) : splOk s sep = false := decide_eq_false h
theorem splAns_yes {s sep : ByteArray} {x : UInt8} (h : sep.size = 1 ∧ s.size ≤ 4000) (hx : sep.data.toList = [x]) : splAns s sep = spl s x := by
  unfold splAns
  rw [if_pos h, hx]
  rfl
theorem splOk_yes {s sep : ByteArray} (h : sep.size = 1 ∧ s.size ≤ 4000) : splOk s sep = true := decide_eq_true h

end Go.Proofs.YtlkajncgbnkkgaaDoor
