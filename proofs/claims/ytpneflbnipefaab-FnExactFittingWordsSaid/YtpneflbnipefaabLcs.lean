/-
  The most letters in common of two words: the program's rows.
-/
import Derived.Test.YtpneflbnipefaabDist
namespace Go.Proofs.Ytpneflbnipefaab
open Go.RowKit
set_option linter.unusedVariables false

theorem eq_yes {a b : Nat} (h : a = b) : ((a : Int) == (b : Int)) = true := by subst h; simp
theorem eq_not {a b : Nat} (h : ¬ a = b) : ((a : Int) == (b : Int)) = false := by simp; omega
theorem rep_irow {f : Nat → Nat} (h : ∀ k, f k = 0) (n : Nat) : List.replicate n (Value.int .i64 0) = irow f n := by
  unfold irow
  apply List.ext_getElem
  · simp
  · intro i h1 h2; simp [iv, h]
theorem fil_one {f : Nat → Value} {z : Value} (h : f 0 = z) (n : Nat) : List.replicate n z = fil f z 1 n := by
  unfold fil
  apply List.ext_getElem
  · simp
  · intro i h1 h2
    simp
    intro hi
    subst hi
    exact h.symm

/-- one round of a row: the greater of two numbers, and one more where the letters are the same -/
structure Lcs (a b : ByteArray) (C : Nat → Nat → Nat) : Prop where
  o : ∀ k, C 0 k = 0
  z : ∀ i, C i 0 = 0
  le : ∀ i k, C i k ≤ i + k
  yes : ∀ i k (h1 : i < a.size) (h2 : k < b.size), (a[i]'h1).toNat = (b[k]'h2).toNat → C (i + 1) (k + 1) = C i k + 1
  no : ∀ i k (h1 : i < a.size) (h2 : k < b.size), ¬ (a[i]'h1).toNat = (b[k]'h2).toNat → C (i + 1) (k + 1) = max (C i (k + 1)) (C (i + 1) k)
theorem lcs_is (a b : ByteArray) : Lcs a b (lcs a.data.toList b.data.toList) :=
  ⟨lcs_o _ _, lcs_z _ _, lcs_le _ _, fun i k h1 h2 e => by rw [lcs_ss, same_at h1 h2, decide_eq_true e]; rfl, fun i k h1 h2 e => by rw [lcs_ss, same_at h1 h2, decide_eq_false e]; rfl⟩

theorem max_ways (x y : Nat) : ((x : Int) < (y : Int) ∧ max x y = y) ∨ (¬ (x : Int) < (y : Int) ∧ max x y = x) := by omega

/-- moving on an iterator that is beyond a slice -/
theorem Sl.iterAt {B I : Nat} {w : World} {a : Option Addr} {n c : Nat} {xs : List Value} {s : ByteArray} {k : Nat} (h : Sl B w a n c xs) (hI : w.heap[I]? = some (.stringIter s k)) (q : Nat) : Sl B (w.iterAt I s q) a n c xs :=
  ⟨h.len, h.cap, h.top, fun i u hu => by
    obtain ⟨b9, o9, e9, h9, hc9⟩ := h.spot i u hu
    refine ⟨b9, o9, e9, h9, ?_⟩
    refine (World.cell?_of_block (a := ⟨b9, o9 + i, none⟩) (Lib.iterAt_other w I b9 s q ?_)).trans hc9
    rintro rfl
    simp [World.cell?, hI] at hc9⟩

end Go.Proofs.Ytpneflbnipefaab
