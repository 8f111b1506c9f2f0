/-
  Distances, common letters and fits of texts, told by numbers of letters; and a row that is being filled.
-/
import Derived.Test.YtipkdoplgjgkpacTxt
import Derived.WalkKit
namespace Go.Proofs.Ytipkdoplgjgkpac
open Go.RowKit
set_option linter.unusedVariables false

/-- one more row of distances -/
def levNext (f : Nat → Nat) (d : Nat → Nat) (z : Nat) : Nat → Nat
  | 0 => z
  | k + 1 => min (f k + d k) (1 + min (f (k + 1)) (levNext f d z k))

/-- 0 for equal letters, else 1 -/
def mism (x y : Txt) (i k : Nat) : Nat := if x[i]? = y[k]? then 0 else 1

/-- the distance of the first i letters of x and the first k of y -/
def lev (x y : Txt) : Nat → Nat → Nat
  | 0 => fun k => k
  | i + 1 => levNext (lev x y i) (mism x y i) (i + 1)

theorem lev_z (x y : Txt) (i : Nat) : lev x y i 0 = i := by cases i <;> rfl
theorem lev_o (x y : Txt) (k : Nat) : lev x y 0 k = k := rfl
theorem lev_ss (x y : Txt) (i k : Nat) : lev x y (i + 1) (k + 1) = min (lev x y i k + mism x y i k) (1 + min (lev x y i (k + 1)) (lev x y (i + 1) k)) := rfl
theorem mism_le (x y : Txt) (i k : Nat) : mism x y i k ≤ 1 := by unfold mism; split <;> omega
theorem mism_swap (x y : Txt) (i k : Nat) : mism x y i k = mism y x k i := by
  unfold mism
  by_cases h : x[i]? = y[k]?
  · rw [if_pos h, if_pos h.symm]
  · rw [if_neg h, if_neg (fun e => h e.symm)]
theorem lev_le (x y : Txt) : ∀ i k : Nat, lev x y i k ≤ i + k
  | 0, k => by rw [lev_o]; omega
  | i + 1, 0 => by rw [lev_z]; omega
  | i + 1, k + 1 => by
    rw [lev_ss]
    have h1 := lev_le x y i (k + 1)
    omega
theorem lev_swap (x y : Txt) : ∀ i k : Nat, lev x y i k = lev y x k i
  | 0, k => by rw [lev_o, lev_z]
  | i + 1, 0 => by rw [lev_o, lev_z]
  | i + 1, k + 1 => by
    rw [lev_ss, lev_ss, lev_swap x y i k, lev_swap x y i (k + 1), lev_swap x y (i + 1) k, mism_swap]
    omega

/-- one more row of common letters -/
def lcsNext (f : Nat → Nat) (e : Nat → Bool) : Nat → Nat
  | 0 => 0
  | k + 1 => if e k then f k + 1 else max (f (k + 1)) (lcsNext f e k)

/-- the most letters in common of the first i letters of x and the first k of y -/
def lcs (x y : Txt) : Nat → Nat → Nat
  | 0 => fun _ => 0
  | i + 1 => lcsNext (lcs x y i) (fun k => x[i]? == y[k]?)

theorem lcs_o (x y : Txt) (k : Nat) : lcs x y 0 k = 0 := rfl
theorem lcs_z (x y : Txt) (i : Nat) : lcs x y i 0 = 0 := by cases i <;> rfl
theorem lcs_ss (x y : Txt) (i k : Nat) : lcs x y (i + 1) (k + 1) = if (x[i]? == y[k]?) then lcs x y i k + 1 else max (lcs x y i (k + 1)) (lcs x y (i + 1) k) := rfl
theorem lcs_le (x y : Txt) : ∀ i k : Nat, lcs x y i k ≤ i + k
  | 0, k => by rw [lcs_o]; omega
  | i + 1, 0 => by rw [lcs_z]; omega
  | i + 1, k + 1 => by
    rw [lcs_ss]
    have h1 := lcs_le x y i (k + 1)
    have h2 := lcs_le x y (i + 1) k
    have h3 := lcs_le x y i k
    split <;> omega

/-- whether the signs so far fit the first letters -/
def fitNext (f : Nat → Bool) (star : Bool) (e : Nat → Bool) : Nat → Bool
  | 0 => f 0 && star
  | k + 1 => if star then f (k + 1) || fitNext f star e k else f k && e k

/-- whether the first i signs of p fit the first k letters of x -/
def fit (p x : Txt) : Nat → Nat → Bool
  | 0 => fun k => k == 0
  | i + 1 => fitNext (fit p x i) (p[i]? == some 42) (fun k => p[i]? == some 63 || p[i]? == x[k]?)

theorem fit_o (p x : Txt) (k : Nat) : fit p x 0 k = (k == 0) := rfl
theorem fit_z (p x : Txt) (i : Nat) : fit p x (i + 1) 0 = (fit p x i 0 && (p[i]? == some 42)) := rfl
theorem fit_ss (p x : Txt) (i k : Nat) : fit p x (i + 1) (k + 1) = if (p[i]? == some 42) then fit p x i (k + 1) || fit p x (i + 1) k else fit p x i k && (p[i]? == some 63 || p[i]? == x[k]?) := rfl

/-- a row that is filled up to j -/
def fil (f : Nat → Value) (z : Value) (j n : Nat) : List Value := (List.range n).map fun k => if k < j then f k else z

theorem fil_len (f : Nat → Value) (z : Value) (j n : Nat) : (fil f z j n).length = n := by simp [fil]
theorem fil_zero (f : Nat → Value) (z : Value) (n : Nat) : List.replicate n z = fil f z 0 n := by
  unfold fil
  apply List.ext_getElem
  · simp
  · intro i h1 h2; simp
theorem fil_all (f : Nat → Value) (z : Value) (n : Nat) : fil f z n n = (List.range n).map f := by
  unfold fil
  apply List.map_congr_left
  intro k hk
  rw [if_pos (List.mem_range.1 hk)]
theorem fil_at (f : Nat → Value) (z : Value) {j n k : Nat} (h : k < n) : (fil f z j n)[k]? = some (if k < j then f k else z) := by simp [fil, h]
theorem fil_old (f : Nat → Value) (z : Value) {j n k : Nat} (h : k < n) (hj : k < j) : (fil f z j n)[k]? = some (f k) := by rw [fil_at f z h, if_pos hj]
theorem fil_new (f : Nat → Value) (z : Value) {j n k : Nat} (h : k < n) (hj : j ≤ k) : (fil f z j n)[k]? = some z := by rw [fil_at f z h, if_neg (by omega)]
theorem fil_set (f : Nat → Value) (z : Value) (j n : Nat) : (fil f z j n).set j (f j) = fil f z (j + 1) n := by
  apply List.ext_getElem
  · simp [fil]
  · intro i h1 h2
    have hi : i < n := by simpa [fil] using h2
    rw [List.getElem_set]
    simp only [fil, List.getElem_map, List.getElem_range]
    by_cases e : j = i
    · subst e; simp
    · rw [if_neg e]
      by_cases h : i < j
      · rw [if_pos h, if_pos (by omega)]
      · rw [if_neg h, if_neg (by omega)]
theorem row_at (f : Nat → Value) {n k : Nat} (h : k < n) : ((List.range n).map f)[k]? = some (f k) := by simp [h]
theorem row_len (f : Nat → Value) (n : Nat) : ((List.range n).map f).length = n := by simp
theorem row_app (f : Nat → Value) (n : Nat) : (List.range n).map f ++ [f n] = (List.range (n + 1)).map f := by rw [List.range_succ]; simp

/-- letters of two texts -/
theorem tx_at2 {s : ByteArray} {i : Nat} (h : i < s.size) : s.data.toList[i]? = some s[i] := by
  have : i < s.data.toList.length := by simpa using h
  rw [List.getElem?_eq_getElem this]; rfl
theorem mism_eq {a b : ByteArray} {i k : Nat} (hi : i < a.size) (hk : k < b.size) (h : a[i].toNat = b[k].toNat) : mism a.data.toList b.data.toList i k = 0 := by
  unfold mism
  rw [tx_at2 hi, tx_at2 hk, if_pos (by rw [UInt8.toNat_inj.1 h])]
theorem mism_ne {a b : ByteArray} {i k : Nat} (hi : i < a.size) (hk : k < b.size) (h : ¬ a[i].toNat = b[k].toNat) : mism a.data.toList b.data.toList i k = 1 := by
  unfold mism
  rw [tx_at2 hi, tx_at2 hk, if_neg (fun e => h (by injection e with e; rw [e]))]
theorem same_at {a b : ByteArray} {i k : Nat} (hi : i < a.size) (hk : k < b.size) : (a.data.toList[i]? == b.data.toList[k]?) = decide (a[i].toNat = b[k].toNat) := by
  rw [tx_at2 hi, tx_at2 hk]
  by_cases h : a[i] = b[k]
  · simp [h]
  · have : ¬ a[i].toNat = b[k].toNat := fun e => h (UInt8.toNat_inj.1 e)
    simp [h, this]
theorem sign_at {a : ByteArray} {i : Nat} (hi : i < a.size) (c : UInt8) : (a.data.toList[i]? == some c) = decide (a[i].toNat = c.toNat) := by
  rw [tx_at2 hi]
  by_cases h : a[i] = c
  · simp [h]
  · have : ¬ a[i].toNat = c.toNat := fun e => h (UInt8.toNat_inj.1 e)
    simp [h, this]

theorem ne_yes {a b : Nat} (h : ¬ a = b) : ((a : Int) != (b : Int)) = true := by simp; omega
theorem ne_no {a b : Nat} (h : a = b) : ((a : Int) != (b : Int)) = false := by subst h; simp

end Go.Proofs.Ytipkdoplgjgkpac
