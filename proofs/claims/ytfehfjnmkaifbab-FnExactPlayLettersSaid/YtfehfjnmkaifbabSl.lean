/-
  How a slice reads in a world: its cells, one value each; kept while nothing below a block number turns.
-/
import Derived.Test.YtfehfjnmkaifbabRows
import Derived.WalkKit
import Derived.SliceStrings
namespace Go.Proofs.Ytfehfjnmkaifbab
open Go.RowKit Go.ChangeShapes

/-- The slice (a, n, c) reads as the cells xs, in blocks below B. -/
structure Sl (B : Nat) (w : World) (a : Option Addr) (n c : Nat) (xs : List Value) : Prop where
  len : xs.length = n
  cap : n ≤ c
  top : c ≤ 9223372036854775807
  spot : ∀ (i : Nat) (u : Value), xs[i]? = some u → ∃ b o, a = some ⟨b, o, none⟩ ∧ b < B ∧ w.cell? ⟨b, o + i, none⟩ = some u

theorem Sl.keep {B : Nat} {w w' : World} {a : Option Addr} {n c : Nat} {xs : List Value} (h : Sl B w a n c xs) (hb : Below B w w') : Sl B w' a n c xs :=
  ⟨h.len, h.cap, h.top, fun i u hu => by
    obtain ⟨b, o, ha, hB, hc⟩ := h.spot i u hu
    exact ⟨b, o, ha, hB, (hb.cell (p := ⟨b, o + i, none⟩) hB).trans hc⟩⟩

theorem Sl.mono {B B' : Nat} {w : World} {a : Option Addr} {n c : Nat} {xs : List Value} (h : Sl B w a n c xs) (hb : B ≤ B') : Sl B' w a n c xs :=
  ⟨h.len, h.cap, h.top, fun i u hu => by
    obtain ⟨b, o, ha, hB, hc⟩ := h.spot i u hu
    exact ⟨b, o, ha, by omega, hc⟩⟩

/-- The slice reads as strings, each within the model's bound. -/
structure Strs (B : Nat) (w : World) (a : Option Addr) (n c : Nat) (ss : List ByteArray) : Prop where
  sl : Sl B w a n c (ss.map Value.string)
  each : ∀ s ∈ ss, s.size ≤ 9223372036854775807

theorem Strs.keep {B : Nat} {w w' : World} {a : Option Addr} {n c : Nat} {ss : List ByteArray} (h : Strs B w a n c ss) (hb : Below B w w') : Strs B w' a n c ss := ⟨h.sl.keep hb, h.each⟩
theorem Strs.mono {B B' : Nat} {w : World} {a : Option Addr} {n c : Nat} {ss : List ByteArray} (h : Strs B w a n c ss) (hb : B ≤ B') : Strs B' w a n c ss := ⟨h.sl.mono hb, h.each⟩
theorem Strs.len {B : Nat} {w : World} {a : Option Addr} {n c : Nat} {ss : List ByteArray} (h : Strs B w a n c ss) : ss.length = n := by simpa using h.sl.len

theorem Strs.elem {B : Nat} {w : World} {a : Option Addr} {n c : Nat} {ss : List ByteArray} (h : Strs B w a n c ss) (k : Nat) (hk : k < n) :
    ∃ b o s, a = some ⟨b, o, none⟩ ∧ b < B ∧ ss[k]? = some s ∧ s.size ≤ 9223372036854775807 ∧ w.cell? ⟨b, o + k, none⟩ = some (.string s) := by
  have hl := h.len
  have hs : ss[k]? = some ss[k] := List.getElem?_eq_getElem (by omega)
  obtain ⟨b, o, ha, hB, hc⟩ := h.sl.spot k (.string ss[k]) (by rw [List.getElem?_map, hs]; rfl)
  exact ⟨b, o, ss[k], ha, hB, hs, h.each _ (List.getElem_mem _), hc⟩

/-- What the argument's reading gives. -/
def IsStrs (w : World) (a : Option Addr) (len cap : Nat) (ss : List ByteArray) : Prop :=
  (a = none ∧ len = 0 ∧ cap = 0 ∧ ss = []) ∨
  ∃ x, a = some x ∧ len ≤ cap ∧ cap ≤ maxLen ∧ ss.length = cap ∧ (∀ i, i < ss.length → w.cell? (x.add i) = some (.string (ss.getD i ByteArray.empty))) ∧ ∀ s ∈ ss, s.size ≤ maxLen

theorem IsStrs.strs {w : World} {a : Option Addr} {len cap : Nat} {ss : List ByteArray} (h : IsStrs w a len cap ss) : Strs w.heap.size w a len cap (ss.take len) := by
  rcases h with ⟨rfl, rfl, rfl, rfl⟩ | ⟨x, rfl, hl, hm, hz, hc, hs⟩
  · exact ⟨⟨rfl, Nat.le_refl _, by omega, fun i u hu => by simp at hu⟩, fun s hs => by simp at hs⟩
  · refine ⟨⟨by simp; omega, hl, by unfold maxLen at hm; omega, fun i u hu => ?_⟩, fun s h => by have := hs s (List.mem_of_mem_take h); unfold maxLen at this; omega⟩
    rw [List.getElem?_map, Option.map_eq_some_iff] at hu
    obtain ⟨s, hu, rfl⟩ := hu
    obtain ⟨hi, hu⟩ := List.getElem?_eq_some_iff.1 hu
    have hi' : i < ss.length := by simp at hi; omega
    have h1 := hc i hi'
    obtain ⟨b, o, sp⟩ := x
    have hsp : sp = none := by simpa [Addr.add] using World.cell?_spot (hc 0 (by omega))
    subst hsp
    have hadd : (Addr.add ⟨b, o, none⟩ i) = ⟨b, o + i, none⟩ := by cases i <;> simp [Addr.add]
    rw [hadd] at h1
    rw [List.getElem_take] at hu
    rw [List.getD_eq_getElem?_getD, List.getElem?_eq_getElem hi', Option.getD_some, hu] at h1
    refine ⟨b, o, rfl, ?_, h1⟩
    exact World.block_lt_of_cell? w _ h1

end Go.Proofs.Ytfehfjnmkaifbab
