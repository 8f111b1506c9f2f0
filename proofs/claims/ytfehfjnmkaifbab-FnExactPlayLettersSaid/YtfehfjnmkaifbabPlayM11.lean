/-
  Letters played in turns: where they end and who has lost.
-/
import Derived.Test.YtfehfjnmkaifbabKidNum
import Derived.Test.YtfehfjnmkaifbabGame11
namespace Go.Proofs.Ytfehfjnmkaifbab
open Go.RowKit
set_option linter.unusedVariables false

/-- the kid with a letter -/
def kidL (ps : List Txt) (i : Nat) (c : UInt8) : Option Nat := if ps.getD i [] ++ [c] ∈ ps then some (ps.idxOf (ps.getD i [] ++ [c])) else none

theorem kidL_iff {t : List Nd} {ps : List Txt} (h : Tells t t.length ps) {i : Nat} (hi : i < t.length) (c : UInt8) (j : Nat) : kidL ps i c = some j ↔ IsKid t i ((c.toNat : Int) - 97) j := by
  obtain ⟨_, x, _, hx⟩ := h.at hi
  have hg : ps.getD i [] = x := by simp [List.getD, hx]
  unfold kidL
  rw [hg]
  constructor
  · intro he
    by_cases hm : x ++ [c] ∈ ps
    · rw [if_pos hm] at he
      have hj := Option.some.inj he
      refine isKid_of h hx ?_
      rw [← hj]
      have hlt := List.idxOf_lt_length_of_mem hm
      rw [List.getElem?_eq_getElem hlt, List.getElem_idxOf hlt]
    · rw [if_neg hm] at he; cases he
  · intro hk
    have hj := isKid_at h hx hk
    have hm : x ++ [c] ∈ ps := List.mem_of_getElem? hj
    rw [if_pos hm]
    have hlt := List.idxOf_lt_length_of_mem hm
    have h2 : ps[ps.idxOf (x ++ [c])]? = some (x ++ [c]) := by rw [List.getElem?_eq_getElem hlt, List.getElem_idxOf hlt]
    rw [asc_inj h.asc h2 hj]

theorem kidL_none {t : List Nd} {ps : List Txt} (h : Tells t t.length ps) {i : Nat} (hi : i < t.length) {c : UInt8} (hn : ∀ j, ¬ IsKid t i ((c.toNat : Int) - 97) j) : kidL ps i c = none := by
  cases hk : kidL ps i c with
  | none => rfl
  | some j => exact absurd ((kidL_iff h hi c j).1 hk) (hn j)

theorem isKid_mem {t : List Nd} {i j : Nat} {l : Int} (h : IsKid t i l j) : j ∈ kidsTo t i t.length := by
  obtain ⟨h1, d, hd, hp, _⟩ := h
  exact mem_kidsTo.2 ⟨(List.getElem?_eq_some_iff.1 hd).1, h1, d, hd, hp⟩

/-- where the letters end, and how many have been added -/
def plyF (t : List Nd) (ps : List Txt) (m : Nat) : Nat → Nat → Txt → Nat × Nat
  | i, k, [] => (i, k)
  | i, k, c :: cs => if fatB t ps m i = true then (i, k) else match kidL ps i c with
    | none => (i, k)
    | some j => plyF t ps m j (k + 1) cs

theorem plyF_fat {t : List Nd} {ps : List Txt} {m i k : Nat} {cs : Txt} (h : fatB t ps m i = true) : plyF t ps m i k cs = (i, k) := by
  cases cs with
  | nil => rfl
  | cons c cs => unfold plyF; rw [if_pos h]
theorem plyF_stop {t : List Nd} {ps : List Txt} {m i k : Nat} {c : UInt8} {cs : Txt} (h : fatB t ps m i = false) (hk : kidL ps i c = none) : plyF t ps m i k (c :: cs) = (i, k) := by
  unfold plyF
  rw [if_neg (by rw [h]; simp), hk]
theorem plyF_on {t : List Nd} {ps : List Txt} {m i k j : Nat} {c : UInt8} {cs : Txt} (h : fatB t ps m i = false) (hk : kidL ps i c = some j) : plyF t ps m i k (c :: cs) = plyF t ps m j (k + 1) cs := by
  show (if _ then _ else _) = _
  rw [if_neg (by rw [h]; simp), hk]

/-- who has lost -/
def lsrZ (t : List Nd) (ps : List Txt) (m : Nat) (E M : Nat) : Int := if fatB t ps m E = true then (((M - 1) % 2 : Nat) : Int) else if kidsTo t E t.length = [] then ((M % 2 : Nat) : Int) else -1

theorem lsr_fat {t : List Nd} {ps : List Txt} {m E M : Nat} (h : fatB t ps m E = true) : lsrZ t ps m E M = (((M - 1) % 2 : Nat) : Int) := by unfold lsrZ; rw [if_pos h]
theorem lsr_end {t : List Nd} {ps : List Txt} {m E M : Nat} (h : fatB t ps m E = false) (hk : kidsTo t E t.length = []) : lsrZ t ps m E M = ((M % 2 : Nat) : Int) := by unfold lsrZ; rw [if_neg (by rw [h]; simp), if_pos hk]
theorem lsr_none {t : List Nd} {ps : List Txt} {m E M : Nat} (h : fatB t ps m E = false) (hk : kidsTo t E t.length ≠ []) : lsrZ t ps m E M = -1 := by unfold lsrZ; rw [if_neg (by rw [h]; simp), if_neg hk]

theorem tmod_two (p : Nat) : (p : Int).tmod 2 = ((p % 2 : Nat) : Int) := by
  rw [Int.tmod_eq_emod_of_nonneg (by omega)]
  omega

/-- four results -/
theorem results_tmp4 {fn : Func} {t u v x : Tmp} (h : fn.results = #[.tmp t, .tmp u, .tmp v, .tmp x]) (tmps : Array Value) (P : Program) (w : World) :
    (results fn tmps).run P w = .ok (.tuple #[tmps.getD t undef, tmps.getD u undef, tmps.getD v undef, tmps.getD x undef]) w := by
  simp [results, h]

end Go.Proofs.Ytfehfjnmkaifbab
