/-
  Rows of truth values, and how a pattern fits the beginnings of a word.
-/
import Derived.Test.YtpneflbnipefaabLcs
import Derived.Test.YtpneflbnipefaabPat
import Derived.StillTailTactics
namespace Go.Proofs.Ytpneflbnipefaab
open Go.RowKit
set_option linter.unusedVariables false

theorem infoBl : (Try.prog.info? 4).map (fun i => (i.zero, i.size, i.bytes)) = some (some (.bool false), 1, 1) := by kernel_rfl

def bv (f : Nat → Bool) (k : Nat) : Value := .bool (f k)
def brow (f : Nat → Bool) (n : Nat) : List Value := (List.range n).map (bv f)
theorem brow_at (f : Nat → Bool) {n k : Nat} (h : k < n) : (brow f n)[k]? = some (.bool (f k)) := row_at _ h
theorem fil_skip {f : Nat → Value} {z : Value} {j : Nat} (h : f j = z) (n : Nat) : fil f z j n = fil f z (j + 1) n := by
  unfold fil
  apply List.map_congr_left
  intro i hi
  by_cases h1 : i < j
  · rw [if_pos h1, if_pos (by omega)]
  · rw [if_neg h1]
    by_cases h2 : i < j + 1
    · rw [if_pos h2]
      obtain rfl : i = j := by omega
      exact h.symm
    · rw [if_neg h2]

/-- the signs so far and the letters so far -/
structure Fit (p x : ByteArray) (C : Nat → Nat → Bool) : Prop where
  o : ∀ k, C 0 k = (k == 0)
  sz : ∀ i (h : i < p.size), (p[i]'h).toNat = 42 → C (i + 1) 0 = C i 0
  oz : ∀ i (h : i < p.size), ¬ (p[i]'h).toNat = 42 → C (i + 1) 0 = false
  ss : ∀ i k (h : i < p.size), (p[i]'h).toNat = 42 → C (i + 1) (k + 1) = (C i (k + 1) || C (i + 1) k)
  os : ∀ i k (h : i < p.size) (h2 : k < x.size), ¬ (p[i]'h).toNat = 42 → C (i + 1) (k + 1) = (C i k && (decide ((p[i]'h).toNat = 63) || decide ((p[i]'h).toNat = (x[k]'h2).toNat)))
theorem fit_is (p x : ByteArray) : Fit p x (fit p.data.toList x.data.toList) :=
  ⟨fit_o _ _, fun i h e => by rw [fit_z, sign_at h, show ((42 : UInt8).toNat = 42) from rfl, decide_eq_true e, Bool.and_true],
   fun i h e => by rw [fit_z, sign_at h, show ((42 : UInt8).toNat = 42) from rfl, decide_eq_false e, Bool.and_false],
   fun i k h e => by rw [fit_ss, sign_at h, show ((42 : UInt8).toNat = 42) from rfl, decide_eq_true e, if_pos rfl],
   fun i k h h2 e => by rw [fit_ss, sign_at h, show ((42 : UInt8).toNat = 42) from rfl, decide_eq_false e, if_neg (by simp), sign_at h, same_at h h2]; rfl⟩

theorem first_brow {C : Nat → Bool} (h : ∀ k, C k = (k == 0)) (n : Nat) : (List.replicate n (Value.bool false)).set 0 (.bool true) = brow C n := by
  unfold brow
  apply List.ext_getElem
  · simp
  · intro i h1 h2
    simp [bv, h, List.getElem_set]
    by_cases e : 0 = i
    · subst e; simp
    · have e2 : ¬ i = 0 := fun h => e h.symm
      simp [e, e2]

/-- what is left of a still region, behind a name of its own, so that no elaboration unfolds it -/
structure WS (P : Program) (ops : Array Oper) (w : World) (Q : Act → Prop) (l : List Oper) (a : Act) : Prop where
  out : wpStill P ops w Q l a
theorem ws_step {P : Program} {ops : Array Oper} {w : World} {Q : Act → Prop} {a : Act} {o : Oper} {rest : List Oper}
    (h : ∀ K : Act → Prop, (∀ a, WS P ops w Q rest a → K a) → if Region.wanted o (yielded ops a.tmps) then o.still P a w K else K (a.put o.dst undef)) : WS P ops w Q (o :: rest) a :=
  ⟨wpStill_step (fun K hK => h K (fun a ha => hK a ha.out))⟩
theorem ws_nil {P : Program} {ops : Array Oper} {w : World} {Q : Act → Prop} {a : Act} (h : Q a) : WS P ops w Q [] a := ⟨h⟩

theorem eq_lit {a b : Nat} (h : a = b) : ((a : Int) == (b : Int)) = true := by subst h; simp
theorem eqc {a : Nat} (c : Nat) (h : a = c) : ((a : Int) == ((c : Nat) : Int)) = true := by subst h; simp

end Go.Proofs.Ytpneflbnipefaab
