/-
  What stays while a function works on a pressed tree that it was given; whether this is valid: both functions.
-/
import Derived.Test.YtoofpgehkihbcaaIsPrI
import Derived.Test.YtoofpgehkihbcaaPrLen
namespace Go.Proofs.Ytoofpgehkihbcaa
open Go.RowKit
set_option linter.unusedVariables false

/-- W: when the function was entered; w: now -/
structure GvP (W w : World) (a : Option Addr) (n c : Nat) (p : List Br) : Prop where
  box : w.cell? ⟨W.heap.size, 0, none⟩ = some (.slice a n c)
  lt : W.heap.size < w.heap.size
  bel : Below W.heap.size W w
  brs : Brs W.heap.size w a n c p

section
variable {W w w' : World} {a : Option Addr} {n c : Nat} {p : List Br}
theorem GvP.start (h : Brs W.heap.size W a n c p) : GvP W (W.alloc (.cells #[.slice a n c] 30)) a n c p :=
  have hb := (Below.refl W.heap.size W).alloc (Nat.le_refl _) (.cells #[.slice a n c] 30)
  ⟨by simp, by simp, hb, h.keep hb⟩
theorem GvP.on (h : GvP W w a n c p) (hb : Below w.heap.size w w') : GvP W w' a n c p :=
  ⟨(hb.cell (p := ⟨W.heap.size, 0, none⟩) h.lt).trans h.box, Nat.lt_of_lt_of_le h.lt hb.size, h.bel.trans (hb.mono (Nat.le_of_lt h.lt)), h.brs.keep (hb.mono (Nat.le_of_lt h.lt))⟩
theorem GvP.size (h : GvP W w a n c p) : W.heap.size ≤ w.heap.size := h.bel.size
end

theorem ret_ib {u v : Int} {p q : Bool} (h : u = v) (k : p = q) : Ending.returned (.tuple #[.int .i64 u, .bool p]) = .returned (.tuple #[.int .i64 v, .bool q]) := by rw [h, k]
theorem ret_iib {u v u' v' : Int} {p q : Bool} (h : u = v) (h' : u' = v') (k : p = q) : Ending.returned (.tuple #[.int .i64 u, .int .i64 u', .bool p]) = .returned (.tuple #[.int .i64 v, .int .i64 v', .bool q]) := by rw [h, h', k]

theorem l4Open_g {W w : World} {a : Option Addr} {n c : Nat} {p : List Br} (h : GvP W w a n c p) (hn : n ≤ 1048576) :
    Calls Try.prog 27 #[.agg #[.slice a n c]] w fun e w' => ∃ a' c', e = .returned (.tuple #[.agg #[.slice a' (pT p).length c'], .bool (pOk p)]) ∧ Nds w'.heap.size w' a' (pT p).length c' (pT p) ∧ Below w.heap.size w w' :=
  l4Open_any W.heap.size a n c p w h.size h.brs hn
theorem isPressed_g {W w : World} {a : Option Addr} {n c : Nat} {p : List Br} (h : GvP W w a n c p) (hn : n ≤ 1048576) :
    Calls Try.prog 33 #[.agg #[.slice a n c]] w fun e w' => e = .returned (.bool (pOk p)) ∧ Below w.heap.size w w' :=
  implIsPressed_any a n c p w (h.brs.mono h.size) hn

end Go.Proofs.Ytoofpgehkihbcaa
