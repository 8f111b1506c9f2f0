/-
  What stays while a function works on a trie that it was given: its box, the trie, and all that was there before.
-/
import Derived.Test.YtfehfjnmkaifbabOf
namespace Go.Proofs.Ytfehfjnmkaifbab
open Go.RowKit
set_option linter.unusedVariables false

theorem ret_sb {u v : ByteArray} {p q : Bool} (h : u = v) (k : p = q) : Ending.returned (.tuple #[.string u, .bool p]) = .returned (.tuple #[.string v, .bool q]) := by rw [h, k]

/-- W: when the function was entered; w: now -/
structure Gv (W w : World) (a : Option Addr) (n c : Nat) (t : List Nd) : Prop where
  box : w.cell? ⟨W.heap.size, 0, none⟩ = some (.slice a n c)
  lt : W.heap.size < w.heap.size
  bel : Below W.heap.size W w
  nds : Nds W.heap.size w a n c t

theorem Gv.start {W : World} {a : Option Addr} {n c : Nat} {t : List Nd} (h : Nds W.heap.size W a n c t) : Gv W (W.alloc (.cells #[.slice a n c] 30)) a n c t :=
  have hb := (Below.refl W.heap.size W).alloc (Nat.le_refl _) (.cells #[.slice a n c] 30)
  ⟨by simp, by simp, hb, h.keep hb⟩

theorem Gv.on {W w w' : World} {a : Option Addr} {n c : Nat} {t : List Nd} (h : Gv W w a n c t) (hb : Below w.heap.size w w') : Gv W w' a n c t :=
  ⟨(hb.cell (p := ⟨W.heap.size, 0, none⟩) h.lt).trans h.box, Nat.lt_of_lt_of_le h.lt hb.size, h.bel.trans (hb.mono (Nat.le_of_lt h.lt)), h.nds.keep (hb.mono (Nat.le_of_lt h.lt))⟩

/-- behind changes from the entry on that leave the box -/
theorem Gv.on2 {W w w' : World} {a : Option Addr} {n c : Nat} {t : List Nd} (h : Gv W w a n c t) (hb : Below (W.heap.size + 1) w w') : Gv W w' a n c t :=
  ⟨(hb.cell (p := ⟨W.heap.size, 0, none⟩) (by simp)).trans h.box, Nat.lt_of_lt_of_le h.lt hb.size, h.bel.trans (hb.mono (by omega)), h.nds.keep (hb.mono (by omega))⟩

theorem Gv.len {W w : World} {a : Option Addr} {n c : Nat} {t : List Nd} (h : Gv W w a n c t) : t.length = n := h.nds.len

end Go.Proofs.Ytfehfjnmkaifbab
