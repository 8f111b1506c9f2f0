/-
  What stays while a function works on a trie that it was given and has a fraction to return: the trie's box, the fraction's, the trie, and all that was there before.
-/
import Derived.Test.YthjafoacnfgjhacFrD
import Derived.Test.YthjafoacnfgjhacGvT
namespace Go.Proofs.Ythjafoacnfgjhac
open Go.RowKit
set_option linter.unusedVariables false

/-- W: when the function was entered; w: now; j: where the fraction lies behind the trie's box -/
structure Gf (ty : TypeId) (j : Nat) (W w : World) (a : Option Addr) (n c : Nat) (t : List Nd) : Prop where
  box : w.cell? ⟨W.heap.size, 0, none⟩ = some (.slice a n c)
  res : w.heap[W.heap.size + j]? = some (.cells #[.int .i64 0, .int .i64 0] ty)
  pos : 1 ≤ j
  lt : W.heap.size + j < w.heap.size
  bel : Below W.heap.size W w
  nds : Nds W.heap.size w a n c t

theorem Gf.start {W : World} {a : Option Addr} {n c : Nat} {t : List Nd} (ty : TypeId) (h : Nds W.heap.size W a n c t) : Gf ty 1 W ((W.alloc (.cells #[.slice a n c] 38)).alloc (.cells #[.int .i64 0, .int .i64 0] ty)) a n c t := by
  have hb : Below W.heap.size W ((W.alloc (.cells #[.slice a n c] 38)).alloc (.cells #[.int .i64 0, .int .i64 0] ty)) := ((Below.refl _ _).alloc (Nat.le_refl _) _).alloc (by simp) _
  refine ⟨?_, ?_, Nat.le_refl _, by simp, hb, h.keep hb⟩
  · rw [World.cell?_alloc_lt _ _ _ (by simp)]
    simp
  · have := heap_alloc_new (W.alloc (.cells #[.slice a n c] 38)) (.cells #[.int .i64 0, .int .i64 0] ty)
    simpa using this

theorem Gf.size {ty : TypeId} {j : Nat} {W w : World} {a : Option Addr} {n c : Nat} {t : List Nd} (h : Gf ty j W w a n c t) : W.heap.size < w.heap.size := by have := h.lt; omega

theorem Gf.on {ty : TypeId} {j : Nat} {W w w' : World} {a : Option Addr} {n c : Nat} {t : List Nd} (h : Gf ty j W w a n c t) (hb : Below w.heap.size w w') : Gf ty j W w' a n c t :=
  ⟨(hb.cell (p := ⟨W.heap.size, 0, none⟩) h.size).trans h.box, (hb.block _ h.lt).trans h.res, h.pos, Nat.lt_of_lt_of_le h.lt hb.size, h.bel.trans (hb.mono (Nat.le_of_lt h.size)), h.nds.keep (hb.mono (Nat.le_of_lt h.size))⟩

/-- behind changes that leave what is up to the fraction -/
theorem Gf.on2 {ty : TypeId} {j : Nat} {W w w' : World} {a : Option Addr} {n c : Nat} {t : List Nd} (h : Gf ty j W w a n c t) (hb : Below (W.heap.size + j + 1) w w') : Gf ty j W w' a n c t :=
  ⟨(hb.cell (p := ⟨W.heap.size, 0, none⟩) (show W.heap.size < W.heap.size + j + 1 by omega)).trans h.box, (hb.block _ (by omega)).trans h.res, h.pos, Nat.lt_of_lt_of_le h.lt hb.size, h.bel.trans (hb.mono (by omega)), h.nds.keep (hb.mono (by omega))⟩

theorem Gf.drewN {ty : TypeId} {j : Nat} {W w : World} {a : Option Addr} {n c : Nat} {t : List Nd} (h : Gf ty j W w a n c t) (q : Nat) : Gf ty j W (w.drewN q) a n c t := h.on (below_drewN (Below.refl _ _) q)

/-- what stands behind the store of the answer -/
theorem Gf.end' {ty : TypeId} {j : Nat} {W w : World} {a : Option Addr} {n c : Nat} {t : List Nd} (h : Gf ty j W w a n c t) (x y : Value) :
    (((w.setCell ⟨W.heap.size + j, 0, none⟩ x).setCell ⟨W.heap.size + j, 1, none⟩ y).cell? ⟨W.heap.size + j, 0, none⟩ = some x ∧ ((w.setCell ⟨W.heap.size + j, 0, none⟩ x).setCell ⟨W.heap.size + j, 1, none⟩ y).cell? ⟨W.heap.size + j, 1, none⟩ = some y) ∧ Below W.heap.size W ((w.setCell ⟨W.heap.size + j, 0, none⟩ x).setCell ⟨W.heap.size + j, 1, none⟩ y) :=
  ⟨pair_set h.res, pair_below h.bel (by omega)⟩

theorem Gf.open {ty : TypeId} {j : Nat} {W w : World} {a : Option Addr} {n c : Nat} {t : List Nd} (h : Gf ty j W w a n c t) :
    w.cell? ⟨W.heap.size + j, 0, none⟩ = some (.int .i64 0) ∧ w.cell? ⟨W.heap.size + j, 1, none⟩ = some (.int .i64 0) ∧ w.frozen? ⟨W.heap.size + j, 0, none⟩ = false ∧ w.frozen? ⟨W.heap.size + j, 1, none⟩ = false := frozen_new2 h.res

end Go.Proofs.Ythjafoacnfgjhac
