/-
  What stays while a function works on a trie that it was given, with a variable for the trie that it answers.
-/
import Derived.Test.YtipkdoplgjgkpacGvT
import Derived.Test.YtipkdoplgjgkpacLawNds
import Derived.Test.YtipkdoplgjgkpacMade5
namespace Go.Proofs.Ytipkdoplgjgkpac
open Go.RowKit
set_option linter.unusedVariables false

/-- W: when the function was entered; w: now -/
structure GvR (W w : World) (a : Option Addr) (n c : Nat) (t : List Nd) : Prop where
  gv : Gv W w a n c t
  res : Boxed w (W.heap.size + 1) 30 (.slice none 0 0)

theorem GvR.start {W : World} {a : Option Addr} {n c : Nat} {t : List Nd} (h : Nds W.heap.size W a n c t) : GvR W ((W.alloc (.cells #[.slice a n c] 30)).alloc (.cells #[.slice none 0 0] 30)) a n c t :=
  ⟨(Gv.start h).on ((Below.refl _ _).alloc (Nat.le_refl _) _), by simpa using Boxed.new (W.alloc (.cells #[.slice a n c] 30)) 30 (.slice none 0 0)⟩

theorem GvR.on {W w w' : World} {a : Option Addr} {n c : Nat} {t : List Nd} (h : GvR W w a n c t) (hb : Below w.heap.size w w') : GvR W w' a n c t := ⟨h.gv.on hb, box_stay h.res hb⟩

theorem GvR.box {W w : World} {a : Option Addr} {n c : Nat} {t : List Nd} (h : GvR W w a n c t) : w.cell? ⟨W.heap.size, 0, none⟩ = some (.slice a n c) := h.gv.box
theorem GvR.size {W w : World} {a : Option Addr} {n c : Nat} {t : List Nd} (h : GvR W w a n c t) : W.heap.size ≤ w.heap.size := h.gv.bel.size

/-- the world behind the store of the answer -/
theorem GvR.done {W w : World} {a : Option Addr} {n c : Nat} {t : List Nd} (h : GvR W w a n c t) (v : Value) : Below W.heap.size W (w.setCell ⟨W.heap.size + 1, 0, none⟩ v) := h.gv.bel.setCell (p := ⟨W.heap.size + 1, 0, none⟩) (Nat.le_succ _) _

theorem GvR.read {W w : World} {a b : Option Addr} {n c d : Nat} {t tt : List Nd} {ok : Bool} (h : GvR W w a n c t) (hN : Nds w.heap.size w b tt.length d tt) : ReadRes W tt ok (.returned (.tuple #[.agg #[.slice b tt.length d], .bool ok])) (w.setCell ⟨W.heap.size + 1, 0, none⟩ (.slice b tt.length d)) :=
  ⟨_, _, rfl, by have := hN.box h.res (.slice b tt.length d); simpa [World.setCell] using this, h.done _⟩

theorem GvR.readNo {W w : World} {a : Option Addr} {n c : Nat} {t : List Nd} (h : GvR W w a n c t) : ReadRes W [] false (.returned (.tuple #[.agg #[.slice none 0 0], .bool false])) (w.setCell ⟨W.heap.size + 1, 0, none⟩ (.slice none 0 0)) :=
  ⟨_, _, rfl, nds_nil _ _, h.done _⟩

theorem GvR.own {W w : World} {a b : Option Addr} {n c d base : Nat} {t tt : List Nd} {ok : Bool} (h : GvR W w a n c t) (hO : w.ownsRow base 86 3 (.slice b tt.length d) tt.length (ndc tt)) (hb : W.heap.size ≤ base) : TrieRes W tt ok (.returned (.tuple #[.agg #[.slice b tt.length d], .bool ok])) (w.setCell ⟨W.heap.size + 1, 0, none⟩ (.slice b tt.length d)) :=
  ⟨_, rfl, (own_down hO hb).kept (grownBy_setCell' w (W.heap.size + 1) _) (.inr (h.res.not_row (by decide) hO).symm), h.done _⟩

theorem GvR.ownNo {W w : World} {a : Option Addr} {n c : Nat} {t : List Nd} (h : GvR W w a n c t) : TrieRes W [] false (.returned (.tuple #[.agg #[.slice none 0 0], .bool false])) (w.setCell ⟨W.heap.size + 1, 0, none⟩ (.slice none 0 0)) :=
  ⟨_, rfl, World.ownsRow_nil _ _ _ _, h.done _⟩

end Go.Proofs.Ytipkdoplgjgkpac
