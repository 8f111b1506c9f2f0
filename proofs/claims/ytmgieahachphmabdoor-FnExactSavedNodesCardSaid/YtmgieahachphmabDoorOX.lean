/-
  A row that grows beside another one that is only read.
-/
import Derived.Test.YtmgieahachphmabDoorOW
namespace Go.Proofs.YtmgieahachphmabDoor.cap
open Go.RowKit
set_option linter.unusedVariables false

/-- a row that grows, and another one that is only read -/
structure OX (base : Nat) (wr : World) (e : TypeId) (size : Nat) (v : Value) (m : Nat) (xs : List Value) (te : TypeId) (vx : Value) (nx : Nat) (xx : List Value) : Prop where
  out : wr.ownsRow base e size v m xs
  ext : wr.ownsRow 0 te 1 vx nx xx
  dis : vx.ownBlock = none ∨ vx.ownBlock ≠ v.ownBlock

theorem OX.on {base : Nat} {w w' : World} {e : TypeId} {size m : Nat} {v : Value} {xs : List Value} {te : TypeId} {vx : Value} {nx : Nat} {xx : List Value} (h : OX base w e size v m xs te vx nx xx) (hb : Below w.heap.size w w') : OX base w' e size v m xs te vx nx xx :=
  ⟨own_stay h.out hb, own_stay h.ext hb, h.dis⟩

theorem OX.app {base : Nat} {w w2 : World} {o : Obj} {e : TypeId} {size m m2 : Nat} {v v2 : Value} {xs xs2 : List Value} {te : TypeId} {vx : Value} {nx : Nat} {xx : List Value} (h : OX base w e size v m xs te vx nx xx)
    (hO : w2.ownsRow base e size v2 m2 xs2) (hG : (w.alloc o).grownBy w2 v.ownBlock) (hat : v2.ownBlock = v.ownBlock ∨ v2.ownBlock = some (w.alloc o).heap.size) : OX base w2 e size v2 m2 xs2 te vx nx xx := by
  refine ⟨hO, (h.ext.alloc o).kept hG h.dis, ?_⟩
  rcases h.dis with e | e
  · exact .inl e
  · refine .inr fun e3 => ?_
    rcases hat with e4 | e4
    · exact e (e3.trans e4)
    · have := (own_ge h.ext (e3.trans e4)).2
      simp at this
      omega

theorem OX.below {base : Nat} {w w2 : World} {o : Obj} {e : TypeId} {size m : Nat} {v : Value} {xs : List Value} {te : TypeId} {vx : Value} {nx : Nat} {xx : List Value} (h : OX base w e size v m xs te vx nx xx) (hb : base ≤ w.heap.size)
    (hG : (w.alloc o).grownBy w2 v.ownBlock) : Below base w w2 :=
  ((Below.refl _ w).alloc hb _).trans (below_grown (h.out.alloc o) (Nat.le_refl _) (by simp; omega) hG)

/-- a row made later is another one -/
theorem OX.later {base : Nat} {w w2 : World} {e : TypeId} {size m : Nat} {v : Value} {xs : List Value} {te : TypeId} {vx : Value} {nx : Nat} {xx : List Value} (h : w.ownsRow base e size v m xs) (hb : Below w.heap.size w w2) (hx : w2.ownsRow w.heap.size te 1 vx nx xx) : OX base w2 e size v m xs te vx nx xx := by
  refine ⟨own_stay h hb, own_down hx (Nat.zero_le _), ?_⟩
  cases hv : vx.ownBlock with
  | none => exact .inl rfl
  | some g =>
    refine .inr fun e => ?_
    have h1 := (own_ge hx hv).1
    have h2 := (own_ge h e.symm).2
    omega

end Go.Proofs.YtmgieahachphmabDoor.cap
