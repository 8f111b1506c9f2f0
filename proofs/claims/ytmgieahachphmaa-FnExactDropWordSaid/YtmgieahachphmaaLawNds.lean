/-
  Nodes that a call owns, to be read; a box beside them.
-/
import Derived.Test.YtmgieahachphmaaOf
import Derived.Test.YtmgieahachphmaaGrew
import Derived.RangeFuncBox
namespace Go.Proofs.Ytmgieahachphmaa
open Go.RowKit
set_option linter.unusedVariables false

/-- a trie to be read, and whether there is one -/
def ReadRes (w : World) (t : List Nd) (ok : Bool) (e : Ending) (w' : World) : Prop :=
  ∃ a' c', e = .returned (.tuple #[.agg #[.slice a' t.length c'], .bool ok]) ∧ Nds w'.heap.size w' a' t.length c' t ∧ Below w.heap.size w w'

theorem nds_own {base : Nat} {w : World} {n c : Nat} {a : Option Addr} {t : List Nd} (h : w.ownsRow base 74 3 (.slice a n c) n (ndc t)) (hx : Fits t) : Nds w.heap.size w a n c t := by
  obtain ⟨a', c', e, hN⟩ := own_nds h hx
  injection e with e1 _ e3
  rw [e1, e3]
  exact hN

/-- a store into a variable's box turns no node -/
theorem Nds.box {B b n c : Nat} {w : World} {a x : Option Addr} {y z : Nat} {t : List Nd} {T : TypeId} (h : Nds B w a n c t) (hb : Boxed w b T (.slice x y z)) (v' : Value) : Nds B (w.setCell ⟨b, 0, none⟩ v') a n c t :=
  ⟨h.len, h.cap, h.top, fun i d hd => by
    obtain ⟨b2, o, ha, hB, h1, h2, h3⟩ := h.spot i d hd
    have hne : b2 ≠ b := by
      rintro rfl
      have hh : w.heap[b2]? = some (.cells #[.slice x y z] T (0, 0)) := hb
      simp only [World.cell?, hh, Option.isSome_none, Bool.false_eq_true, if_false] at h1
      rcases Nat.eq_zero_or_pos (o + i * 3) with e | e
      · rw [e] at h1
        simp at h1
      · have hlt := (Array.getElem?_eq_some_iff.1 h1).1
        simp at hlt
        omega
    exact ⟨b2, o, ha, hB, (World.cell?_setCell_other _ _ _ _ (fun e => hne (congrArg Addr.block e).symm)).trans h1, (World.cell?_setCell_other _ _ _ _ (fun e => hne (congrArg Addr.block e).symm)).trans h2, (World.cell?_setCell_other _ _ _ _ (fun e => hne (congrArg Addr.block e).symm)).trans h3⟩, h.rng⟩

theorem nds_nil (B : Nat) (w : World) : Nds B w none 0 0 [] := ⟨rfl, Nat.le_refl _, by omega, fun i d h => by simp at h, fun d h => by cases h⟩

end Go.Proofs.Ytmgieahachphmaa
