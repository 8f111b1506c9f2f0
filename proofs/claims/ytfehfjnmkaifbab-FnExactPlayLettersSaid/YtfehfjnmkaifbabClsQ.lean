/-
  A region that draws its order, whose operations only read and whose callees leave a world of some class: one walk in the order of the text.
-/
import Derived.BigQuiet
import Derived.IntWalk
import Derived.Test.YtfehfjnmkaifbabOwn
namespace Go.Proofs.Ytfehfjnmkaifbab
open Go.RowKit
set_option linter.unusedVariables false

/-- a world of the class -/
structure Cls (S : World → Prop) where
  w : World
  h : S w

theorem wp_region_cls {P : Program} {id : Nat} {Q : Exit → Act → World → Prop} {a : Act} {w : World} {l : List Oper} (S : World → Prop) (hm : P.follows .mixedOrders = true) (hB : Region.lexB .any l.toArray = true) (hS : S w.drew)
    (h : wpQuiet P l.toArray (fun w' => ∃ m : Cls S, w' = m.w) (fun a' => ∀ w', (∃ m : Cls S, w' = m.w) → Q .normal a' w') l a) : (Code.region id l.toArray true).wp P Q a w :=
  wp_region_quiet (C := fun w' => ∃ m : Cls S, w' = m.w) hm hB ⟨⟨_, hS⟩, rfl⟩ (by simpa using h)

theorem cls_of {P : Program} {f : FuncId} {args : Array Value} {S : World → Prop} {m : Cls S} {v : Value}
    (h : Calls P f args m.w fun e w' => e = .returned v ∧ S w') : Calls P f args m.w fun e w'' => e = .returned v ∧ ∃ m' : Cls S, w'' = m'.w :=
  h.mono fun _ _ ⟨he, hm⟩ => ⟨he, ⟨_, hm⟩, rfl⟩

end Go.Proofs.Ytfehfjnmkaifbab
