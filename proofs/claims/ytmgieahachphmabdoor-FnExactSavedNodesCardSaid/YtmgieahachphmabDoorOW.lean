/-
  A row that grows beside the reference's row of words: both are there, and they are different blocks.
-/
import Derived.Test.YtmgieahachphmabDoorGvT
import Derived.Test.YtmgieahachphmabDoorWordsOwn
import Derived.Test.YtmgieahachphmabDoorGrew
namespace Go.Proofs.YtmgieahachphmabDoor
open Go.RowKit
set_option linter.unusedVariables false

/-- base: what is below is not the call's own -/
structure OW (base : Nat) (wr : World) (e : TypeId) (size : Nat) (v : Value) (m : Nat) (xs : List Value) (a : Option Addr) (n c : Nat) (ws : List Txt) : Prop where
  out : wr.ownsRow base e size v m xs
  row : wr.ownsRow base 9 1 (.slice a n c) n (ws.map (fun x => Value.string (bx x)))
  dis : (Value.slice a n c).ownBlock ≠ v.ownBlock

theorem OW.on {base : Nat} {w w' : World} {e : TypeId} {size m n c : Nat} {v : Value} {xs : List Value} {a : Option Addr} {ws : List Txt} (h : OW base w e size v m xs a n c ws) (hb : Below w.heap.size w w') : OW base w' e size v m xs a n c ws :=
  ⟨own_stay h.out hb, own_stay h.row hb, h.dis⟩

theorem OW.wds {base : Nat} {w : World} {e : TypeId} {size m n c : Nat} {v : Value} {xs : List Value} {a : Option Addr} {ws : List Txt} (h : OW base w e size v m xs a n c ws) (hs : ∀ x ∈ ws, x.length ≤ 12) : Wds w.heap.size w a n c ws := by
  obtain ⟨a', c', e', hW⟩ := own_wds h.row (fun x hx => by have := hs x hx; omega)
  injection e' with e1 _ e2
  rw [e1, e2]; exact hW

/-- an element more -/
theorem OW.app {base : Nat} {w w2 : World} {o : Obj} {e : TypeId} {size m m2 n c : Nat} {v v2 : Value} {xs xs2 : List Value} {a : Option Addr} {ws : List Txt} (h : OW base w e size v m xs a n c ws)
    (hO : w2.ownsRow base e size v2 m2 xs2) (hG : (w.alloc o).grownBy w2 v.ownBlock) (hat : v2.ownBlock = v.ownBlock ∨ v2.ownBlock = some (w.alloc o).heap.size) : OW base w2 e size v2 m2 xs2 a n c ws :=
  ⟨hO, (h.row.alloc o).kept hG (.inr h.dis), by
    rcases hat with h1 | h1
    · rw [h1]; exact h.dis
    · intro e
      have h2 := (own_ge h.row (e.trans h1)).2
      simp at h2
      omega⟩

theorem OW.below {base : Nat} {w w2 : World} {o : Obj} {e : TypeId} {size m n c : Nat} {v : Value} {xs : List Value} {a : Option Addr} {ws : List Txt} (h : OW base w e size v m xs a n c ws) (hb : base ≤ w.heap.size)
    (hG : (w.alloc o).grownBy w2 v.ownBlock) : Below base w w2 :=
  ((Below.refl _ w).alloc hb _).trans (below_grown (h.out.alloc o) (Nat.le_refl _) (by simp; omega) hG)

/-- at the start: an empty row, then the words -/
theorem OW.start {base : Nat} {w w2 : World} {e : TypeId} {size n c g : Nat} {a : Option Addr} {ws : List Txt} (hO : w.ownsRow base e size (.slice (some ⟨g, 0, none⟩) 0 0) 0 []) (hg : g < w.heap.size) (hb : Below w.heap.size w w2) (hbase : base ≤ w.heap.size)
    (hW : w2.ownsRow w.heap.size 9 1 (.slice a n c) n (ws.map (fun x => Value.string (bx x)))) : OW base w2 e size (.slice (some ⟨g, 0, none⟩) 0 0) 0 [] a n c ws :=
  ⟨own_stay hO hb, own_down hW hbase, by
    intro e
    have h1 : (Value.slice a n c).ownBlock = some g := by rw [e]; rfl
    have := (own_ge hW h1).1
    omega⟩

/-- the reference's words of a valid trie, a row of the call's own -/
theorem specWords_own (B : Nat) (a : Option Addr) (n c : Nat) (t : List Nd) (w : World) (hB : B ≤ w.heap.size) (h : Nds B w a n c t) (hn : n ≤ 1048576) (ht : IsT t) :
    Calls Tryd.prog 63 #[.agg #[.slice a n c]] w fun e w' => ∃ a' c', e = .returned (.slice a' (wordsOf t).length c') ∧ w'.ownsRow w.heap.size 9 1 (.slice a' (wordsOf t).length c') (wordsOf t).length ((wordsOf t).map (fun x => Value.string (bx x))) ∧ Below w.heap.size w w' := by
  obtain ⟨ps, hv⟩ := ht
  refine (l2Words_own B a n c t w hB h hn).mono ?_
  rintro e w' ⟨v, rs, rfl, hO, hraw, hb⟩
  have e1 := hraw ps hv
  rw [← wordsOf_eq hv] at e1
  subst e1
  obtain ⟨a', c', rfl⟩ := own_slice hO
  exact ⟨a', c', rfl, hO, hb⟩

end Go.Proofs.YtmgieahachphmabDoor
