/-
  The laws' comparisons and marks on lists of numbers that a call owns.
-/
import Derived.Test.YthjafoacnfgjhabIntS0
namespace Go.Proofs.Ythjafoacnfgjhab.ownI
open Go.RowKit
set_option linter.unusedVariables false

/-- a row that a call owns is there with an address of its own, empty or not, or it is nil -/
theorem own_cases {base : Nat} {w : World} {e : TypeId} {size n : Nat} {v : Value} {xs : List Value} (h : w.ownsRow base e size v n xs) : (∃ g c, v = .slice (some ⟨g, 0, none⟩) n c) ∨ (v = .slice none 0 0 ∧ n = 0) := by
  rcases h.2 with ⟨rfl, rfl⟩ | ⟨g, cap, cur, rfl, _⟩
  · exact .inr ⟨rfl, rfl⟩
  · exact .inl ⟨g, cap, rfl⟩

/-- marks on a row that a call owns, nil or not -/
theorem mark_own (base m c : Nat) (a : Option Addr) (l : List Nat) (w : World) (h : w.ownsRow base 3 1 (.slice a m c) m (nums l)) (hbase : base ≤ w.heap.size) (hm : m ≤ 1000) :
    Calls Try.prog 18 #[.slice a m c, .int .i64 ((1 : Nat) : Int)] w fun e w' => e = .returned (.int .i64 ((1 + m : Nat) : Int)) ∧ Sl w'.heap.size w' a m c (nums (mnums 1 m)) ∧ Below base w w' := by
  rcases own_cases h with ⟨g, c', e⟩ | ⟨e, rfl⟩
  · injection e with e1 _ e2
    subst e1 e2
    refine (markIntS_some base g m c 1 l w h hbase (by omega) (by omega)).mono ?_
    rintro e w' ⟨rfl, ho, hb⟩
    exact ⟨rfl, Sl.of_own ho, hb⟩
  · injection e with e1 e2 e3
    subst e1 e3
    clear h
    go_enter Try.func18, Try.ntmps18
    go_wp2
    go_loop [1, 5] (fun q i => q = .int .i64 1 ∧ i = .int .i64 0) (fun _ _ => 0)
    case atStart => exact ⟨rfl, rfl⟩
    case round =>
      obtain ⟨rfl, rfl⟩ := hrel
      go_wp2
      go_ret
      exact ⟨rfl, ⟨rfl, Nat.le_refl _, by omega, fun i u hu => by simp [nums, mnums] at hu⟩, Below.refl _ _⟩

/-- an empty list, newly made -/
theorem own_lit0 {W w : World} (hb : W.heap.size ≤ w.heap.size) : (w.alloc (.cells #[] 3)).ownsRow W.heap.size 3 1 (.slice (some ⟨w.heap.size, 0, none⟩) 0 0) 0 [] :=
  World.ownsRow_lit w #[] 0 hb (by unfold maxLen; omega) rfl

/-- an answer of numbers that the call owns -/
def OwnNums (w : World) (l : List Nat) (ok : Bool) (e : Ending) (w' : World) : Prop :=
  ∃ v, e = .returned (.tuple #[v, .bool ok]) ∧ w'.ownsRow w.heap.size 3 1 v l.length (nums l) ∧ Below w.heap.size w w'

end Go.Proofs.Ythjafoacnfgjhab.ownI
