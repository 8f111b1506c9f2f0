/-
  The laws' comparisons and marks on lists of pairs that a call owns.
-/
import Derived.Test.YtpneflbnipefaabPairS
namespace Go.Proofs.Ytpneflbnipefaab.ownP
open Go.RowKit
set_option linter.unusedVariables false

/-- marks on a row that a call owns, nil or not -/
theorem mark_own (base m c : Nat) (a : Option Addr) (l : List Nat) (w : World) (h : w.ownsRow base 63 2 (.slice a m c) m (nums l)) (hbase : base ≤ w.heap.size) (hm : m ≤ 10000) :
    Calls Try.prog 23 #[.slice a m c, .int .i64 ((1 : Nat) : Int)] w fun e w' => e = .returned (.int .i64 ((1 + 2 * m : Nat) : Int)) ∧ FS w'.heap.size w' a m c (mnums 1 (2 * m)) ∧ Below base w w' := by
  rcases h.2 with ⟨e, rfl⟩ | ⟨g, cap, cur, e, _⟩
  · injection e with e1 e2 e3
    subst e1 e3
    clear h
    go_enter Try.func23, Try.ntmps23
    go_wp2
    go_loop [1, 5] (fun q i => q = .int .i64 1 ∧ i = .int .i64 0) (fun _ _ => 0)
    case atStart => exact ⟨rfl, rfl⟩
    case round =>
      obtain ⟨rfl, rfl⟩ := hrel
      go_wp2
      go_ret
      exact ⟨rfl, ⟨rfl, Nat.le_refl _, by omega, fun i u hu => by simp [mnums] at hu⟩, Below.refl _ _⟩
  · injection e with e1 _ e2
    subst e1 e2
    refine (markIntA2S_some base g m c 1 l w h hbase (by omega) (by omega)).mono ?_
    rintro e w' ⟨rfl, ho, hb⟩
    obtain ⟨a', c', e', hF⟩ := own_pairs ho (by omega)
    injection e' with e1 _ e2
    refine ⟨rfl, ?_, hb⟩
    rw [e1, e2]; exact hF

/-- an empty list, newly made -/
theorem own_lit0 {W w : World} (hb : W.heap.size ≤ w.heap.size) : (w.alloc (.cells #[] 63)).ownsRow W.heap.size 63 2 (.slice (some ⟨w.heap.size, 0, none⟩) 0 0) 0 [] :=
  World.ownsRow_lit w #[] 0 hb (by unfold maxLen; omega) rfl

/-- an answer of pairs that the call owns -/
def OwnPairs (w : World) (m : Nat) (l : List Nat) (ok : Bool) (e : Ending) (w' : World) : Prop :=
  ∃ v, e = .returned (.tuple #[v, .bool ok]) ∧ w'.ownsRow w.heap.size 63 2 v m (nums l) ∧ Below w.heap.size w w'

end Go.Proofs.Ytpneflbnipefaab.ownP
