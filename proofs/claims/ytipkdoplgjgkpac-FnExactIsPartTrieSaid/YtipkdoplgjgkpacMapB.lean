/-
  A set of texts: a map from texts to bools that the call made: what it holds, told by a list.
-/
import Derived.Maps.OwnIn
import Derived.Maps.Ext
import Derived.Test.YtipkdoplgjgkpacPut
namespace Go.Proofs.Ytipkdoplgjgkpac
open Go.RowKit Go.MapKept
set_option linter.unusedVariables false

theorem plainElem_bool_inv {H : Type} {P : Program} {e : TypeId} (he : P.underlying e = some .bool) {v : Value} {z : DataW H × List MemPlace} (h : plainElem P e v = some z) : ∃ x, v = .bool x ∧ z = (.lit (.bool x), []) := by
  unfold plainElem at h
  rw [he] at h
  cases v <;> simp at h
  exact ⟨_, rfl, h.symm⟩

/-- block b is a set of at most n texts that has just those of ws -/
def SetIs (W : World) (b n : Nat) (ws : List Txt) : Prop :=
  ∃ D : DataW Unit, W.ownsMap Try.prog 9 (plainElem Try.prog 4) b n D ∧ Maps.IsMap D ∧ ∀ x : Txt, x.length ≤ maxLen → D.atKey (.string x) (.lit (.bool false)) = .lit (.bool (decide (x ∈ ws)))

theorem SetIs.lt {W : World} {b n : Nat} {ws : List Txt} (h : SetIs W b n ws) : b < W.heap.size := by
  obtain ⟨D, hD, _⟩ := h
  exact hD.lt

theorem SetIs.kept {W W' : World} {b n : Nat} {ws : List Txt} (h : SetIs W b n ws) (hb : W'.heap[b]? = W.heap[b]?) : SetIs W' b n ws := by
  obtain ⟨D, ⟨es, clock, h1, h2, h3, h4⟩, h5⟩ := h
  exact ⟨D, ⟨es, clock, hb.trans h1, h2, h3, h4⟩, h5⟩

theorem SetIs.below {W W' : World} {B b n : Nat} {ws : List Txt} (h : SetIs W b n ws) (hb : Below B W W') (hB : b < B) : SetIs W' b n ws := h.kept (hb.block b hB)

theorem atKey_empty (l : Lit) (d : DataW Unit) : (DataW.map [] : DataW Unit).atKey l d = d := rfl

theorem SetIs.made (W : World) : SetIs (W.alloc (.map #[] 0)) W.heap.size 0 [] := by
  refine ⟨.map [], World.ownsMap_made W _ _ _, ⟨_, rfl⟩, fun x _ => ?_⟩
  rw [atKey_empty]
  simp

theorem SetIs.clear {W : World} {b n : Nat} {ws : List Txt} (h : SetIs W b n ws) :
    ∃ W', (∀ ty, (Builtin.clear_ #[56] ty #[.map (some b)]).run Try.prog W = .ok (.tuple #[]) W') ∧ SetIs W' b 0 [] ∧ W.grownBy W' (some b) := by
  obtain ⟨D, ⟨es, clock, h1, h2, h3, h4⟩, h5⟩ := h
  refine ⟨{ W with heap := W.heap.setIfInBounds b (.map #[] clock) }, ?_, ⟨.map [], ⟨#[], clock, (heap_set h1).1, ⟨by simp, stamped_empty clock, by simp⟩, Nat.le_refl _, rfl⟩, ⟨_, rfl⟩, fun x _ => ?_⟩, ⟨rfl, rfl, rfl, by simp, fun i _ hi => (heap_set h1).2 i (fun e => hi (by rw [e]))⟩⟩
  · intro ty
    simp [Builtin.clear_, run_underlying Try.underlying56, MapKept.run_getObj_map h1, MapKept.run_setObj_map _ h1, Result.andThen]
  · rw [atKey_empty]
    simp

theorem SetIs.update {W : World} {b n : Nat} {ws : List Txt} (h : SetIs W b n ws) (hn : n < maxLen) (x : Txt) (hx : x.length ≤ maxLen) :
    ∃ W', (Instr.mapUpdate 56 (.map (some b)) (.string (bx x)) (.bool true)).run Try.prog W = .ok () W' ∧ SetIs W' b (n + 1) (ws ++ [x]) ∧ W.grownBy W' (some b) := by
  obtain ⟨D, hD, hM, h5⟩ := h
  have hkey : keyOf Try.prog 9 (.string (bx x)) = some (.string x) := by
    have := WideMaps.keyOf_string_mk (P := Try.prog) Try.underlying9 (s := bx x) (by rw [bx_size]; exact hx)
    exact this
  obtain ⟨W', hr, hO, hg⟩ := hD.update (Maps.string_keyed Try.underlying9) Try.underlying56 hn hkey (plainElem_bool Try.underlying4 true)
  refine ⟨W', hr, ⟨_, hO, hM.put _ _, fun y hy => ?_⟩, hg⟩
  by_cases e : y = x
  · subst e
    rw [Maps.atKey_put_same hM (by simp [WideAt.IsKeyLit])]
    simp
  · rw [Maps.atKey_put_other (by intro h; cases h; exact e rfl), h5 y hy]
    simp [e]

theorem SetIs.look {W : World} {b n : Nat} {ws : List Txt} (h : SetIs W b n ws) (hz : (zeroValue 4).run Try.prog W = .ok (.bool false) W) (x : Txt) (hx : x.length ≤ maxLen) :
    (Instr.lookup 56 (.map (some b)) (.string (bx x)) false).run Try.prog W = .ok (.bool (decide (x ∈ ws))) W := by
  obtain ⟨D, hD, hM, h5⟩ := h
  have hkey : keyOf Try.prog 9 (.string (bx x)) = some (.string x) := by
    have := WideMaps.keyOf_string_mk (P := Try.prog) Try.underlying9 (s := bx x) (by rw [bx_size]; exact hx)
    exact this
  obtain ⟨v, ps, hr, hv⟩ := hD.lookup (Maps.string_keyed Try.underlying9) Try.underlying56 hz (plainElem_bool Try.underlying4 false) hkey
  obtain ⟨y, rfl, he⟩ := plainElem_bool_inv Try.underlying4 hv
  rw [h5 x hx] at he
  simp only [Prod.mk.injEq, DataW.lit.injEq, Lit.bool.injEq] at he
  rw [hr, ← he.1]

end Go.Proofs.Ytipkdoplgjgkpac
