/-
  A map from texts to numbers that the call made: each text has its place in a list.
-/
import Derived.Maps.OwnIn
import Derived.Maps.OwnSet
import Derived.Maps.Ext
import Derived.WalkArith
import Derived.Test.YtmgieahachphmabDoorPut
namespace Go.Proofs.YtmgieahachphmabDoor
open Go.RowKit Go.MapKept
set_option linter.unusedVariables false

/-- block b is a map of at most n texts that tells for just those of ks their places there -/
def NumIs (W : World) (b n : Nat) (ks : List Txt) : Prop :=
  ∃ D : DataW Unit, W.ownsMap Tryd.prog 9 (plainElem Tryd.prog 3) b n D ∧ Maps.IsMap D ∧ ∀ x : Txt, x.length ≤ maxLen → (x ∈ ks → ∀ z, D.atKey (.string x) z = .lit (.int .i64 ((ks.idxOf x : Nat) : Int))) ∧ (x ∉ ks → ∀ z, D.atKey (.string x) z = z)

theorem NumIs.lt {W : World} {b n : Nat} {ks : List Txt} (h : NumIs W b n ks) : b < W.heap.size := by
  obtain ⟨D, hD, _⟩ := h
  exact hD.lt

theorem NumIs.kept {W W' : World} {b n : Nat} {ks : List Txt} (h : NumIs W b n ks) (hb : W'.heap[b]? = W.heap[b]?) : NumIs W' b n ks := by
  obtain ⟨D, ⟨es, clock, h1, h2, h3, h4⟩, h5⟩ := h
  exact ⟨D, ⟨es, clock, hb.trans h1, h2, h3, h4⟩, h5⟩

theorem NumIs.below {W W' : World} {B b n : Nat} {ks : List Txt} (h : NumIs W b n ks) (hb : Below B W W') (hB : b < B) : NumIs W' b n ks := h.kept (hb.block b hB)

theorem NumIs.made (W : World) : NumIs (W.alloc (.map #[] 0)) W.heap.size 0 [] :=
  ⟨.map [], World.ownsMap_made W _ _ _, ⟨_, rfl⟩, fun x _ => ⟨fun h => (by cases h), fun _ z => rfl⟩⟩

theorem keyN (x : Txt) (hx : x.length ≤ maxLen) : keyOf Tryd.prog 9 (.string (bx x)) = some (.string x) := by
  have := WideMaps.keyOf_string_mk (P := Tryd.prog) Tryd.underlying9 (s := bx x) (by rw [bx_size]; exact hx)
  exact this

theorem NumIs.update {W : World} {b n : Nat} {ks : List Txt} (h : NumIs W b n ks) (hn : n < maxLen) (x : Txt) (hx : x.length ≤ maxLen) (hk : x ∉ ks) (hl : ks.length ≤ 100000) :
    ∃ W', (Instr.mapUpdate 102 (.map (some b)) (.string (bx x)) (.int .i64 ((ks.length : Nat) : Int))).run Tryd.prog W = .ok () W' ∧ NumIs W' b (n + 1) (ks ++ [x]) ∧ W.grownBy W' (some b) := by
  obtain ⟨D, hD, hM, h5⟩ := h
  have hwf : (Lit.int .i64 ((ks.length : Nat) : Int)).wf = true := WalkArith.wf_i64 (by omega)
  obtain ⟨W', hr, hO, hg⟩ := hD.update (Maps.string_keyed Tryd.underlying9) Tryd.underlying102 hn (keyN x hx) (plainElem_int Tryd.underlying3 hwf)
  refine ⟨W', hr, ⟨_, hO, hM.put _ _, fun y hy => ?_⟩, hg⟩
  by_cases e : y = x
  · subst e
    refine ⟨fun _ z => ?_, fun h => absurd (by simp) h⟩
    rw [Maps.atKey_put_same hM (by simp [WideAt.IsKeyLit])]
    rw [List.idxOf_append, if_neg hk]
    simp
  · have h6 : ∀ z, (D.put (.string x) (.lit (.int .i64 ((ks.length : Nat) : Int)))).atKey (.string y) z = D.atKey (.string y) z := fun z => Maps.atKey_put_other (by intro h; cases h; exact e rfl) _ z
    refine ⟨fun hm z => ?_, fun hm z => ?_⟩
    · have hm2 : y ∈ ks := by
        rw [List.mem_append, List.mem_singleton] at hm
        rcases hm with q | q
        · exact q
        · exact absurd q e
      rw [h6, (h5 y hy).1 hm2 z, List.idxOf_append, if_pos hm2]
    · rw [h6, (h5 y hy).2 (fun q => hm (by rw [List.mem_append]; exact .inl q)) z]

theorem NumIs.look {W : World} {b n : Nat} {ks : List Txt} (h : NumIs W b n ks) (hz : (zeroValue 3).run Tryd.prog W = .ok (.int .i64 0) W) (x : Txt) (hx : x.length ≤ maxLen) :
    (Instr.lookup 102 (.map (some b)) (.string (bx x)) true).run Tryd.prog W = .ok (.tuple #[.int .i64 (if x ∈ ks then ((ks.idxOf x : Nat) : Int) else 0), .bool (decide (x ∈ ks))]) W := by
  obtain ⟨D, hD, hM, h5⟩ := h
  have hw0 : (Lit.int .i64 0).wf = true := by decide
  obtain ⟨v, ps, hr, hv⟩ := hD.look_ok (Maps.string_keyed Tryd.underlying9) Tryd.underlying102 hz (plainElem_int Tryd.underlying3 hw0) (keyN x hx)
  obtain ⟨c, rfl, hc, _⟩ := plainElem_int_inv Tryd.underlying3 hv
  simp only [Prod.mk.injEq] at hc
  by_cases hm : x ∈ ks
  · have h6 := (h5 x hx).1 hm
    rw [h6] at hc
    have hc2 := hc.1
    simp only [DataW.lit.injEq, Lit.int.injEq, true_and] at hc2
    rw [Maps.has_true_of_atKey h6] at hr
    rw [hr, if_pos hm, decide_eq_true hm, hc2]
  · have h6 := (h5 x hx).2 hm
    rw [h6] at hc
    have hc2 := hc.1
    simp only [DataW.lit.injEq, Lit.int.injEq, true_and] at hc2
    rw [Maps.has_false_of_atKey h6] at hr
    rw [hr, if_neg hm, decide_eq_false hm, hc2]

end Go.Proofs.YtmgieahachphmabDoor
