/-
  Words that stand alone; what becomes of cells: for ranges over a function.
-/
import Derived.RangeFuncFrom
import Derived.Test.YtibdfhhbkbncgabEach
import Derived.Test.YtibdfhhbkbncgabKids
import Derived.Test.YtibdfhhbkbncgabIsTrie
namespace Go.Proofs.Ytibdfhhbkbncgab
open Go.RowKit Go.Shelf
set_option linter.unusedVariables false

attribute [local go_sem] Oper.semAt_some

theorem pls_mem {t : List Nd} {ps : List Txt} {i : Nat} {d : Nd} {x : Txt} (h : t[i]? = some d) (hx : ps[i]? = some x) (he : d.e = true) : ∀ k, i < k → (i, x) ∈ pls t ps k
  | 0, hk => by omega
  | k + 1, hk => by
    by_cases c : i = k
    · subst c
      rw [pls_hit h hx he]
      exact List.mem_append.2 (.inr (by simp))
    · have ih := pls_mem h hx he k (by omega)
      show _ ∈ pls t ps k ++ _
      exact List.mem_append.2 (.inl ih)

/-- no other node is under a word's -/
def Aln {t : List Nd} {ps : List Txt} (y : EW t ps) : Prop := ∀ (m : Nat) (z : Txt), ps[m]? = some z → y.x <+: z → m = y.i

theorem aln_iff {t : List Nd} {ps : List Txt} (h : Tells t t.length ps) (y : EW t ps) {b : Nat} (hb : Behind t ps y.i b) : decide (b = y.i + 1) = true ↔ Aln y := by
  rw [decide_eq_true_eq]
  constructor
  · rintro rfl m z hz hp
    have := (hb.iff h y.at' hz).1 hp
    omega
  · intro ha
    have h1 := hb.lt
    by_cases c : b = y.i + 1
    · exact c
    · exfalso
      have hle := hb.le
      obtain ⟨_, z, _, hz⟩ := h.at (show y.i + 1 < t.length by omega)
      have := ha _ _ hz ((hb.iff h y.at' hz).2 ⟨by omega, by omega⟩)
      omega

theorem keepsOthers_of_below {W W' : World} (h : Below W.heap.size W W') : KeepsOthers W W' := ⟨h.size, fun l o hl _ => (h.block l (Array.getElem?_eq_some_iff.1 hl).1).trans hl⟩

theorem cellNew (W : World) (v : Value) (t : TypeId) : (W.alloc (.cells #[v] t)).cell? ⟨W.heap.size, 0, none⟩ = some v ∧ (W.alloc (.cells #[v] t)).frozen? ⟨W.heap.size, 0, none⟩ = false := ⟨World.cell?_alloc_new W _ t 0, World.frozen?_alloc_new W _ t 0⟩
theorem cellOld {W : World} {a : Addr} {v : Value} (o : Obj) (h : W.cell? a = some v) : (W.alloc o).cell? a = some v := cell_kept h (World.grownBy_alloc W o none) (fun r e => by cases e)
theorem frozenOld {W : World} {a : Addr} {v : Value} (o : Obj) (h : W.cell? a = some v) (hf : W.frozen? a = false) : (W.alloc o).frozen? a = false := (frozen_kept h (World.grownBy_alloc W o none) (fun r e => by cases e)).trans hf

theorem twoCells {W : World} {s : Nat} {u1 u2 : Value} (h1 : W.cell? ⟨s + 1, 0, none⟩ = some u1) (h2 : W.cell? ⟨s + 1 + 1, 0, none⟩ = some u2) (b1 b2 : Bool) :
    ((W.setCell ⟨s + 1, 0, none⟩ (.bool b1)).setCell ⟨s + 1 + 1, 0, none⟩ (.bool b2)).cell? ⟨s + 1, 0, none⟩ = some (.bool b1) ∧ ((W.setCell ⟨s + 1, 0, none⟩ (.bool b1)).setCell ⟨s + 1 + 1, 0, none⟩ (.bool b2)).cell? ⟨s + 1 + 1, 0, none⟩ = some (.bool b2) := by
  constructor
  · rw [World.cell?_setCell_far _ _ _ _ (by simp)]
    exact World.cell?_setCell_same' _ _ _ (by rw [h1]; rfl)
  · exact World.cell?_setCell_same' _ _ _ (by rw [World.cell?_setCell_far _ _ _ _ (by simp), h2]; rfl)

end Go.Proofs.Ytibdfhhbkbncgab
