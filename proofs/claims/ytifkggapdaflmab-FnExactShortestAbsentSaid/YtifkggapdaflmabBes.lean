/-
  A slice of texts that is read beside a row that grows: they are different blocks.
-/
import Derived.Test.YtifkggapdaflmabPutW
import Derived.Deep.LoopGhost
import Derived.Maps.AppendAt
import Derived.Laws.OwnMore
namespace Go.Proofs.Ytifkggapdaflmab
open Go.RowKit
set_option linter.unusedVariables false

/-- the texts lie in a block below B that is not block g -/
structure Bes (B : Nat) (w : World) (a : Option Addr) (n c : Nat) (xs : List Txt) (g : Nat) : Prop where
  wds : Wds B w a n c xs
  far : ∀ x : Addr, a = some x → xs ≠ [] → x.block ≠ g

theorem Bes.on {B : Nat} {w w' : World} {a : Option Addr} {n c g : Nat} {xs : List Txt} (h : Bes B w a n c xs g) (hB : B ≤ w.heap.size) (hb : Below w.heap.size w w') : Bes B w' a n c xs g :=
  ⟨h.wds.keep (hb.mono hB), h.far⟩

theorem Bes.app {B : Nat} {w w2 : World} {o : Obj} {a : Option Addr} {n c g g' : Nat} {xs : List Txt} (h : Bes B w a n c xs g) (hB : B ≤ w.heap.size) (hG : (w.alloc o).grownBy w2 (some g)) (hat : g' = g ∨ B ≤ g') : Bes B w2 a n c xs g' := by
  refine ⟨⟨⟨h.wds.sl.len, h.wds.sl.cap, h.wds.sl.top, fun i u hu => ?_⟩, h.wds.each⟩, fun x hx hn => ?_⟩
  · obtain ⟨b, o', ha, hb, hc⟩ := h.wds.sl.spot i u hu
    have hne : b ≠ g := h.far _ ha (by
      rintro rfl
      simp at hu)
    refine ⟨b, o', ha, hb, ?_⟩
    have h1 : w2.heap[b]? = w.heap[b]? := (hG.block b (by simp; omega) (fun e => by injection e with e; exact hne e)).trans (Below.heap_alloc _ _ _ (by omega))
    exact (World.cell?_of_block (a := ⟨b, o' + i, none⟩) h1).trans hc
  · rcases hat with e | e
    · rw [e]; exact h.far x hx hn
    · obtain ⟨y, r, rfl⟩ := List.exists_cons_of_ne_nil hn
      obtain ⟨b, o', ha, hb, hc⟩ := h.wds.sl.spot 0 (.string (bx y)) rfl
      rw [hx] at ha
      injection ha with ha
      subst ha
      simp only
      omega

end Go.Proofs.Ytifkggapdaflmab
