/-
  What a search with a closure keeps: all but one cell and what the closure itself writes.
-/
import Derived.Test.YtipkdoplgjgkpacNearM
import Derived.Test.YtipkdoplgjgkpacDist
import Derived.Test.YtipkdoplgjgkpacKidsWalk
import Derived.Test.YtipkdoplgjgkpacGvT
import Derived.Test.YtipkdoplgjgkpacNumsL
namespace Go.Proofs.Ytipkdoplgjgkpac
open Go.RowKit
set_option linter.unusedVariables false

/-- E: the blocks that the closure writes; q4: the cell that the search writes -/
structure KX (B0 q4 : Nat) (E : World → Nat → Prop) (W W' : World) : Prop where
  bel : Below B0 W W'
  size : W.heap.size ≤ W'.heap.size
  same : ∀ b, b < W.heap.size → b ≠ q4 → ¬ E W b → W'.heap[b]? = W.heap[b]?
  ex : ∀ b, E W' b → E W b ∨ W.heap.size ≤ b

section
variable {B0 q4 : Nat} {E : World → Nat → Prop} {A B C W W' : World}

theorem KX.refl (W : World) : KX B0 q4 E W W := ⟨Below.refl _ _, Nat.le_refl _, fun _ _ _ _ => rfl, fun _ h => .inl h⟩
theorem KX.trans (h : KX B0 q4 E A B) (k : KX B0 q4 E B C) : KX B0 q4 E A C := by
  have h1 := h.size
  have h2 := k.size
  refine ⟨h.bel.trans k.bel, by omega, fun b hb hq hE => ?_, fun b hb => ?_⟩
  · refine (k.same b (by omega) hq (fun e => ?_)).trans (h.same b hb hq hE)
    rcases h.ex b e with e | e
    · exact hE e
    · omega
  · rcases k.ex b hb with e | e
    · exact h.ex b e
    · exact .inr (by omega)
theorem KX.of_below (hb : Below W.heap.size W W') (hB : B0 ≤ W.heap.size) (hE : ∀ b, E W' b → E W b) : KX B0 q4 E W W' :=
  ⟨hb.mono hB, hb.size, fun b h _ _ => hb.block b h, fun b h => .inl (hE b h)⟩
theorem KX.of_far (v : Value) (hB : B0 ≤ q4) (hE : ∀ b, E (W.setCell ⟨q4, 0, none⟩ v) b → E W b) : KX B0 q4 E W (W.setCell ⟨q4, 0, none⟩ v) :=
  ⟨(Below.refl _ _).setCell (p := ⟨q4, 0, none⟩) hB v, by rw [World.size_setCell]; exact Nat.le_refl _, fun b h hq _ => Below.heap_setCell _ _ _ _ hq, fun b h => .inl (hE b h)⟩

/-- a variable that stays -/
structure KB (q4 : Nat) (E : World → Nat → Prop) (W : World) (q : Nat) (v : Value) : Prop where
  cell : W.cell? ⟨q, 0, none⟩ = some v
  lt : q < W.heap.size
  no : ¬ E W q
  ne : q ≠ q4
theorem KB.on {q : Nat} {v : Value} (h : KB q4 E W q v) (k : KX B0 q4 E W W') : KB q4 E W' q v :=
  ⟨(World.cell?_of_block (a := ⟨q, 0, none⟩) (k.same q h.lt h.ne h.no)).trans h.cell, Nat.lt_of_lt_of_le h.lt k.size, fun e => by
    rcases k.ex q e with e | e
    · exact h.no e
    · have := h.lt; omega, h.ne⟩

/-- a row that stays -/
structure KR (q4 : Nat) (E : World → Nat → Prop) (W : World) (a : Option Addr) (n c : Nat) (xs : List Value) : Prop where
  sl : Sl W.heap.size W a n c xs
  no : n ≠ 0 → ∀ b o x, a = some ⟨b, o, x⟩ → b ≠ q4 ∧ ¬ E W b
theorem KR.on {a : Option Addr} {n c : Nat} {xs : List Value} (h : KR q4 E W a n c xs) (k : KX B0 q4 E W W') : KR q4 E W' a n c xs := by
  have hsz := k.size
  refine ⟨⟨h.sl.len, h.sl.cap, h.sl.top, fun i u hu => ?_⟩, fun hn b o x e => ?_⟩
  · obtain ⟨b, o, ha, hb, hc⟩ := h.sl.spot i u hu
    have hn : n ≠ 0 := by
      have h1 := (List.getElem?_eq_some_iff.1 hu).1
      have h2 := h.sl.len
      omega
    obtain ⟨n1, n2⟩ := h.no hn b o none ha
    exact ⟨b, o, ha, by omega, (World.cell?_of_block (a := ⟨b, o + i, none⟩) (k.same b hb n1 n2)).trans hc⟩
  · obtain ⟨n1, n2⟩ := h.no hn b o x e
    refine ⟨n1, fun hE => ?_⟩
    have h0 : 0 < xs.length := by have := h.sl.len; omega
    obtain ⟨b', o', ha, hb, _⟩ := h.sl.spot 0 xs[0] (List.getElem?_eq_getElem h0)
    rw [e] at ha
    cases ha
    rcases k.ex b hE with e | e
    · exact n2 e
    · omega
theorem KR.own {a : Option Addr} {n c : Nat} {xs : List Value} {ty : TypeId} {base : Nat} (h : W.ownsRow base ty 1 (.slice a n c) n xs) (hq : q4 < base) (hE : ∀ b, E W b → b < base) : KR q4 E W a n c xs :=
  ⟨Sl.of_own h, fun hn b o x e => by
    rcases h.2 with ⟨h', _⟩ | ⟨g', cap', cur, h', hb, _⟩
    · simp at h'
      rw [h'.1] at e
      cases e
    · simp at h'
      rw [h'.1] at e
      cases e
      exact ⟨by omega, fun hh => by have := hE b hh; omega⟩⟩

/-- what a closure's own state and blocks abide -/
structure Ops {σ : Type} (q4 : Nat) (J : σ → World → Prop) (E : World → Nat → Prop) : Prop where
  lt : ∀ s W b, J s W → E W b → b < W.heap.size
  below : ∀ s W W', J s W → Below W.heap.size W W' → J s W' ∧ ∀ b, E W' b → E W b
  far : ∀ s W v, J s W → J s (W.setCell ⟨q4, 0, none⟩ v) ∧ ∀ b, E (W.setCell ⟨q4, 0, none⟩ v) b → E W b
end

end Go.Proofs.Ytipkdoplgjgkpac
