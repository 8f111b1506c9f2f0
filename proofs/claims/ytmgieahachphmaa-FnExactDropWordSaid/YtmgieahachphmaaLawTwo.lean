/-
  What stays in the laws on functions that return a trie.
-/
import Derived.Test.YtmgieahachphmaaMarkN
import Derived.Test.YtmgieahachphmaaOwnTrie
import Derived.Test.YtmgieahachphmaaLawNds
namespace Go.Proofs.Ytmgieahachphmaa
open Go.RowKit
set_option linter.unusedVariables false

structure Two (B0 : Nat) (w0 W : World) (b4 b7 B3 base7 n : Nat) (a3 : Option Addr) (c3 : Nat) (tt : List Nd) (a7 : Option Addr) (c7 : Nat) (uu : List Nd) : Prop where
  bel : Below B0 w0 W
  box4 : Boxed W b4 30 (.slice a3 n c3)
  ref : Nds B3 W a3 n c3 tt
  box7 : Boxed W b7 30 (.slice a7 n c7)
  own : W.ownsRow base7 74 3 (.slice a7 n c7) n (ndc uu)
  s0 : B0 ≤ w0.heap.size
  s3 : B3 ≤ b4
  s4 : b4 < base7
  s7 : base7 ≤ b7
  s1 : B0 ≤ B3

section
variable {B0 b4 b7 B3 base7 n c3 c7 : Nat} {w0 W W' : World} {a3 a7 : Option Addr} {tt uu : List Nd}

theorem Two.keep (h : Two B0 w0 W b4 b7 B3 base7 n a3 c3 tt a7 c7 uu) (hb : Below W.heap.size W W') : Two B0 w0 W' b4 b7 B3 base7 n a3 c3 tt a7 c7 uu := by
  have h4 := h.box4.lt
  have h7 := h.box7.lt
  have h1 := h.s3
  have h2 := h.s1
  exact ⟨h.bel.trans (hb.mono (by omega)), box_stay h.box4 hb, h.ref.keep (hb.mono (by omega)), box_stay h.box7 hb, own_stay h.own hb, h.s0, h.s3, h.s4, h.s7, h.s1⟩

/-- the program's answer is marked -/
theorem Two.mark {vv : List Nd} (h : Two B0 w0 W b4 b7 B3 base7 n a3 c3 tt a7 c7 uu) (hg : W.grownBy W' (Value.ownBlock (.slice a7 n c7))) (ho : W'.ownsRow base7 74 3 (.slice a7 n c7) n (ndc vv)) : Two B0 w0 W' b4 b7 B3 base7 n a3 c3 tt a7 c7 vv := by
  have h4 := h.box4.lt
  have h1 := h.s3
  have h2 := h.s1
  have h3 := h.s4
  have hb : Below B3 W W' := (Below.refl _ _).grown hg (by omega) fun k hk => by
    have := (h.own.lt k hk).1
    omega
  exact ⟨h.bel.trans (hb.mono (by omega)), h.box4.kept hg (h.box4.not_row (by decide) h.own), h.ref.keep hb, h.box7.kept hg (h.box7.not_row (by decide) h.own), ho, h.s0, h.s3, h.s4, h.s7, h.s1⟩

/-- an argument is marked -/
theorem Two.arg {gx : Nat} (h : Two B0 w0 W b4 b7 B3 base7 n a3 c3 tt a7 c7 uu) (hg : W.grownBy W' (some gx)) (h1 : B3 ≤ gx) (h2 : gx ≠ b4) (h3 : gx < base7) : Two B0 w0 W' b4 b7 B3 base7 n a3 c3 tt a7 c7 uu := by
  have h4 := h.box4.lt
  have h5 := h.s3
  have h6 := h.s1
  have h7 := h.s7
  have hb : Below B3 W W' := (Below.refl _ _).grown hg (by omega) fun k hk => by cases hk; exact h1
  refine ⟨h.bel.trans (hb.mono (by omega)), h.box4.kept hg (fun e => h2 (by cases e; rfl)), h.ref.keep hb, h.box7.kept hg (fun e => by cases e; omega), h.own.kept hg ?_, h.s0, h.s3, h.s4, h.s7, h.s1⟩
  refine .inr fun e => ?_
  have := (h.own.lt gx e).1
  omega

theorem Two.see (h : Two B0 w0 W b4 b7 B3 base7 n a3 c3 tt a7 c7 uu) : W.cell? ⟨b4, 0, none⟩ = some (.slice a3 n c3) ∧ W.cell? ⟨b7, 0, none⟩ = some (.slice a7 n c7) := ⟨h.box4.cell, h.box7.cell⟩

theorem Two.read (h : Two B0 w0 W b4 b7 B3 base7 n a3 c3 tt a7 c7 uu) : Nds W.heap.size W a3 n c3 tt := h.ref.mono (by have := h.box4.lt; have := h.s3; omega)

end

/-- both are the same -/
theorem eq_trie (a1 a2 : Option Addr) (n c d : Nat) (t : List Nd) (w : World) (h1 : Nds w.heap.size w a1 n c t) (h2 : Nds w.heap.size w a2 n d t) :
    Calls Try.prog 17 #[.agg #[.slice a1 n c], .agg #[.slice a2 n d]] w fun e w' => e = .returned (.bool true) ∧ Below w.heap.size w w' :=
  eqTrie_any w.heap.size a1 a2 n c n d t t w (Nat.le_refl _) h1 h2 true (by simp)

end Go.Proofs.Ytmgieahachphmaa
