/-
  What stays while the program gathers letters and looks at nodes.
-/
import Derived.Test.YtfehfjnmkaifbabBx11
import Derived.Test.YtfehfjnmkaifbabGrew
import Derived.Maps.AppendAt
namespace Go.Proofs.Ytfehfjnmkaifbab
open Go.RowKit Go.MapKept
set_option linter.unusedVariables false

theorem conv_u8s {base : Nat} {w : World} {v : Value} {tt : List UInt8} (h : w.ownsRow base 5 1 v tt.length (u8s tt)) : (convert 76 9 v).run Try.prog w = .ok (.string (bx tt)) w := by
  obtain ⟨a, c, rfl⟩ := own_slice h
  rcases h.2 with ⟨e, h0⟩ | ⟨g, cap, cur, e, h2⟩
  · have e2 : tt = [] := by
      injection e with _ e3 _
      exact List.eq_nil_of_length_eq_zero e3
    subst e2
    rw [e]
    exact run_convert_bytes_nil w 76 5 Try.underlying76 Try.underlying5 0 0 _ Try.underlying9
  · have h' := h
    rw [e] at h' ⊢
    exact run_convert_bytes_back w 76 9 5 ⟨g, 0, none⟩ cap tt Try.underlying76 Try.underlying5 Try.underlying9 (fun j hj => by
      have hadd : (Addr.add ⟨g, 0, none⟩ j) = ⟨g, j, none⟩ := by cases j <;> simp [Addr.add]
      rw [hadd, h'.cellAt j (by omega)]
      simp [u8s, hj])

/-- while letters are gathered: w6 is the world ahead of the loop, z its size, r0 the first row's block -/
structure WL (W w6 : World) (s z b r0 n : Nat) (f : Nat → Pro) (w : World) (v : Value) (K : Nat → Bool) (y : Txt) : Prop where
  fr : ∀ i, i < z → i ≠ b → i ≠ r0 → w.heap[i]? = w6.heap[i]?
  kn : KnowIs w b n f K
  own : w.ownsRow (s + 1) 5 1 v y.length (u8s y)
  free : ∀ q, v.ownBlock = some q → q = r0 ∨ z ≤ q
  sz : z ≤ w.heap.size
  bel : Below s W w
  ord : (s < r0 ∧ r0 < z) ∧ (s < b ∧ b < z) ∧ r0 ≠ b

theorem WL.look {W w6 : World} {s z b r0 n : Nat} {f : Nat → Pro} {w w' : World} {v : Value} {K K' : Nat → Bool} {y : Txt} (h : WL W w6 s z b r0 n f w v K y) (hg : w.grownBy w' (some b)) (hk : KnowIs w' b n f K') : WL W w6 s z b r0 n f w' v K' y := by
  obtain ⟨⟨h1, h2⟩, ⟨h3, h4⟩, h5⟩ := h.ord
  have hz := h.sz
  refine ⟨fun i hi hb hr => (hg.block i (by omega) (by simpa using hb)).trans (h.fr i hi hb hr), hk, h.own.kept hg ?_, h.free, Nat.le_trans hz hg.size, h.bel.grown hg (by omega) (fun q e => by injection e with e; omega), h.ord⟩
  cases hv : v.ownBlock with
  | none => simp
  | some q =>
    have := h.free q hv
    simp
    omega

theorem WL.below {W w6 : World} {s z b r0 n : Nat} {f : Nat → Pro} {w w' : World} {v : Value} {K : Nat → Bool} {y : Txt} (h : WL W w6 s z b r0 n f w v K y) (hb : Below w.heap.size w w') : WL W w6 s z b r0 n f w' v K y :=
  h.look (grown_bel (grown_self _ _) hb) (h.kn.kept (hb.block _ h.kn.lt))

theorem WL.app {W w6 : World} {s z b r0 n : Nat} {f : Nat → Pro} {w w2 : World} {v v2 : Value} {K : Nat → Bool} {y : Txt} {o : Obj} {c : UInt8} (h : WL W w6 s z b r0 n f w v K y) (hown : w2.ownsRow (s + 1) 5 1 v2 (y.length + 1) (u8s y ++ [.int .u8 (c.toNat : Int)])) (hg : (w.alloc o).grownBy w2 v.ownBlock) (hat : v2.ownBlock = v.ownBlock ∨ v2.ownBlock = some (w.alloc o).heap.size) : WL W w6 s z b r0 n f w2 v2 K (y ++ [c]) := by
  obtain ⟨⟨h1, h2⟩, ⟨h3, h4⟩, h5⟩ := h.ord
  have hz := h.sz
  have hz2 := hg.size
  rw [World.size_alloc] at hz2
  have hnb : some b ≠ v.ownBlock := fun e => by have := h.free b e.symm; omega
  refine ⟨fun i hi hb hr => (hg.block i (by rw [World.size_alloc]; omega) (fun e => by have := h.free i e.symm; omega)).trans ((Below.heap_alloc _ _ _ (by omega)).trans (h.fr i hi hb hr)), h.kn.kept ((hg.block b (by rw [World.size_alloc]; omega) hnb).trans (Below.heap_alloc _ _ _ (by omega))), ?_, fun q hq => ?_, by omega, ?_, h.ord⟩
  · rw [u8s_app, List.length_append]
    exact hown
  · rcases hat with e | e
    · rw [e] at hq; exact h.free q hq
    · rw [e] at hq
      have := Option.some.inj hq
      rw [World.size_alloc] at this
      omega
  · exact (h.bel.alloc (by omega) o).grown hg (by rw [World.size_alloc]; omega) (fun q e => by have := (own_ge h.own e).1; omega)

end Go.Proofs.Ytfehfjnmkaifbab
