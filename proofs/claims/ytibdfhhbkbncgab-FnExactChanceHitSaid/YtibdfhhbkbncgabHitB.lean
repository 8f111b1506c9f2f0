/-
  What stays while the program counts random texts.
-/
import Derived.RangeFuncFrom
import Derived.Test.YtibdfhhbkbncgabEach
import Derived.Test.YtibdfhhbkbncgabFreeM
import Derived.Test.YtibdfhhbkbncgabFrD
namespace Go.Proofs.Ytibdfhhbkbncgab
open Go.RowKit Go.Shelf
set_option linter.unusedVariables false
set_option linter.unusedSimpArgs false

/-- the boxes of a function on a trie and two numbers, and its result -/
structure Hb (s : Nat) (a : Option Addr) (n c : Nat) (k0 n0 : Int) (W : World) : Prop where
  box : W.cell? ⟨s, 0, none⟩ = some (.slice a n c)
  kb : W.cell? ⟨s + 1, 0, none⟩ = some (.int .i64 k0)
  nb : W.cell? ⟨s + 1 + 1, 0, none⟩ = some (.int .i64 n0)
  res : W.heap[s + 1 + 1 + 1]? = some (.cells #[.int .i64 0, .int .i64 0] 26)
  lt : s + 1 + 1 + 1 < W.heap.size
theorem Hb.on {s : Nat} {a : Option Addr} {n c : Nat} {k0 n0 : Int} {W W' : World} (h : Hb s a n c k0 n0 W) (k : Below W.heap.size W W') : Hb s a n c k0 n0 W' := by
  have := h.lt
  exact ⟨(k.cell (p := ⟨s, 0, none⟩) (show s < _ by omega)).trans h.box, (k.cell (p := ⟨s + 1, 0, none⟩) (show s + 1 < _ by omega)).trans h.kb, (k.cell (p := ⟨s + 1 + 1, 0, none⟩) (show s + 1 + 1 < _ by omega)).trans h.nb, (k.block _ h.lt).trans h.res, Nat.lt_of_lt_of_le h.lt k.size⟩
theorem Hb.on2 {s : Nat} {a : Option Addr} {n c : Nat} {k0 n0 : Int} {W W' : World} (h : Hb s a n c k0 n0 W) (k : Below (s + 1 + 1 + 1 + 1) W W') : Hb s a n c k0 n0 W' :=
  ⟨(k.cell (p := ⟨s, 0, none⟩) (show s < _ by omega)).trans h.box, (k.cell (p := ⟨s + 1, 0, none⟩) (show s + 1 < _ by omega)).trans h.kb, (k.cell (p := ⟨s + 1 + 1, 0, none⟩) (show s + 1 + 1 < _ by omega)).trans h.nb, (k.block _ (by omega)).trans h.res, Nat.lt_of_lt_of_le h.lt k.size⟩
theorem Hb.own {β : Type} {s : Nat} {a : Option Addr} {n c : Nat} {k0 n0 : Int} : Own (fun (_ : β) W => Hb s a n c k0 n0 W) := fun _ A B row hs hg hr => ⟨cell_kept hs.box hg hr, cell_kept hs.kb hg hr, cell_kept hs.nb hg hr, (grownBy_keeps_cells hg hr hs.res rfl).trans hs.res, Nat.lt_of_lt_of_le hs.lt hg.size⟩
theorem Hb.start (w : World) (a : Option Addr) (n c : Nat) (k0 n0 : Int) : Hb w.heap.size a n c k0 n0 ((((w.alloc (.cells #[.slice a n c] 31)).alloc (.cells #[.int .i64 k0] 3)).alloc (.cells #[.int .i64 n0] 3)).alloc (.cells #[.int .i64 0, .int .i64 0] 26)) := by
  have q0 := cellNew w (.slice a n c) 31
  have q1 := cellNew (w.alloc (.cells #[.slice a n c] 31)) (.int .i64 k0) 3
  have q2 := cellNew ((w.alloc (.cells #[.slice a n c] 31)).alloc (.cells #[.int .i64 k0] 3)) (.int .i64 n0) 3
  simp only [World.size_alloc] at q1 q2
  refine ⟨cellOld _ (cellOld _ (cellOld _ q0.1)), cellOld _ (cellOld _ q1.1), cellOld _ q2.1, ?_, by simp⟩
  have := heap_alloc_new (((w.alloc (.cells #[.slice a n c] 31)).alloc (.cells #[.int .i64 k0] 3)).alloc (.cells #[.int .i64 n0] 3)) (.cells #[.int .i64 0, .int .i64 0] 26)
  simpa using this
theorem start_below (w : World) (a : Option Addr) (n c : Nat) (k0 n0 : Int) : Below w.heap.size w ((((w.alloc (.cells #[.slice a n c] 31)).alloc (.cells #[.int .i64 k0] 3)).alloc (.cells #[.int .i64 n0] 3)).alloc (.cells #[.int .i64 0, .int .i64 0] 26)) :=
  ((((Below.refl _ w).alloc (Nat.le_refl _) _).alloc (by simp) _).alloc (by simp; omega) _).alloc (by simp; omega) _

/-- a fraction that the body of a range writes -/
def FrAt (E : Nat) (W : World) (p : Nat × Nat) : Prop := W.heap[E]? = some (.cells #[.int .i64 (p.1 : Int), .int .i64 (p.2 : Int)] 56)
theorem FrAt.own {β : Type} (E : Nat) (f : β → Nat × Nat) : Own (fun (s : β) W => FrAt E W (f s)) := fun _ A B row hs hg hr => (grownBy_keeps_cells hg hr hs rfl).trans hs

set_option maxRecDepth 1000000 in
set_option maxHeartbeats 1000000 in
theorem isRandom_any (k0 n0 : Int) (w : World) : Calls Try.prog 45 #[.int .i64 k0, .int .i64 n0] w fun e w' => e = .returned (.bool (decide (1 ≤ k0 ∧ k0 ≤ 26 ∧ 0 ≤ n0 ∧ n0 ≤ 12))) ∧ w' = w := by
  by_cases h1 : 1 ≤ k0
  · have d1 : decide (1 ≤ k0) = true := decide_eq_true h1
    by_cases h2 : k0 ≤ 26
    · have d2 : decide (k0 ≤ 26) = true := decide_eq_true h2
      by_cases h3 : 0 ≤ n0
      · have d3 : decide (0 ≤ n0) = true := decide_eq_true h3
        go_enter Try.func45, Try.ntmps45
        go_wp2
        go_ret
        exact ⟨ret_bool (by simp [h1, h2, h3]), rfl⟩
      · have d3 : decide (0 ≤ n0) = false := decide_eq_false h3
        go_enter Try.func45, Try.ntmps45
        go_wp2
        go_ret
        exact ⟨ret_bool (by simp [h1, h2, h3]), rfl⟩
    · have d2 : decide (k0 ≤ 26) = false := decide_eq_false h2
      go_enter Try.func45, Try.ntmps45
      go_wp2
      go_ret
      exact ⟨ret_bool (by simp [h1, h2]), rfl⟩
  · have d1 : decide (1 ≤ k0) = false := decide_eq_false h1
    go_enter Try.func45, Try.ntmps45
    go_wp2
    go_ret
    exact ⟨ret_bool (by simp [h1]), rfl⟩

end Go.Proofs.Ytibdfhhbkbncgab
