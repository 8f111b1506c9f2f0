import Derived.RangeFuncFrom
import Derived.Test.YtibdfhhbkbncgabEach
import Derived.Test.YtibdfhhbkbncgabFreeM
import Derived.Test.YtibdfhhbkbncgabFrD
import Derived.Test.YtibdfhhbkbncgabMB
import Derived.Deep.RegionHeld3
import Derived.Test.YtibdfhhbkbncgabOwn
import Derived.Lib.OthersKept
import Derived.Test.YtibdfhhbkbncgabPut

/-
  What stays while the program counts random texts.
-/
namespace Go.Proofs.Ytibdfhhbkbncgab
open Go.RowKit Go.Shelf
set_option linter.unusedVariables false
set_option linter.unusedSimpArgs false

/-- the boxes of a function on a trie and two numbers, and its result -/
structure Hb (s : Nat) (a : Option Addr) (n c : Nat) (k0 n0 : Int) (W : World) : Prop where
  box : W.cell? ⟨s, 0, none⟩ = some (.slice a n c)
  kb : W.cell? ⟨s + 1, 0, none⟩ = some (.int .i64 k0)
  nb : W.cell? ⟨s + 1 + 1, 0, none⟩ = some (.int .i64 n0)
  res : W.heap[s + 1 + 1 + 1]? = some (.cells #[.int .i64 0, .int .i64 0] 26)
  lt : s + 1 + 1 + 1 < W.heap.size
theorem Hb.on {s : Nat} {a : Option Addr} {n c : Nat} {k0 n0 : Int} {W W' : World} (h : Hb s a n c k0 n0 W) (k : Below W.heap.size W W') : Hb s a n c k0 n0 W' := by
  have := h.lt
  exact ⟨(k.cell (p := ⟨s, 0, none⟩) (show s < _ by omega)).trans h.box, (k.cell (p := ⟨s + 1, 0, none⟩) (show s + 1 < _ by omega)).trans h.kb, (k.cell (p := ⟨s + 1 + 1, 0, none⟩) (show s + 1 + 1 < _ by omega)).trans h.nb, (k.block _ h.lt).trans h.res, Nat.lt_of_lt_of_le h.lt k.size⟩
theorem Hb.on2 {s : Nat} {a : Option Addr} {n c : Nat} {k0 n0 : Int} {W W' : World} (h : Hb s a n c k0 n0 W) (k : Below (s + 1 + 1 + 1 + 1) W W') : Hb s a n c k0 n0 W' :=
  ⟨(k.cell (p := ⟨s, 0, none⟩) (show s < _ by omega)).trans h.box, (k.cell (p := ⟨s + 1, 0, none⟩) (show s + 1 < _ by omega)).trans h.kb, (k.cell (p := ⟨s + 1 + 1, 0, none⟩) (show s + 1 + 1 < _ by omega)).trans h.nb, (k.block _ (by omega)).trans h.res, Nat.lt_of_lt_of_le h.lt k.size⟩
theorem Hb.own {β : Type} {s : Nat} {a : Option Addr} {n c : Nat} {k0 n0 : Int} : Own (fun (_ : β) W => Hb s a n c k0 n0 W) := fun _ A B row hs hg hr => ⟨cell_kept hs.box hg hr, cell_kept hs.kb hg hr, cell_kept hs.nb hg hr, (grownBy_keeps_cells hg hr hs.res rfl).trans hs.res, Nat.lt_of_lt_of_le hs.lt hg.size⟩
theorem Hb.start (w : World) (a : Option Addr) (n c : Nat) (k0 n0 : Int) : Hb w.heap.size a n c k0 n0 ((((w.alloc (.cells #[.slice a n c] 31)).alloc (.cells #[.int .i64 k0] 3)).alloc (.cells #[.int .i64 n0] 3)).alloc (.cells #[.int .i64 0, .int .i64 0] 26)) := by
  have q0 := cellNew w (.slice a n c) 31
  have q1 := cellNew (w.alloc (.cells #[.slice a n c] 31)) (.int .i64 k0) 3
  have q2 := cellNew ((w.alloc (.cells #[.slice a n c] 31)).alloc (.cells #[.int .i64 k0] 3)) (.int .i64 n0) 3
  simp only [World.size_alloc] at q1 q2
  refine ⟨cellOld _ (cellOld _ (cellOld _ q0.1)), cellOld _ (cellOld _ q1.1), cellOld _ q2.1, ?_, by simp⟩
  have := heap_alloc_new (((w.alloc (.cells #[.slice a n c] 31)).alloc (.cells #[.int .i64 k0] 3)).alloc (.cells #[.int .i64 n0] 3)) (.cells #[.int .i64 0, .int .i64 0] 26)
  simpa using this
theorem start_below (w : World) (a : Option Addr) (n c : Nat) (k0 n0 : Int) : Below w.heap.size w ((((w.alloc (.cells #[.slice a n c] 31)).alloc (.cells #[.int .i64 k0] 3)).alloc (.cells #[.int .i64 n0] 3)).alloc (.cells #[.int .i64 0, .int .i64 0] 26)) :=
  ((((Below.refl _ w).alloc (Nat.le_refl _) _).alloc (by simp) _).alloc (by simp; omega) _).alloc (by simp; omega) _

/-- a fraction that the body of a range writes -/
def FrAt (E : Nat) (W : World) (p : Nat × Nat) : Prop := W.heap[E]? = some (.cells #[.int .i64 (p.1 : Int), .int .i64 (p.2 : Int)] 56)
theorem FrAt.own {β : Type} (E : Nat) (f : β → Nat × Nat) : Own (fun (s : β) W => FrAt E W (f s)) := fun _ A B row hs hg hr => (grownBy_keeps_cells hg hr hs rfl).trans hs

set_option maxRecDepth 1000000 in
set_option maxHeartbeats 1000000 in
theorem isRandom_any (k0 n0 : Int) (w : World) : Calls Try.prog 45 #[.int .i64 k0, .int .i64 n0] w fun e w' => e = .returned (.bool (decide (1 ≤ k0 ∧ k0 ≤ 26 ∧ 0 ≤ n0 ∧ n0 ≤ 12))) ∧ w' = w := by
  by_cases h1 : 1 ≤ k0
  · have d1 : decide (1 ≤ k0) = true := decide_eq_true h1
    by_cases h2 : k0 ≤ 26
    · have d2 : decide (k0 ≤ 26) = true := decide_eq_true h2
      by_cases h3 : 0 ≤ n0
      · have d3 : decide (0 ≤ n0) = true := decide_eq_true h3
        go_enter Try.func45, Try.ntmps45
        go_wp2
        go_ret
        exact ⟨ret_bool (by simp [h1, h2, h3]), rfl⟩
      · have d3 : decide (0 ≤ n0) = false := decide_eq_false h3
        go_enter Try.func45, Try.ntmps45
        go_wp2
        go_ret
        exact ⟨ret_bool (by simp [h1, h2, h3]), rfl⟩
    · have d2 : decide (k0 ≤ 26) = false := decide_eq_false h2
      go_enter Try.func45, Try.ntmps45
      go_wp2
      go_ret
      exact ⟨ret_bool (by simp [h1, h2]), rfl⟩
  · have d1 : decide (1 ≤ k0) = false := decide_eq_false h1
    go_enter Try.func45, Try.ntmps45
    go_wp2
    go_ret
    exact ⟨ret_bool (by simp [h1]), rfl⟩

end Go.Proofs.Ytibdfhhbkbncgab

/-
  What has been added of the words told so far: plain mathematics.
-/
namespace Go.Proofs.Ytibdfhhbkbncgab
open Go.RowKit
set_option linter.unusedVariables false
set_option linter.unusedSimpArgs false

/-- what has been added of the words told so far -/
def hsum {t : List Nd} {ps : List Txt} (f : Txt → Nat) (pre : List (EW t ps)) : Nat := tsum f (pre.map fun y => y.x)
theorem hsum_snoc {t : List Nd} {ps : List Txt} (f : Txt → Nat) (pre : List (EW t ps)) (y : EW t ps) : hsum f (pre ++ [y]) = hsum f pre + f y.x := by
  unfold hsum
  rw [List.map_append, tsum_app]
  simp [tsum]
theorem hsum_all {t : List Nd} {ps : List Txt} (hv : Valid t ps) (f : Txt → Nat) {ys : List (EW t ps)} (h : ys.map EW.val = pls t ps t.length) : hsum f ys = tsum f (wds t ps) := by
  unfold hsum
  have h1 := congrArg (List.map Prod.snd) h
  rw [List.map_map, pls_all hv] at h1
  rw [← h1]
  rfl
theorem hsum_le {t : List Nd} {ps : List Txt} (f : Txt → Nat) (b : Nat) (h : ∀ x, f x ≤ b) (pre : List (EW t ps)) : hsum f pre ≤ b * pre.length := by
  unfold hsum
  have := tsum_le f b (xs := pre.map fun y => y.x) (fun x _ => h x)
  rwa [List.length_map] at this

end Go.Proofs.Ytibdfhhbkbncgab

/-
  The program's whole numbers, products and sums of fractions.
-/
namespace Go.Proofs.Ytibdfhhbkbncgab
open Go.RowKit
set_option linter.unusedVariables false
set_option linter.unusedSimpArgs false

set_option maxRecDepth 1000000 in
set_option maxHeartbeats 1000000 in
theorem whole_any (x : Nat) (w : World) : Calls Try.prog 30 #[.int .i64 (x : Int)] w fun e w' => e = .returned (fv (x, 1)) ∧ Below w.heap.size w w' := by
  have HB1 : Hid (Below w.heap.size w (w.alloc (.cells #[.int .i64 0, .int .i64 0] 56))) := Lib.hid ((Below.refl _ _).alloc (Nat.le_refl _) _)
  have HH := Lib.hid (heap_alloc_new w (.cells #[.int .i64 0, .int .i64 0] 56))
  go_enter Try.func30, Try.ntmps30
  go_wp2_with fail
  have hn := heap_alloc_new w (.cells #[.int .i64 (x : Int), .int .i64 1] 56)
  obtain ⟨hc0, hc1⟩ := pair_cells w (.int .i64 (x : Int)) (.int .i64 1) 56
  have hb : Below w.heap.size w (w.alloc (.cells #[.int .i64 (x : Int), .int .i64 1] 56)) := (Below.refl _ _).alloc (Nat.le_refl _) _
  generalize w.alloc (.cells #[.int .i64 (x : Int), .int .i64 1] 56) = W9 at *
  exact bodyPost_ret (v := fv (x, 1)) (by simp [results, Try.results30, go_sem, hc0, hc1, fv]) rfl ⟨rfl, hb⟩

/-- three pairs that lie side by side behind an entry -/
structure Trip (W w : World) (x y u v : Int) (ty : TypeId) : Prop where
  fx : w.cell? ⟨W.heap.size, 0, none⟩ = some (.int .i64 x)
  fy : w.cell? ⟨W.heap.size, 1, none⟩ = some (.int .i64 y)
  gu : w.cell? ⟨W.heap.size + 1, 0, none⟩ = some (.int .i64 u)
  gv : w.cell? ⟨W.heap.size + 1, 1, none⟩ = some (.int .i64 v)
  res : w.heap[W.heap.size + 2]? = some (.cells #[.int .i64 0, .int .i64 0] ty)
  lt : W.heap.size + 2 < w.heap.size
  bel : Below W.heap.size W w
theorem Trip.on {W w w' : World} {x y u v : Int} {ty : TypeId} (h : Trip W w x y u v ty) (hb : Below w.heap.size w w') : Trip W w' x y u v ty :=
  ⟨(hb.cell (p := ⟨W.heap.size, 0, none⟩) (show W.heap.size < w.heap.size by have := h.lt; omega)).trans h.fx, (hb.cell (p := ⟨W.heap.size, 1, none⟩) (show W.heap.size < w.heap.size by have := h.lt; omega)).trans h.fy,
   (hb.cell (p := ⟨W.heap.size + 1, 0, none⟩) (show W.heap.size + 1 < w.heap.size by have := h.lt; omega)).trans h.gu, (hb.cell (p := ⟨W.heap.size + 1, 1, none⟩) (show W.heap.size + 1 < w.heap.size by have := h.lt; omega)).trans h.gv,
   (hb.block _ h.lt).trans h.res, Nat.lt_of_lt_of_le h.lt hb.size, h.bel.trans (hb.mono (by have := h.lt; omega))⟩
theorem Trip.start (W : World) (x y u v : Int) (ty : TypeId) : Trip W (((W.alloc (.cells #[.int .i64 x, .int .i64 y] ty)).alloc (.cells #[.int .i64 u, .int .i64 v] ty)).alloc (.cells #[.int .i64 0, .int .i64 0] ty)) x y u v ty := by
  have hb2 : Below (W.alloc (.cells #[.int .i64 x, .int .i64 y] ty)).heap.size (W.alloc (.cells #[.int .i64 x, .int .i64 y] ty)) (((W.alloc (.cells #[.int .i64 x, .int .i64 y] ty)).alloc (.cells #[.int .i64 u, .int .i64 v] ty)).alloc (.cells #[.int .i64 0, .int .i64 0] ty)) := ((Below.refl _ _).alloc (Nat.le_refl _) _).alloc (by simp) _
  have hb3 : Below ((W.alloc (.cells #[.int .i64 x, .int .i64 y] ty)).alloc (.cells #[.int .i64 u, .int .i64 v] ty)).heap.size ((W.alloc (.cells #[.int .i64 x, .int .i64 y] ty)).alloc (.cells #[.int .i64 u, .int .i64 v] ty)) (((W.alloc (.cells #[.int .i64 x, .int .i64 y] ty)).alloc (.cells #[.int .i64 u, .int .i64 v] ty)).alloc (.cells #[.int .i64 0, .int .i64 0] ty)) := (Below.refl _ _).alloc (Nat.le_refl _) _
  obtain ⟨u1, u2⟩ := pair_cells W (.int .i64 x) (.int .i64 y) ty
  obtain ⟨u3, u4⟩ := pair_cells (W.alloc (.cells #[.int .i64 x, .int .i64 y] ty)) (.int .i64 u) (.int .i64 v) ty
  have v3 := (hb3.cell (p := ⟨(W.alloc (.cells #[.int .i64 x, .int .i64 y] ty)).heap.size, 0, none⟩) (by simp)).trans u3
  have v4 := (hb3.cell (p := ⟨(W.alloc (.cells #[.int .i64 x, .int .i64 y] ty)).heap.size, 1, none⟩) (by simp)).trans u4
  rw [World.size_alloc] at v3 v4
  refine ⟨(hb2.cell (p := ⟨W.heap.size, 0, none⟩) (by simp)).trans u1, (hb2.cell (p := ⟨W.heap.size, 1, none⟩) (by simp)).trans u2, v3, v4, ?_, by simp, (((Below.refl _ _).alloc (Nat.le_refl _) _).alloc (by simp) _).alloc (by simp; omega) _⟩
  have := heap_alloc_new ((W.alloc (.cells #[.int .i64 x, .int .i64 y] ty)).alloc (.cells #[.int .i64 u, .int .i64 v] ty)) (.cells #[.int .i64 0, .int .i64 0] ty)
  simpa using this

set_option maxRecDepth 1000000 in
set_option maxHeartbeats 1000000 in
theorem plus_walk (p1 p2 q1 q2 g fc gc L A C Z r1 r2 : Nat) (W : World)
    (cG : Hid (∀ W', Calls Try.prog 65 #[.int .i64 (p2 : Int), .int .i64 (q2 : Int)] W' fun e w' => e = .returned (.int .i64 (g : Int)) ∧ ∃ n, w' = W'.drewN n))
    (cF : Hid (∀ W', Calls Try.prog 66 #[.int .i64 (Z : Int), .int .i64 (L : Int)] W' fun e w' => e = .returned (.agg #[.int .i64 (r1 : Int), .int .i64 (r2 : Int)]) ∧ Below W'.heap.size W' w'))
    (hg0 : 0 < g) (hq0 : 0 < q2) (hfL : fc ≤ 9000000000000000000) (hgL : gc ≤ 9000000000000000000) (hLL : L ≤ 9000000000000000000) (hAL : A ≤ 9000000000000000000) (hCL : C ≤ 9000000000000000000) (hZL : Z ≤ 9000000000000000000)
    (H1 : Hid ((q2 : Int).tdiv (g : Int) = (fc : Int))) (H2 : Hid ((p2 : Int) * (fc : Int) = (L : Int))) (H3 : Hid ((p1 : Int) * (fc : Int) = (A : Int))) (H4 : Hid ((L : Int).tdiv (q2 : Int) = (gc : Int))) (H5 : Hid ((q1 : Int) * (gc : Int) = (C : Int))) (H6 : Hid ((A : Int) + (C : Int) = (Z : Int))) :
    Calls Try.prog 37 #[.agg #[.int .i64 (p1 : Int), .int .i64 (p2 : Int)], .agg #[.int .i64 (q1 : Int), .int .i64 (q2 : Int)]] W fun e w' => e = .returned (.agg #[.int .i64 (r1 : Int), .int .i64 (r2 : Int)]) ∧ Below W.heap.size W w' := by
  have T0 := Lib.hid (Trip.start W (p1 : Int) (p2 : Int) (q1 : Int) (q2 : Int) 56)
  have w1 : IntKind.i64.wrap (fc : Int) = (fc : Int) := by rw [IntKind.wrap_i64]; omega
  have w3 : Hid (IntKind.i64.wrap ((p2 : Int) * (fc : Int)) = (L : Int)) := Lib.hid (by rw [H2.out, IntKind.wrap_i64]; omega)
  have w4 : Hid (IntKind.i64.wrap (gc : Int) = (gc : Int)) := Lib.hid (by rw [IntKind.wrap_i64]; omega)
  have w6 : Hid (IntKind.i64.wrap ((p1 : Int) * (fc : Int)) = (A : Int)) := Lib.hid (by rw [H3.out, IntKind.wrap_i64]; omega)
  have w7 : Hid (IntKind.i64.wrap ((q1 : Int) * (gc : Int)) = (C : Int)) := Lib.hid (by rw [H5.out, IntKind.wrap_i64]; omega)
  have w8 : Hid (IntKind.i64.wrap ((A : Int) + (C : Int)) = (Z : Int)) := Lib.hid (by rw [H6.out, IntKind.wrap_i64]; omega)
  have n1 : ¬ g = 0 := by omega
  have n1' : ¬ (g : Int) = 0 := by omega
  have b1 : ((g : Int) == 0) = false := by simp; omega
  have n2 : Hid (¬ q2 = 0) := Lib.hid (by omega)
  have n2' : Hid (¬ (q2 : Int) = 0) := Lib.hid (by omega)
  have b2 : Hid (((q2 : Int) == 0) = false) := Lib.hid (by simp; omega)
  clear hg0 hq0 hfL hgL hLL hAL hCL hZL
  go_enter Try.func37, Try.ntmps37
  go_wp2_with fail
  obtain ⟨W1, hW1⟩ : ∃ W1, ((W.alloc (.cells #[.int .i64 (p1 : Int), .int .i64 (p2 : Int)] 56)).alloc (.cells #[.int .i64 (q1 : Int), .int .i64 (q2 : Int)] 56)).alloc (.cells #[.int .i64 0, .int .i64 0] 56) = W1 := ⟨_, rfl⟩
  rw [hW1] at T0 ⊢
  clear hW1
  have c1 := T0.out.fx
  have c2 := T0.out.fy
  have c3 := T0.out.gu
  have c4 := T0.out.gv
  have e1 := H1.out
  go_quiet ((go_at_call 65; exact Calls.quiet_of (cG.out _)))
  have T1 := Lib.hid (T0.out.on (below_drewN (Below.refl _ _) nq))
  clear c1 c2 c3 c4 e1 w1 n1 n1' b1
  obtain ⟨W2, hW2⟩ : ∃ W2, W1.drewN nq = W2 := ⟨_, rfl⟩
  rw [hW2] at T1 ⊢
  clear hW2
  have c2 := T1.out.fy
  have w3 := w3.out
  go_wp2_with fail
  clear c2 w3
  have c1 := T1.out.fx
  have c3 := T1.out.gu
  have c4 := T1.out.gv
  have w4 := w4.out
  have w6 := w6.out
  have w7 := w7.out
  have w8 := w8.out
  have e2 := H4.out
  have n2 := n2.out
  have n2' := n2'.out
  have b2 := b2.out
  go_region_held3 (fun w' => w'.cell? ⟨W.heap.size, 0, none⟩ = some (.int .i64 (p1 : Int)) ∧ w'.cell? ⟨W.heap.size + 1, 0, none⟩ = some (.int .i64 (q1 : Int)) ∧ w'.cell? ⟨W.heap.size + 1, 1, none⟩ = some (.int .i64 (q2 : Int)))
    (first
      | exact ⟨c1, c3, c4⟩
      | exact ⟨T5.out.fx, T5.out.gu, T5.out.gv⟩
      | exact ⟨(far2 (show W.heap.size ≠ W.heap.size + 2 by omega)).trans T5.out.fx, (far2 (show W.heap.size + 1 ≠ W.heap.size + 2 by omega)).trans T5.out.gu, (far2 (show W.heap.size + 1 ≠ W.heap.size + 2 by omega)).trans T5.out.gv⟩)
    (first
      | (go_at_call 66; refine (cF.out _).mono ?_; rintro e w5 ⟨rfl, hb5⟩; have T5 := Lib.hid (T1.out.on (by exact (Below.refl _ _).drew.trans hb5)); obtain ⟨f1, f2, f3, f4⟩ := frozen_new2 T5.out.res))
  go_wp2_with fail
  have hE := pair_set (a' := .int .i64 (r1 : Int)) (b' := .int .i64 (r2 : Int)) T5.out.res
  have hB9 := pair_below (v1 := .int .i64 (r1 : Int)) (v2 := .int .i64 (r2 : Int)) T5.out.bel (show W.heap.size ≤ W.heap.size + 2 by omega)
  generalize ((w5.setCell ⟨W.heap.size + 2, 0, none⟩ (.int .i64 (r1 : Int))).setCell ⟨W.heap.size + 2, 1, none⟩ (.int .i64 (r2 : Int))) = W9 at *
  obtain ⟨hc0, hc1⟩ := hE
  exact bodyPost_ret (v := .agg #[.int .i64 (r1 : Int), .int .i64 (r2 : Int)]) (by simp [results, Try.results37, go_sem, hc0, hc1]) rfl ⟨rfl, hB9⟩

theorem plus_any (p q : Nat × Nat) (D : Nat) (W : World) (hp : 0 < p.2) (hq : 0 < q.2) (hD : 0 < D) (hpD : p.2 ∣ D) (hqD : q.2 ∣ D) (hDb : D ≤ 9000000000000000000) (hs : p.1 * (D / p.2) + q.1 * (D / q.2) ≤ 9000000000000000000) :
    Calls Try.prog 37 #[fv p, fv q] W fun e w' => e = .returned (fv (fadd p q)) ∧ Below W.heap.size W w' := by
  obtain ⟨p1, p2⟩ := p
  obtain ⟨q1, q2⟩ := q
  simp only at hp hq hpD hqD hs
  have HR := fadd_lcm (p := (p1, p2)) (q := (q1, q2)) hp hq
  simp only at HR
  obtain ⟨l1, l2, l3, l4, l5, l6⟩ := lcm_parts hp hq
  have hlD := lcm_le_of hD hpD hqD
  have hg0 : 0 < Nat.gcd p2 q2 := Nat.gcd_pos_of_pos_right _ hq
  have hA : p1 * (q2 / Nat.gcd p2 q2) ≤ p1 * (D / p2) := Nat.mul_le_mul_left _ (by rw [← l5]; exact Nat.div_le_div_right hlD)
  have hC : q1 * (p2 / Nat.gcd p2 q2) ≤ q1 * (D / q2) := Nat.mul_le_mul_left _ (by rw [← l4]; exact Nat.div_le_div_right hlD)
  have hfL : q2 / Nat.gcd p2 q2 ≤ q2 := Nat.div_le_self _ _
  have hgL : p2 / Nat.gcd p2 q2 ≤ p2 := Nat.div_le_self _ _
  have hp2 := Nat.le_of_dvd hD hpD
  have hq2 := Nat.le_of_dvd hD hqD
  obtain ⟨⟨r1, r2⟩, hr⟩ : ∃ r, fadd (p1, p2) (q1, q2) = r := ⟨_, rfl⟩
  have cF : ∀ W', Calls Try.prog 66 #[.int .i64 ((p1 * (q2 / Nat.gcd p2 q2) + q1 * (p2 / Nat.gcd p2 q2) : Nat) : Int), .int .i64 ((Nat.lcm p2 q2 : Nat) : Int)] W' fun e w' => e = .returned (fv (fadd (p1, p2) (q1, q2))) ∧ Below W'.heap.size W' w' := fun W' => by
    rw [← HR]
    exact fractionOf_any _ _ W' (Nat.le_trans (Nat.add_le_add hA hC) hs) (Nat.le_trans hlD hDb) l6
  rw [hr] at cF ⊢
  exact plus_walk p1 p2 q1 q2 (Nat.gcd p2 q2) (q2 / Nat.gcd p2 q2) (p2 / Nat.gcd p2 q2) (Nat.lcm p2 q2) (p1 * (q2 / Nat.gcd p2 q2)) (q1 * (p2 / Nat.gcd p2 q2)) (p1 * (q2 / Nat.gcd p2 q2) + q1 * (p2 / Nat.gcd p2 q2)) r1 r2 W
    (Lib.hid fun W' => commonDivisor_any p2 q2 W' (Nat.le_trans hp2 hDb) (Nat.le_trans hq2 hDb)) (Lib.hid cF) hg0 hq (Nat.le_trans hfL (Nat.le_trans hq2 hDb)) (Nat.le_trans hgL (Nat.le_trans hp2 hDb)) (Nat.le_trans hlD hDb)
    (Nat.le_trans hA (Nat.le_trans (Nat.le_add_right _ _) hs)) (Nat.le_trans hC (Nat.le_trans (Nat.le_add_left _ _) hs)) (Nat.le_trans (Nat.add_le_add hA hC) hs)
    (Lib.hid (tdiv_cast _ _)) (Lib.hid (by rw [← Int.natCast_mul, l1])) (Lib.hid (Int.natCast_mul _ _).symm) (Lib.hid (by rw [tdiv_cast, l4])) (Lib.hid (Int.natCast_mul _ _).symm) (Lib.hid (Int.natCast_add _ _).symm)

end Go.Proofs.Ytibdfhhbkbncgab

/-
  A row that one owns and a string's iterator: they are different blocks.
-/
namespace Go.Proofs.Ytibdfhhbkbncgab
open Go.RowKit
set_option linter.unusedVariables false

theorem own_iter {base : Nat} {w : World} {e : TypeId} {size n : Nat} {v : Value} {xs : List Value} (h : w.ownsRow base e size v n xs) {k : Nat} {s : ByteArray} {p : Nat} (hk : w.heap[k]? = some (.stringIter s p)) : some k ≠ v.ownBlock := by
  rcases h.2 with ⟨rfl, _⟩ | ⟨g, cap, cur, rfl, _, hg, _⟩
  · simp [Value.ownBlock]
  · intro e'
    have : k = g := by simpa [Value.ownBlock] using e'
    subst this
    rw [hk] at hg
    cases hg

theorem own_iterAt {base : Nat} {w : World} {e : TypeId} {size n : Nat} {v : Value} {xs : List Value} (h : w.ownsRow base e size v n xs) {k : Nat} {s : ByteArray} {p q : Nat} (hk : w.heap[k]? = some (.stringIter s p)) : (w.iterAt k s q).ownsRow base e size v n xs := by
  have hne := own_iter h hk
  refine ⟨h.1, ?_⟩
  rcases h.2 with h' | ⟨g, cap, cur, rfl, hb, hg, h3⟩
  · exact .inl h'
  · refine .inr ⟨g, cap, cur, rfl, hb, ?_, h3⟩
    rw [Lib.iterAt_other w k g s q (fun e => hne (by simp [Value.ownBlock, e]))]
    exact hg

end Go.Proofs.Ytibdfhhbkbncgab

/-
  The chance that a random text begins with a text: the program.
-/
namespace Go.Proofs.Ytibdfhhbkbncgab
open Go.RowKit
set_option linter.unusedVariables false
set_option linter.unusedSimpArgs false

theorem pair_heap9 {W : World} {s : Nat} {a b a' b' : Value} {e : TypeId} (h : W.heap[s]? = some (.cells #[a, b] e)) :
    ((W.setCell ⟨s, 0, none⟩ a').setCell ⟨s, 1, none⟩ b').heap[s]? = some (.cells #[a', b'] e) := by
  simp [World.setCell, Array.getElem?_modify, h]
theorem pair_other9 {W : World} {s s' : Nat} {a' b' : Value} (h : s' ≠ s) : ((W.setCell ⟨s, 0, none⟩ a').setCell ⟨s, 1, none⟩ b').heap[s']? = W.heap[s']? := by
  rw [Below.heap_setCell _ _ _ _ (by exact h), Below.heap_setCell _ _ _ _ (by exact h)]

set_option maxRecDepth 1000000 in
set_option maxHeartbeats 2000000 in
theorem startChance_any (k : Nat) (s : ByteArray) (hk1 : 1 ≤ k) (hk : k ≤ 26) (hs : s.size ≤ 12) (hlow : Low (tx s)) (W : World) :
    Calls Try.prog 46 #[.string s, .int .i64 (k : Int)] W fun e w' => e = .returned (fv (sch k (tx s))) ∧ Below W.heap.size W w' := by
  have HB1 : Hid (Below W.heap.size W (W.alloc (.cells #[.int .i64 0, .int .i64 0] 56))) := Lib.hid ((Below.refl _ _).alloc (Nat.le_refl _) _)
  have HR1 := Lib.hid (heap_alloc_new W (.cells #[.int .i64 0, .int .i64 0] 56))
  have hz1 : W.heap.size < (W.alloc (.cells #[.int .i64 0, .int .i64 0] 56)).heap.size := by simp
  have cW := Lib.hid (fun W' => whole_any 1 W')
  have cZ := Lib.hid (fun W' => whole_any 0 W')
  have cD := Lib.hid (fun (j : Nat) (hj : j < 12) W' => dividedBy_any (1, k ^ j) k W' (by simp) (by have := pow_mul_bd hk hj; simp only; omega) (Nat.pow_pos (by omega)) (by omega))
  simp only [fra_one, fv_mk, ← Nat.pow_succ] at cW cZ cD
  obtain ⟨pw, HPw⟩ : ∃ pw : Nat → Nat, ∀ j, k ^ j = pw j := ⟨fun j => k ^ j, fun _ => rfl⟩
  have HP00 : Hid (pw 0 = 1) := Lib.hid (by rw [← HPw 0]; rfl)
  simp only [HPw] at cD
  have HLow := Lib.hid hlow
  obtain ⟨y, hy⟩ : ∃ y, sch k (tx s) = y := ⟨_, rfl⟩
  have HY1 : Hid (fst9 k (tx s) = true → y = (1, pw s.size)) := Lib.hid (fun h => by rw [← hy]; unfold sch; rw [if_pos h, tx_len, HPw])
  have HY0 : Hid (fst9 k (tx s) = false → y = (0, 1)) := Lib.hid (fun h => by rw [← hy]; unfold sch; rw [if_neg (by rw [h]; simp)])
  obtain ⟨y1, y2⟩ := y
  rw [hy]
  clear hy hlow HPw
  go_enter Try.func46, Try.ntmps46
  go_wp2_with fail
  obtain ⟨W1, hW1⟩ : ∃ W1, W.alloc (.cells #[.int .i64 0, .int .i64 0] 56) = W1 := ⟨_, rfl⟩
  rw [hW1] at HB1 HR1 hz1 ⊢
  clear hW1
  refine (cW.out _).mono ?_
  rintro e w2 ⟨rfl, hb2⟩
  have hE2 : W.heap.size < w2.heap.size := Nat.lt_of_lt_of_le hz1 hb2.size
  have HB2 := Lib.hid (HB1.out.trans (hb2.mono HB1.out.size))
  have HR2 := Lib.hid ((hb2.block _ hz1).trans HR1.out)
  have HE3 := Lib.hid (heap_alloc_new w2 (.cells #[.int .i64 1, .int .i64 1] 56))
  have HB3 : Hid (Below w2.heap.size w2 (w2.alloc (.cells #[.int .i64 1, .int .i64 1] 56))) := Lib.hid ((Below.refl _ _).alloc (Nat.le_refl _) _)
  have hz3 : (w2.alloc (.cells #[.int .i64 1, .int .i64 1] 56)).heap.size = w2.heap.size + 1 := by simp
  clear hb2
  go_wp2_with fail
  obtain ⟨W3, hW3⟩ : ∃ W3, w2.alloc (.cells #[.int .i64 1, .int .i64 1] 56) = W3 := ⟨_, rfl⟩
  rw [hW3] at HE3 HB3 hz3
  have HIt : Hid ((W3.iter s 0).heap[W3.heap.size]? = some (.stringIter s 0)) := Lib.hid (World.iter_heap W3 s 0)
  have HB4 : Hid (Below W3.heap.size W3 (W3.iter s 0)) := Lib.hid ((Below.refl _ _).alloc (Nat.le_refl _) (.stringIter s 0))
  obtain ⟨E, hE⟩ : ∃ E, w2.heap.size = E := ⟨_, rfl⟩
  rw [hz3] at HIt HB4
  rw [hE] at HE3 HB3 hz3 hE2 HIt HB4
  have HW3 := Lib.hid hW3
  have HEq := Lib.hid hE
  clear hW3 hE
  have A1 : Hid (Below W.heap.size W (W3.iter s 0)) := Lib.hid ((HB2.out.trans (HB3.out.mono (by omega))).trans (HB4.out.mono (by omega)))
  have A2 : Hid ((W3.iter s 0).heap[W.heap.size]? = some (.cells #[.int .i64 0, .int .i64 0] 56)) := Lib.hid ((HB4.out.block _ (by omega)).trans ((HB3.out.block _ hE2).trans HR2.out))
  have A3 : Hid ((W3.iter s 0).heap[E]? = some (.cells #[.int .i64 1, .int .i64 1] 56)) := Lib.hid ((HB4.out.block _ (by omega)).trans HE3.out)
  simp only [HW3.out, hz3, HEq.out]
  clear HW3 HEq HB2 HB1 HR1 HR2 HB3 HB4 hz1
  obtain ⟨W4, hW4⟩ : ∃ W4, W3.iter s 0 = W4 := ⟨_, rfl⟩
  rw [hW4] at A1 A2 A3 HIt ⊢
  clear hW4 HE3
  go_loopw [7] (fun p wr => ∃ (j : Nat), j ≤ s.size ∧ (∃ v : Value, p = v) ∧ Hid (fst9 k ((tx s).take j) = true) ∧ Hid (wr.heap[E + 1]? = some (.stringIter s j)) ∧ Hid (wr.heap[E]? = some (.cells #[.int .i64 1, .int .i64 (pw j : Int)] 56)) ∧ Hid (wr.heap[W.heap.size]? = some (.cells #[.int .i64 0, .int .i64 0] 56)) ∧ Hid (Below W.heap.size W wr)) (fun _ wr => s.size - wr.iterPos (E + 1))
  case atStart => exact ⟨0, Nat.zero_le _, ⟨_, rfl⟩, Lib.hid rfl, HIt, Lib.hid (by rw [HP00.out]; exact A3.out), A2, A1⟩
  case round =>
    obtain ⟨j, hj, ⟨v0, rfl⟩, HF, HI, HE, HR, HB⟩ := hrel
    have hpos0 : wr.iterPos (E + 1) = j := by simp [World.iterPos, HI.out]
    have HP0 := Lib.hid hpos0
    clear hpos0
    by_cases hlt : j < s.size
    · have hcx : (tx s)[j]? = some s[j] := by
        rw [List.getElem?_eq_getElem (by rw [tx_len]; exact hlt)]
        rfl
      have hlow := HLow.out s[j] (List.mem_of_getElem? hcx)
      have h128 : s[j].toNat < 128 := by omega
      have hnx := fun ty => Lib.run_next_ascii_at (P := Try.prog) wr (E + 1) s j ty HI.out hlt h128
      have HTk : Hid ((tx s).take (j + 1) = (tx s).take j ++ [s[j]]) := Lib.hid (by rw [List.take_succ_eq_append_getElem (by rw [tx_len]; exact hlt)]; rfl)
      have HNo : Hid (k + 97 ≤ s[j].toNat → fst9 k (tx s) = false) := Lib.hid (fst9_no hcx)
      have HYs : Hid (s[j].toNat < k + 97 → fst9 k ((tx s).take (j + 1)) = true) := Lib.hid (fun h => by rw [HTk.out, fst9_app, HF.out, fst9_one, decide_eq_true h]; rfl)
      obtain ⟨W1, hW1⟩ : ∃ W1, wr.iterAt (E + 1) s (j + 1) = W1 := ⟨_, rfl⟩
      have HI1 : Hid (W1.heap[E + 1]? = some (.stringIter s (j + 1))) := Lib.hid (by rw [← hW1]; exact Lib.iterAt_heap wr _ s j (j + 1) HI.out)
      have HE1 : Hid (W1.heap[E]? = some (.cells #[.int .i64 1, .int .i64 (pw j : Int)] 56)) := Lib.hid (by rw [← hW1]; exact (Lib.iterAt_other wr _ E s (j + 1) (by omega)).trans HE.out)
      have HR1 : Hid (W1.heap[W.heap.size]? = some (.cells #[.int .i64 0, .int .i64 0] 56)) := Lib.hid (by rw [← hW1]; exact (Lib.iterAt_other wr _ W.heap.size s (j + 1) (by omega)).trans HR.out)
      have HB1 : Hid (Below W.heap.size W W1) := Lib.hid (by rw [← hW1]; exact Lib.below_iterAt HB.out (by omega) s (j + 1))
      have hs1 : E + 1 < W1.heap.size := (Array.getElem?_eq_some_iff.1 HI1.out).1
      simp only [hW1] at hnx
      clear hW1 hcx
      obtain ⟨cn, hcn⟩ : ∃ cn : Nat, s[j].toNat = cn := ⟨_, rfl⟩
      rw [hcn] at hlow HNo HYs
      simp only [hcn] at hnx
      clear hcn h128
      have hc0 : (97 : Int) ≤ (cn : Int) := by omega
      have hc1 : (cn : Int) ≤ 122 := by omega
      obtain ⟨g1, g2, g3, g4⟩ := frozen_new2 HR1.out
      obtain ⟨e1, e2, e3, e4⟩ := frozen_new2 HE1.out
      by_cases hck : k + 97 ≤ cn
      · have hd : decide ((k : Int) ≤ (cn : Int) - 97) = true := decide_eq_true (by omega)
        have hd2 : (k : Int) ≤ (cn : Int) - 97 := by omega
        have HYe := Lib.hid (HY0.out (HNo.out hck))
        go_wp2_with fail
        refine (cZ.out _).mono ?_
        rintro e w6 ⟨rfl, hb6⟩
        have HR6 := (hb6.block _ (by omega)).trans HR1.out
        have HB6 := Lib.hid (HB1.out.trans (hb6.mono (by omega)))
        obtain ⟨f1, f2, f3, f4⟩ := frozen_new2 HR6
        have hE9 := pair_set (a' := .int .i64 0) (b' := .int .i64 1) HR6
        have hB9 := pair_below (v1 := .int .i64 0) (v2 := .int .i64 1) HB6.out (Nat.le_refl W.heap.size)
        have HE9 := Lib.hid hE9
        have HB9 := Lib.hid hB9
        clear hE9 hB9 hb6 g1 g2 g3 g4 e1 e2 e3 e4
        go_wp2_with fail
        generalize ((w6.setCell ⟨W.heap.size, 0, none⟩ (.int .i64 0)).setCell ⟨W.heap.size, 1, none⟩ (.int .i64 1)) = W9 at *
        obtain ⟨hc0, hc1⟩ := HE9.out
        exact bodyPost_ret (v := fv (0, 1)) (by simp [results, Try.results46, go_sem, hc0, hc1, fv]) rfl ⟨by rw [HYe.out], HB9.out⟩
      · have hd : decide ((k : Int) ≤ (cn : Int) - 97) = false := decide_eq_false (by omega)
        have hd2 : ¬ (k : Int) ≤ (cn : Int) - 97 := by omega
        have HFn := Lib.hid (HYs.out (by omega))
        have cD1 := Lib.hid (cD.out j (by omega))
        clear g1 g2 g3 g4 e3 e4
        go_wp2_with fail
        refine (cD1.out _).mono ?_
        rintro e w6 ⟨rfl, hb6⟩
        have HR6 := (hb6.block _ (by omega)).trans HR1.out
        have HE6 := (hb6.block _ (by omega)).trans HE1.out
        have HI6 := (hb6.block _ hs1).trans HI1.out
        have HB6 := Lib.hid (HB1.out.trans (hb6.mono (by omega)))
        obtain ⟨f1, f2, f3, f4⟩ := frozen_new2 HE6
        have hWh := Lib.hid (pair_heap9 (a' := .int .i64 1) (b' := .int .i64 (pw (j + 1) : Int)) HE6)
        have hWr := Lib.hid ((pair_other9 (a' := .int .i64 1) (b' := .int .i64 (pw (j + 1) : Int)) (W := w6) (s := E) (s' := W.heap.size) (by omega)).trans HR6)
        have hWi := Lib.hid ((pair_other9 (a' := .int .i64 1) (b' := .int .i64 (pw (j + 1) : Int)) (W := w6) (s := E) (s' := E + 1) (by omega)).trans HI6)
        have hWb := Lib.hid (pair_below (v1 := .int .i64 1) (v2 := .int .i64 (pw (j + 1) : Int)) HB6.out (Nat.le_of_lt hE2))
        clear hb6 e1 e2 HR6 HE6 HI6
        go_wp2_with fail
        obtain ⟨w7, hw7⟩ : ∃ w7, (w6.setCell ⟨E, 0, none⟩ (.int .i64 1)).setCell ⟨E, 1, none⟩ (.int .i64 (pw (j + 1) : Int)) = w7 := ⟨_, rfl⟩
        rw [hw7] at hWh hWr hWi hWb ⊢
        clear hw7
        go_roundw
        case rel => exact ⟨j + 1, by omega, ⟨_, rfl⟩, HFn, hWi, hWh, hWr, hWb⟩
        case measure =>
          have e1 : w7.iterPos (E + 1) = j + 1 := by simp [World.iterPos, hWi.out]
          rw [HP0.out, e1]
          omega
    · have hnx := fun ty => Lib.run_next_end_at (P := Try.prog) wr (E + 1) s j ty HI.out hlt
      have hjs : j = s.size := by omega
      have HYe : Hid ((y1, y2) = (1, pw j)) := Lib.hid (by rw [hjs]; exact HY1.out (by have := HF.out; rwa [List.take_of_length_le (by rw [tx_len]; omega)] at this))
      obtain ⟨g1, g2, g3, g4⟩ := frozen_new2 HR.out
      obtain ⟨e1, e2, e3, e4⟩ := frozen_new2 HE.out
      have hE9 := pair_set (a' := .int .i64 1) (b' := .int .i64 (pw j : Int)) HR.out
      have hB9 := pair_below (v1 := .int .i64 1) (v2 := .int .i64 (pw j : Int)) HB.out (Nat.le_refl W.heap.size)
      have HE9 := Lib.hid hE9
      have HB9 := Lib.hid hB9
      clear hE9 hB9 hjs
      rename World => wq
      go_wp2_with fail
      generalize ((wq.setCell ⟨W.heap.size, 0, none⟩ (.int .i64 1)).setCell ⟨W.heap.size, 1, none⟩ (.int .i64 (pw j : Int))) = W9 at *
      obtain ⟨hc0, hc1⟩ := HE9.out
      exact bodyPost_ret (v := fv (1, pw j)) (by simp [results, Try.results46, go_sem, hc0, hc1, fv]) rfl ⟨by rw [HYe.out], HB9.out⟩

end Go.Proofs.Ytibdfhhbkbncgab
