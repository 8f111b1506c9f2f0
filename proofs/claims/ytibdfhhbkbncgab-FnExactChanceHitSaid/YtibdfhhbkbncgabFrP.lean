/-
  The program's whole numbers, products and sums of fractions.
-/
import Derived.Test.YtibdfhhbkbncgabFrD
import Derived.Deep.RegionHeld3
namespace Go.Proofs.Ytibdfhhbkbncgab
open Go.RowKit
set_option linter.unusedVariables false
set_option linter.unusedSimpArgs false

set_option maxRecDepth 1000000 in
set_option maxHeartbeats 1000000 in
theorem whole_any (x : Nat) (w : World) : Calls Try.prog 30 #[.int .i64 (x : Int)] w fun e w' => e = .returned (fv (x, 1)) ∧ Below w.heap.size w w' := by
  have HB1 : Hid (Below w.heap.size w (w.alloc (.cells #[.int .i64 0, .int .i64 0] 56))) := Lib.hid ((Below.refl _ _).alloc (Nat.le_refl _) _)
  have HH := Lib.hid (heap_alloc_new w (.cells #[.int .i64 0, .int .i64 0] 56))
  go_enter Try.func30, Try.ntmps30
  go_wp2_with fail
  have hn := heap_alloc_new w (.cells #[.int .i64 (x : Int), .int .i64 1] 56)
  obtain ⟨hc0, hc1⟩ := pair_cells w (.int .i64 (x : Int)) (.int .i64 1) 56
  have hb : Below w.heap.size w (w.alloc (.cells #[.int .i64 (x : Int), .int .i64 1] 56)) := (Below.refl _ _).alloc (Nat.le_refl _) _
  generalize w.alloc (.cells #[.int .i64 (x : Int), .int .i64 1] 56) = W9 at *
  exact bodyPost_ret (v := fv (x, 1)) (by simp [results, Try.results30, go_sem, hc0, hc1, fv]) rfl ⟨rfl, hb⟩

/-- three pairs that lie side by side behind an entry -/
structure Trip (W w : World) (x y u v : Int) (ty : TypeId) : Prop where
  fx : w.cell? ⟨W.heap.size, 0, none⟩ = some (.int .i64 x)
  fy : w.cell? ⟨W.heap.size, 1, none⟩ = some (.int .i64 y)
  gu : w.cell? ⟨W.heap.size + 1, 0, none⟩ = some (.int .i64 u)
  gv : w.cell? ⟨W.heap.size + 1, 1, none⟩ = some (.int .i64 v)
  res : w.heap[W.heap.size + 2]? = some (.cells #[.int .i64 0, .int .i64 0] ty)
  lt : W.heap.size + 2 < w.heap.size
  bel : Below W.heap.size W w
theorem Trip.on {W w w' : World} {x y u v : Int} {ty : TypeId} (h : Trip W w x y u v ty) (hb : Below w.heap.size w w') : Trip W w' x y u v ty :=
  ⟨(hb.cell (p := ⟨W.heap.size, 0, none⟩) (show W.heap.size < w.heap.size by have := h.lt; omega)).trans h.fx, (hb.cell (p := ⟨W.heap.size, 1, none⟩) (show W.heap.size < w.heap.size by have := h.lt; omega)).trans h.fy,
   (hb.cell (p := ⟨W.heap.size + 1, 0, none⟩) (show W.heap.size + 1 < w.heap.size by have := h.lt; omega)).trans h.gu, (hb.cell (p := ⟨W.heap.size + 1, 1, none⟩) (show W.heap.size + 1 < w.heap.size by have := h.lt; omega)).trans h.gv,
   (hb.block _ h.lt).trans h.res, Nat.lt_of_lt_of_le h.lt hb.size, h.bel.trans (hb.mono (by have := h.lt; omega))⟩
theorem Trip.start (W : World) (x y u v : Int) (ty : TypeId) : Trip W (((W.alloc (.cells #[.int .i64 x, .int .i64 y] ty)).alloc (.cells #[.int .i64 u, .int .i64 v] ty)).alloc (.cells #[.int .i64 0, .int .i64 0] ty)) x y u v ty := by
  have hb2 : Below (W.alloc (.cells #[.int .i64 x, .int .i64 y] ty)).heap.size (W.alloc (.cells #[.int .i64 x, .int .i64 y] ty)) (((W.alloc (.cells #[.int .i64 x, .int .i64 y] ty)).alloc (.cells #[.int .i64 u, .int .i64 v] ty)).alloc (.cells #[.int .i64 0, .int .i64 0] ty)) := ((Below.refl _ _).alloc (Nat.le_refl _) _).alloc (by simp) _
  have hb3 : Below ((W.alloc (.cells #[.int .i64 x, .int .i64 y] ty)).alloc (.cells #[.int .i64 u, .int .i64 v] ty)).heap.size ((W.alloc (.cells #[.int .i64 x, .int .i64 y] ty)).alloc (.cells #[.int .i64 u, .int .i64 v] ty)) (((W.alloc (.cells #[.int .i64 x, .int .i64 y] ty)).alloc (.cells #[.int .i64 u, .int .i64 v] ty)).alloc (.cells #[.int .i64 0, .int .i64 0] ty)) := (Below.refl _ _).alloc (Nat.le_refl _) _
  obtain ⟨u1, u2⟩ := pair_cells W (.int .i64 x) (.int .i64 y) ty
  obtain ⟨u3, u4⟩ := pair_cells (W.alloc (.cells #[.int .i64 x, .int .i64 y] ty)) (.int .i64 u) (.int .i64 v) ty
  have v3 := (hb3.cell (p := ⟨(W.alloc (.cells #[.int .i64 x, .int .i64 y] ty)).heap.size, 0, none⟩) (by simp)).trans u3
  have v4 := (hb3.cell (p := ⟨(W.alloc (.cells #[.int .i64 x, .int .i64 y] ty)).heap.size, 1, none⟩) (by simp)).trans u4
  rw [World.size_alloc] at v3 v4
  refine ⟨(hb2.cell (p := ⟨W.heap.size, 0, none⟩) (by simp)).trans u1, (hb2.cell (p := ⟨W.heap.size, 1, none⟩) (by simp)).trans u2, v3, v4, ?_, by simp, (((Below.refl _ _).alloc (Nat.le_refl _) _).alloc (by simp) _).alloc (by simp; omega) _⟩
  have := heap_alloc_new ((W.alloc (.cells #[.int .i64 x, .int .i64 y] ty)).alloc (.cells #[.int .i64 u, .int .i64 v] ty)) (.cells #[.int .i64 0, .int .i64 0] ty)
  simpa using this

set_option maxRecDepth 1000000 in
set_option maxHeartbeats 1000000 in
theorem plus_walk (p1 p2 q1 q2 g fc gc L A C Z r1 r2 : Nat) (W : World)
    (cG : Hid (∀ W', Calls Try.prog 65 #[.int .i64 (p2 : Int), .int .i64 (q2 : Int)] W' fun e w' => e = .returned (.int .i64 (g : Int)) ∧ ∃ n, w' = W'.drewN n))
    (cF : Hid (∀ W', Calls Try.prog 66 #[.int .i64 (Z : Int), .int .i64 (L : Int)] W' fun e w' => e = .returned (.agg #[.int .i64 (r1 : Int), .int .i64 (r2 : Int)]) ∧ Below W'.heap.size W' w'))
    (hg0 : 0 < g) (hq0 : 0 < q2) (hfL : fc ≤ 9000000000000000000) (hgL : gc ≤ 9000000000000000000) (hLL : L ≤ 9000000000000000000) (hAL : A ≤ 9000000000000000000) (hCL : C ≤ 9000000000000000000) (hZL : Z ≤ 9000000000000000000)
    (H1 : Hid ((q2 : Int).tdiv (g : Int) = (fc : Int))) (H2 : Hid ((p2 : Int) * (fc : Int) = (L : Int))) (H3 : Hid ((p1 : Int) * (fc : Int) = (A : Int))) (H4 : Hid ((L : Int).tdiv (q2 : Int) = (gc : Int))) (H5 : Hid ((q1 : Int) * (gc : Int) = (C : Int))) (H6 : Hid ((A : Int) + (C : Int) = (Z : Int))) :
    Calls Try.prog 37 #[.agg #[.int .i64 (p1 : Int), .int .i64 (p2 : Int)], .agg #[.int .i64 (q1 : Int), .int .i64 (q2 : Int)]] W fun e w' => e = .returned (.agg #[.int .i64 (r1 : Int), .int .i64 (r2 : Int)]) ∧ Below W.heap.size W w' := by
  have T0 := Lib.hid (Trip.start W (p1 : Int) (p2 : Int) (q1 : Int) (q2 : Int) 56)
  have w1 : IntKind.i64.wrap (fc : Int) = (fc : Int) := by rw [IntKind.wrap_i64]; omega
  have w3 : Hid (IntKind.i64.wrap ((p2 : Int) * (fc : Int)) = (L : Int)) := Lib.hid (by rw [H2.out, IntKind.wrap_i64]; omega)
  have w4 : Hid (IntKind.i64.wrap (gc : Int) = (gc : Int)) := Lib.hid (by rw [IntKind.wrap_i64]; omega)
  have w6 : Hid (IntKind.i64.wrap ((p1 : Int) * (fc : Int)) = (A : Int)) := Lib.hid (by rw [H3.out, IntKind.wrap_i64]; omega)
  have w7 : Hid (IntKind.i64.wrap ((q1 : Int) * (gc : Int)) = (C : Int)) := Lib.hid (by rw [H5.out, IntKind.wrap_i64]; omega)
  have w8 : Hid (IntKind.i64.wrap ((A : Int) + (C : Int)) = (Z : Int)) := Lib.hid (by rw [H6.out, IntKind.wrap_i64]; omega)
  have n1 : ¬ g = 0 := by omega
  have n1' : ¬ (g : Int) = 0 := by omega
  have b1 : ((g : Int) == 0) = false := by simp; omega
  have n2 : Hid (¬ q2 = 0) := Lib.hid (by omega)
  have n2' : Hid (¬ (q2 : Int) = 0) := Lib.hid (by omega)
  have b2 : Hid (((q2 : Int) == 0) = false) := Lib.hid (by simp; omega)
  clear hg0 hq0 hfL hgL hLL hAL hCL hZL
  go_enter Try.func37, Try.ntmps37
  go_wp2_with fail
  obtain ⟨W1, hW1⟩ : ∃ W1, ((W.alloc (.cells #[.int .i64 (p1 : Int), .int .i64 (p2 : Int)] 56)).alloc (.cells #[.int .i64 (q1 : Int), .int .i64 (q2 : Int)] 56)).alloc (.cells #[.int .i64 0, .int .i64 0] 56) = W1 := ⟨_, rfl⟩
  rw [hW1] at T0 ⊢
  clear hW1
  have c1 := T0.out.fx
  have c2 := T0.out.fy
  have c3 := T0.out.gu
  have c4 := T0.out.gv
  have e1 := H1.out
  go_quiet ((go_at_call 65; exact Calls.quiet_of (cG.out _)))
  have T1 := Lib.hid (T0.out.on (below_drewN (Below.refl _ _) nq))
  clear c1 c2 c3 c4 e1 w1 n1 n1' b1
  obtain ⟨W2, hW2⟩ : ∃ W2, W1.drewN nq = W2 := ⟨_, rfl⟩
  rw [hW2] at T1 ⊢
  clear hW2
  have c2 := T1.out.fy
  have w3 := w3.out
  go_wp2_with fail
  clear c2 w3
  have c1 := T1.out.fx
  have c3 := T1.out.gu
  have c4 := T1.out.gv
  have w4 := w4.out
  have w6 := w6.out
  have w7 := w7.out
  have w8 := w8.out
  have e2 := H4.out
  have n2 := n2.out
  have n2' := n2'.out
  have b2 := b2.out
  go_region_held3 (fun w' => w'.cell? ⟨W.heap.size, 0, none⟩ = some (.int .i64 (p1 : Int)) ∧ w'.cell? ⟨W.heap.size + 1, 0, none⟩ = some (.int .i64 (q1 : Int)) ∧ w'.cell? ⟨W.heap.size + 1, 1, none⟩ = some (.int .i64 (q2 : Int)))
    (first
      | exact ⟨c1, c3, c4⟩
      | exact ⟨T5.out.fx, T5.out.gu, T5.out.gv⟩
      | exact ⟨(far2 (show W.heap.size ≠ W.heap.size + 2 by omega)).trans T5.out.fx, (far2 (show W.heap.size + 1 ≠ W.heap.size + 2 by omega)).trans T5.out.gu, (far2 (show W.heap.size + 1 ≠ W.heap.size + 2 by omega)).trans T5.out.gv⟩)
    (first
      | (go_at_call 66; refine (cF.out _).mono ?_; rintro e w5 ⟨rfl, hb5⟩; have T5 := Lib.hid (T1.out.on (by exact (Below.refl _ _).drew.trans hb5)); obtain ⟨f1, f2, f3, f4⟩ := frozen_new2 T5.out.res))
  go_wp2_with fail
  have hE := pair_set (a' := .int .i64 (r1 : Int)) (b' := .int .i64 (r2 : Int)) T5.out.res
  have hB9 := pair_below (v1 := .int .i64 (r1 : Int)) (v2 := .int .i64 (r2 : Int)) T5.out.bel (show W.heap.size ≤ W.heap.size + 2 by omega)
  generalize ((w5.setCell ⟨W.heap.size + 2, 0, none⟩ (.int .i64 (r1 : Int))).setCell ⟨W.heap.size + 2, 1, none⟩ (.int .i64 (r2 : Int))) = W9 at *
  obtain ⟨hc0, hc1⟩ := hE
  exact bodyPost_ret (v := .agg #[.int .i64 (r1 : Int), .int .i64 (r2 : Int)]) (by simp [results, Try.results37, go_sem, hc0, hc1]) rfl ⟨rfl, hB9⟩

theorem plus_any (p q : Nat × Nat) (D : Nat) (W : World) (hp : 0 < p.2) (hq : 0 < q.2) (hD : 0 < D) (hpD : p.2 ∣ D) (hqD : q.2 ∣ D) (hDb : D ≤ 9000000000000000000) (hs : p.1 * (D / p.2) + q.1 * (D / q.2) ≤ 9000000000000000000) :
    Calls Try.prog 37 #[fv p, fv q] W fun e w' => e = .returned (fv (fadd p q)) ∧ Below W.heap.size W w' := by
  obtain ⟨p1, p2⟩ := p
  obtain ⟨q1, q2⟩ := q
  simp only at hp hq hpD hqD hs
  have HR := fadd_lcm (p := (p1, p2)) (q := (q1, q2)) hp hq
  simp only at HR
  obtain ⟨l1, l2, l3, l4, l5, l6⟩ := lcm_parts hp hq
  have hlD := lcm_le_of hD hpD hqD
  have hg0 : 0 < Nat.gcd p2 q2 := Nat.gcd_pos_of_pos_right _ hq
  have hA : p1 * (q2 / Nat.gcd p2 q2) ≤ p1 * (D / p2) := Nat.mul_le_mul_left _ (by rw [← l5]; exact Nat.div_le_div_right hlD)
  have hC : q1 * (p2 / Nat.gcd p2 q2) ≤ q1 * (D / q2) := Nat.mul_le_mul_left _ (by rw [← l4]; exact Nat.div_le_div_right hlD)
  have hfL : q2 / Nat.gcd p2 q2 ≤ q2 := Nat.div_le_self _ _
  have hgL : p2 / Nat.gcd p2 q2 ≤ p2 := Nat.div_le_self _ _
  have hp2 := Nat.le_of_dvd hD hpD
  have hq2 := Nat.le_of_dvd hD hqD
  obtain ⟨⟨r1, r2⟩, hr⟩ : ∃ r, fadd (p1, p2) (q1, q2) = r := ⟨_, rfl⟩
  have cF : ∀ W', Calls Try.prog 66 #[.int .i64 ((p1 * (q2 / Nat.gcd p2 q2) + q1 * (p2 / Nat.gcd p2 q2) : Nat) : Int), .int .i64 ((Nat.lcm p2 q2 : Nat) : Int)] W' fun e w' => e = .returned (fv (fadd (p1, p2) (q1, q2))) ∧ Below W'.heap.size W' w' := fun W' => by
    rw [← HR]
    exact fractionOf_any _ _ W' (Nat.le_trans (Nat.add_le_add hA hC) hs) (Nat.le_trans hlD hDb) l6
  rw [hr] at cF ⊢
  exact plus_walk p1 p2 q1 q2 (Nat.gcd p2 q2) (q2 / Nat.gcd p2 q2) (p2 / Nat.gcd p2 q2) (Nat.lcm p2 q2) (p1 * (q2 / Nat.gcd p2 q2)) (q1 * (p2 / Nat.gcd p2 q2)) (p1 * (q2 / Nat.gcd p2 q2) + q1 * (p2 / Nat.gcd p2 q2)) r1 r2 W
    (Lib.hid fun W' => commonDivisor_any p2 q2 W' (Nat.le_trans hp2 hDb) (Nat.le_trans hq2 hDb)) (Lib.hid cF) hg0 hq (Nat.le_trans hfL (Nat.le_trans hq2 hDb)) (Nat.le_trans hgL (Nat.le_trans hp2 hDb)) (Nat.le_trans hlD hDb)
    (Nat.le_trans hA (Nat.le_trans (Nat.le_add_right _ _) hs)) (Nat.le_trans hC (Nat.le_trans (Nat.le_add_left _ _) hs)) (Nat.le_trans (Nat.add_le_add hA hC) hs)
    (Lib.hid (tdiv_cast _ _)) (Lib.hid (by rw [← Int.natCast_mul, l1])) (Lib.hid (Int.natCast_mul _ _).symm) (Lib.hid (by rw [tdiv_cast, l4])) (Lib.hid (Int.natCast_mul _ _).symm) (Lib.hid (Int.natCast_add _ _).symm)

end Go.Proofs.Ytibdfhhbkbncgab
