import Derived.Test.YthjafoacnfgjhacFrD
import Derived.Deep.RegionHeld3
import Derived.Test.YthjafoacnfgjhacChs
import Derived.Test.YthjafoacnfgjhacGf
import Derived.Test.YthjafoacnfgjhacOwn
import Derived.Laws.StructEq
import Derived.ChangeKeysEq

/-
  The program's whole numbers, products and sums of fractions.
-/
namespace Go.Proofs.Ythjafoacnfgjhac
open Go.RowKit
set_option linter.unusedVariables false
set_option linter.unusedSimpArgs false

set_option maxRecDepth 1000000 in
set_option maxHeartbeats 1000000 in
theorem whole_any (x : Nat) (w : World) : Calls Try.prog 46 #[.int .i64 (x : Int)] w fun e w' => e = .returned (fv (x, 1)) ∧ Below w.heap.size w w' := by
  have HB1 : Hid (Below w.heap.size w (w.alloc (.cells #[.int .i64 0, .int .i64 0] 65))) := Lib.hid ((Below.refl _ _).alloc (Nat.le_refl _) _)
  have HH := Lib.hid (heap_alloc_new w (.cells #[.int .i64 0, .int .i64 0] 65))
  go_enter Try.func46, Try.ntmps46
  go_wp2_with fail
  have hn := heap_alloc_new w (.cells #[.int .i64 (x : Int), .int .i64 1] 65)
  obtain ⟨hc0, hc1⟩ := pair_cells w (.int .i64 (x : Int)) (.int .i64 1) 65
  have hb : Below w.heap.size w (w.alloc (.cells #[.int .i64 (x : Int), .int .i64 1] 65)) := (Below.refl _ _).alloc (Nat.le_refl _) _
  generalize w.alloc (.cells #[.int .i64 (x : Int), .int .i64 1] 65) = W9 at *
  exact bodyPost_ret (v := fv (x, 1)) (by simp [results, Try.results46, go_sem, hc0, hc1, fv]) rfl ⟨rfl, hb⟩

/-- three pairs that lie side by side behind an entry -/
structure Trip (W w : World) (x y u v : Int) (ty : TypeId) : Prop where
  fx : w.cell? ⟨W.heap.size, 0, none⟩ = some (.int .i64 x)
  fy : w.cell? ⟨W.heap.size, 1, none⟩ = some (.int .i64 y)
  gu : w.cell? ⟨W.heap.size + 1, 0, none⟩ = some (.int .i64 u)
  gv : w.cell? ⟨W.heap.size + 1, 1, none⟩ = some (.int .i64 v)
  res : w.heap[W.heap.size + 2]? = some (.cells #[.int .i64 0, .int .i64 0] ty)
  lt : W.heap.size + 2 < w.heap.size
  bel : Below W.heap.size W w
theorem Trip.on {W w w' : World} {x y u v : Int} {ty : TypeId} (h : Trip W w x y u v ty) (hb : Below w.heap.size w w') : Trip W w' x y u v ty :=
  ⟨(hb.cell (p := ⟨W.heap.size, 0, none⟩) (show W.heap.size < w.heap.size by have := h.lt; omega)).trans h.fx, (hb.cell (p := ⟨W.heap.size, 1, none⟩) (show W.heap.size < w.heap.size by have := h.lt; omega)).trans h.fy,
   (hb.cell (p := ⟨W.heap.size + 1, 0, none⟩) (show W.heap.size + 1 < w.heap.size by have := h.lt; omega)).trans h.gu, (hb.cell (p := ⟨W.heap.size + 1, 1, none⟩) (show W.heap.size + 1 < w.heap.size by have := h.lt; omega)).trans h.gv,
   (hb.block _ h.lt).trans h.res, Nat.lt_of_lt_of_le h.lt hb.size, h.bel.trans (hb.mono (by have := h.lt; omega))⟩
theorem Trip.start (W : World) (x y u v : Int) (ty : TypeId) : Trip W (((W.alloc (.cells #[.int .i64 x, .int .i64 y] ty)).alloc (.cells #[.int .i64 u, .int .i64 v] ty)).alloc (.cells #[.int .i64 0, .int .i64 0] ty)) x y u v ty := by
  have hb2 : Below (W.alloc (.cells #[.int .i64 x, .int .i64 y] ty)).heap.size (W.alloc (.cells #[.int .i64 x, .int .i64 y] ty)) (((W.alloc (.cells #[.int .i64 x, .int .i64 y] ty)).alloc (.cells #[.int .i64 u, .int .i64 v] ty)).alloc (.cells #[.int .i64 0, .int .i64 0] ty)) := ((Below.refl _ _).alloc (Nat.le_refl _) _).alloc (by simp) _
  have hb3 : Below ((W.alloc (.cells #[.int .i64 x, .int .i64 y] ty)).alloc (.cells #[.int .i64 u, .int .i64 v] ty)).heap.size ((W.alloc (.cells #[.int .i64 x, .int .i64 y] ty)).alloc (.cells #[.int .i64 u, .int .i64 v] ty)) (((W.alloc (.cells #[.int .i64 x, .int .i64 y] ty)).alloc (.cells #[.int .i64 u, .int .i64 v] ty)).alloc (.cells #[.int .i64 0, .int .i64 0] ty)) := (Below.refl _ _).alloc (Nat.le_refl _) _
  obtain ⟨u1, u2⟩ := pair_cells W (.int .i64 x) (.int .i64 y) ty
  obtain ⟨u3, u4⟩ := pair_cells (W.alloc (.cells #[.int .i64 x, .int .i64 y] ty)) (.int .i64 u) (.int .i64 v) ty
  have v3 := (hb3.cell (p := ⟨(W.alloc (.cells #[.int .i64 x, .int .i64 y] ty)).heap.size, 0, none⟩) (by simp)).trans u3
  have v4 := (hb3.cell (p := ⟨(W.alloc (.cells #[.int .i64 x, .int .i64 y] ty)).heap.size, 1, none⟩) (by simp)).trans u4
  rw [World.size_alloc] at v3 v4
  refine ⟨(hb2.cell (p := ⟨W.heap.size, 0, none⟩) (by simp)).trans u1, (hb2.cell (p := ⟨W.heap.size, 1, none⟩) (by simp)).trans u2, v3, v4, ?_, by simp, (((Below.refl _ _).alloc (Nat.le_refl _) _).alloc (by simp) _).alloc (by simp; omega) _⟩
  have := heap_alloc_new ((W.alloc (.cells #[.int .i64 x, .int .i64 y] ty)).alloc (.cells #[.int .i64 u, .int .i64 v] ty)) (.cells #[.int .i64 0, .int .i64 0] ty)
  simpa using this

set_option maxRecDepth 1000000 in
set_option maxHeartbeats 1000000 in
theorem plus_walk (p1 p2 q1 q2 g fc gc L A C Z r1 r2 : Nat) (W : World)
    (cG : Hid (∀ W', Calls Try.prog 71 #[.int .i64 (p2 : Int), .int .i64 (q2 : Int)] W' fun e w' => e = .returned (.int .i64 (g : Int)) ∧ ∃ n, w' = W'.drewN n))
    (cF : Hid (∀ W', Calls Try.prog 67 #[.int .i64 (Z : Int), .int .i64 (L : Int)] W' fun e w' => e = .returned (.agg #[.int .i64 (r1 : Int), .int .i64 (r2 : Int)]) ∧ Below W'.heap.size W' w'))
    (hg0 : 0 < g) (hq0 : 0 < q2) (hfL : fc ≤ 9000000000000000000) (hgL : gc ≤ 9000000000000000000) (hLL : L ≤ 9000000000000000000) (hAL : A ≤ 9000000000000000000) (hCL : C ≤ 9000000000000000000) (hZL : Z ≤ 9000000000000000000)
    (H1 : Hid ((q2 : Int).tdiv (g : Int) = (fc : Int))) (H2 : Hid ((p2 : Int) * (fc : Int) = (L : Int))) (H3 : Hid ((p1 : Int) * (fc : Int) = (A : Int))) (H4 : Hid ((L : Int).tdiv (q2 : Int) = (gc : Int))) (H5 : Hid ((q1 : Int) * (gc : Int) = (C : Int))) (H6 : Hid ((A : Int) + (C : Int) = (Z : Int))) :
    Calls Try.prog 47 #[.agg #[.int .i64 (p1 : Int), .int .i64 (p2 : Int)], .agg #[.int .i64 (q1 : Int), .int .i64 (q2 : Int)]] W fun e w' => e = .returned (.agg #[.int .i64 (r1 : Int), .int .i64 (r2 : Int)]) ∧ Below W.heap.size W w' := by
  have T0 := Lib.hid (Trip.start W (p1 : Int) (p2 : Int) (q1 : Int) (q2 : Int) 65)
  have w1 : IntKind.i64.wrap (fc : Int) = (fc : Int) := by rw [IntKind.wrap_i64]; omega
  have w3 : Hid (IntKind.i64.wrap ((p2 : Int) * (fc : Int)) = (L : Int)) := Lib.hid (by rw [H2.out, IntKind.wrap_i64]; omega)
  have w4 : Hid (IntKind.i64.wrap (gc : Int) = (gc : Int)) := Lib.hid (by rw [IntKind.wrap_i64]; omega)
  have w6 : Hid (IntKind.i64.wrap ((p1 : Int) * (fc : Int)) = (A : Int)) := Lib.hid (by rw [H3.out, IntKind.wrap_i64]; omega)
  have w7 : Hid (IntKind.i64.wrap ((q1 : Int) * (gc : Int)) = (C : Int)) := Lib.hid (by rw [H5.out, IntKind.wrap_i64]; omega)
  have w8 : Hid (IntKind.i64.wrap ((A : Int) + (C : Int)) = (Z : Int)) := Lib.hid (by rw [H6.out, IntKind.wrap_i64]; omega)
  have n1 : ¬ g = 0 := by omega
  have n1' : ¬ (g : Int) = 0 := by omega
  have b1 : ((g : Int) == 0) = false := by simp; omega
  have n2 : Hid (¬ q2 = 0) := Lib.hid (by omega)
  have n2' : Hid (¬ (q2 : Int) = 0) := Lib.hid (by omega)
  have b2 : Hid (((q2 : Int) == 0) = false) := Lib.hid (by simp; omega)
  clear hg0 hq0 hfL hgL hLL hAL hCL hZL
  go_enter Try.func47, Try.ntmps47
  go_wp2_with fail
  obtain ⟨W1, hW1⟩ : ∃ W1, ((W.alloc (.cells #[.int .i64 (p1 : Int), .int .i64 (p2 : Int)] 65)).alloc (.cells #[.int .i64 (q1 : Int), .int .i64 (q2 : Int)] 65)).alloc (.cells #[.int .i64 0, .int .i64 0] 65) = W1 := ⟨_, rfl⟩
  rw [hW1] at T0 ⊢
  clear hW1
  have c1 := T0.out.fx
  have c2 := T0.out.fy
  have c3 := T0.out.gu
  have c4 := T0.out.gv
  have e1 := H1.out
  go_quiet ((go_at_call 71; exact Calls.quiet_of (cG.out _)))
  have T1 := Lib.hid (T0.out.on (below_drewN (Below.refl _ _) nq))
  clear c1 c2 c3 c4 e1 w1 n1 n1' b1
  obtain ⟨W2, hW2⟩ : ∃ W2, W1.drewN nq = W2 := ⟨_, rfl⟩
  rw [hW2] at T1 ⊢
  clear hW2
  have c2 := T1.out.fy
  have w3 := w3.out
  go_wp2_with fail
  clear c2 w3
  have c1 := T1.out.fx
  have c3 := T1.out.gu
  have c4 := T1.out.gv
  have w4 := w4.out
  have w6 := w6.out
  have w7 := w7.out
  have w8 := w8.out
  have e2 := H4.out
  have n2 := n2.out
  have n2' := n2'.out
  have b2 := b2.out
  go_region_held3 (fun w' => w'.cell? ⟨W.heap.size, 0, none⟩ = some (.int .i64 (p1 : Int)) ∧ w'.cell? ⟨W.heap.size + 1, 0, none⟩ = some (.int .i64 (q1 : Int)) ∧ w'.cell? ⟨W.heap.size + 1, 1, none⟩ = some (.int .i64 (q2 : Int)))
    (first
      | exact ⟨c1, c3, c4⟩
      | exact ⟨T5.out.fx, T5.out.gu, T5.out.gv⟩
      | exact ⟨(far2 (show W.heap.size ≠ W.heap.size + 2 by omega)).trans T5.out.fx, (far2 (show W.heap.size + 1 ≠ W.heap.size + 2 by omega)).trans T5.out.gu, (far2 (show W.heap.size + 1 ≠ W.heap.size + 2 by omega)).trans T5.out.gv⟩)
    (first
      | (go_at_call 67; refine (cF.out _).mono ?_; rintro e w5 ⟨rfl, hb5⟩; have T5 := Lib.hid (T1.out.on (by exact (Below.refl _ _).drew.trans hb5)); obtain ⟨f1, f2, f3, f4⟩ := frozen_new2 T5.out.res))
  go_wp2_with fail
  have hE := pair_set (a' := .int .i64 (r1 : Int)) (b' := .int .i64 (r2 : Int)) T5.out.res
  have hB9 := pair_below (v1 := .int .i64 (r1 : Int)) (v2 := .int .i64 (r2 : Int)) T5.out.bel (show W.heap.size ≤ W.heap.size + 2 by omega)
  generalize ((w5.setCell ⟨W.heap.size + 2, 0, none⟩ (.int .i64 (r1 : Int))).setCell ⟨W.heap.size + 2, 1, none⟩ (.int .i64 (r2 : Int))) = W9 at *
  obtain ⟨hc0, hc1⟩ := hE
  exact bodyPost_ret (v := .agg #[.int .i64 (r1 : Int), .int .i64 (r2 : Int)]) (by simp [results, Try.results47, go_sem, hc0, hc1]) rfl ⟨rfl, hB9⟩

theorem plus_any (p q : Nat × Nat) (D : Nat) (W : World) (hp : 0 < p.2) (hq : 0 < q.2) (hD : 0 < D) (hpD : p.2 ∣ D) (hqD : q.2 ∣ D) (hDb : D ≤ 9000000000000000000) (hs : p.1 * (D / p.2) + q.1 * (D / q.2) ≤ 9000000000000000000) :
    Calls Try.prog 47 #[fv p, fv q] W fun e w' => e = .returned (fv (fadd p q)) ∧ Below W.heap.size W w' := by
  obtain ⟨p1, p2⟩ := p
  obtain ⟨q1, q2⟩ := q
  simp only at hp hq hpD hqD hs
  have HR := fadd_lcm (p := (p1, p2)) (q := (q1, q2)) hp hq
  simp only at HR
  obtain ⟨l1, l2, l3, l4, l5, l6⟩ := lcm_parts hp hq
  have hlD := lcm_le_of hD hpD hqD
  have hg0 : 0 < Nat.gcd p2 q2 := Nat.gcd_pos_of_pos_right _ hq
  have hA : p1 * (q2 / Nat.gcd p2 q2) ≤ p1 * (D / p2) := Nat.mul_le_mul_left _ (by rw [← l5]; exact Nat.div_le_div_right hlD)
  have hC : q1 * (p2 / Nat.gcd p2 q2) ≤ q1 * (D / q2) := Nat.mul_le_mul_left _ (by rw [← l4]; exact Nat.div_le_div_right hlD)
  have hfL : q2 / Nat.gcd p2 q2 ≤ q2 := Nat.div_le_self _ _
  have hgL : p2 / Nat.gcd p2 q2 ≤ p2 := Nat.div_le_self _ _
  have hp2 := Nat.le_of_dvd hD hpD
  have hq2 := Nat.le_of_dvd hD hqD
  obtain ⟨⟨r1, r2⟩, hr⟩ : ∃ r, fadd (p1, p2) (q1, q2) = r := ⟨_, rfl⟩
  have cF : ∀ W', Calls Try.prog 67 #[.int .i64 ((p1 * (q2 / Nat.gcd p2 q2) + q1 * (p2 / Nat.gcd p2 q2) : Nat) : Int), .int .i64 ((Nat.lcm p2 q2 : Nat) : Int)] W' fun e w' => e = .returned (fv (fadd (p1, p2) (q1, q2))) ∧ Below W'.heap.size W' w' := fun W' => by
    rw [← HR]
    exact fractionOf_any _ _ W' (Nat.le_trans (Nat.add_le_add hA hC) hs) (Nat.le_trans hlD hDb) l6
  rw [hr] at cF ⊢
  exact plus_walk p1 p2 q1 q2 (Nat.gcd p2 q2) (q2 / Nat.gcd p2 q2) (p2 / Nat.gcd p2 q2) (Nat.lcm p2 q2) (p1 * (q2 / Nat.gcd p2 q2)) (q1 * (p2 / Nat.gcd p2 q2)) (p1 * (q2 / Nat.gcd p2 q2) + q1 * (p2 / Nat.gcd p2 q2)) r1 r2 W
    (Lib.hid fun W' => commonDivisor_any p2 q2 W' (Nat.le_trans hp2 hDb) (Nat.le_trans hq2 hDb)) (Lib.hid cF) hg0 hq (Nat.le_trans hfL (Nat.le_trans hq2 hDb)) (Nat.le_trans hgL (Nat.le_trans hp2 hDb)) (Nat.le_trans hlD hDb)
    (Nat.le_trans hA (Nat.le_trans (Nat.le_add_right _ _) hs)) (Nat.le_trans hC (Nat.le_trans (Nat.le_add_left _ _) hs)) (Nat.le_trans (Nat.add_le_add hA hC) hs)
    (Lib.hid (tdiv_cast _ _)) (Lib.hid (by rw [← Int.natCast_mul, l1])) (Lib.hid (Int.natCast_mul _ _).symm) (Lib.hid (by rw [tdiv_cast, l4])) (Lib.hid (Int.natCast_mul _ _).symm) (Lib.hid (Int.natCast_add _ _).symm)

end Go.Proofs.Ythjafoacnfgjhac

/-
  The chance that a descent stops at a node: the program.
-/
namespace Go.Proofs.Ythjafoacnfgjhac
open Go.RowKit
set_option linter.unusedVariables false
set_option linter.unusedSimpArgs false

theorem pair_heap {W : World} {s : Nat} {a b a' b' : Value} {e : TypeId} (h : W.heap[s]? = some (.cells #[a, b] e)) :
    ((W.setCell ⟨s, 0, none⟩ a').setCell ⟨s, 1, none⟩ b').heap[s]? = some (.cells #[a', b'] e) := by
  simp [World.setCell, Array.getElem?_modify, h]

/-- one step up -/
theorem wq_up {t : List Nd} {ps : List Txt} (hv : Valid t ps) {i acc tot : Nat} (hi : i < t.length) (htot : 0 < tot) (h : acc * wqi t (i : Int) = tot) : acc * chI t i * wqi t (paI t i) = tot ∧ acc * chI t i ≤ tot ∧ 0 < chI t i := by
  rw [wqi_step hv.tells hi, ← Nat.mul_assoc] at h
  refine ⟨h, ?_, ?_⟩
  · exact Nat.le_of_dvd htot ⟨_, h.symm⟩
  · apply Nat.pos_of_ne_zero
    intro e
    rw [e] at h
    simp at h
    omega

set_option maxRecDepth 1000000 in
set_option maxHeartbeats 2000000 in
theorem stopChance_any (t : List Nd) (ps : List Txt) (n c i : Nat) (hv : Valid t ps) (hw : 0 < (wds t ps).length) (hi : i < n) (W : World) (a : Option Addr) (h : Nds W.heap.size W a n c t) :
    Calls Try.prog 37 #[.agg #[.slice a n c], .int .i64 (i : Int)] W fun e w' => e = .returned (fv (1, wqi t (i : Int))) ∧ Below W.heap.size W w' := by
  have G0 := Lib.hid (Gf.start 65 h)
  have HL := Lib.hid h.len
  have C := h.cap
  have hn481 : n ≤ 481 := by have := hv.size; have := h.len; omega
  obtain ⟨ht0, htb, _⟩ := wqi_bound hv hw (i := i) (by rw [h.len]; exact hi)
  obtain ⟨tot, htot⟩ : ∃ tot, wqi t (i : Int) = tot := ⟨_, rfl⟩
  have HT := Lib.hid htot
  rw [htot] at ht0 htb ⊢
  have HUp := Lib.hid (fun (k acc : Nat) (hk : k < n) (hh : acc * wqi t (k : Int) = tot) => wq_up hv (by rw [HL.out]; exact hk) ht0 hh)
  have HPa := Lib.hid (fun (k : Nat) (hk : k < n) => paI_lt hv.tells (i := k) (by rw [HL.out]; exact hk))
  have HEnd := Lib.hid (wqi_end t (p := -1) (by omega))
  have cW := Lib.hid (fun W' => whole_any 1 W')
  have cC := Lib.hid (fun (k : Nat) (hk : k < n) W' (G : Gf 65 1 W W' a n c t) => choicesI_any W.heap.size a n c k t ps W' (Nat.le_of_lt G.size) G.nds (by omega) hv.tells hk)
  have cD := Lib.hid (fun (acc ch : Nat) (hb : acc * ch ≤ tot) (h0 : 0 < acc) (h1 : 0 < ch) W' => dividedBy_any (1, acc) ch W' (by simp) (by simp only; omega) h0 h1)
  simp only [fra_one, fv_mk] at cW cD
  clear htot h hv
  go_enter Try.func37, Try.ntmps37
  go_wp2_with fail
  obtain ⟨W1, hW1⟩ : ∃ W1, (W.alloc (.cells #[.slice a n c] 38)).alloc (.cells #[.int .i64 0, .int .i64 0] 65) = W1 := ⟨_, rfl⟩
  rw [hW1] at G0 ⊢
  clear hW1
  refine (cW.out _).mono ?_
  rintro e w2 ⟨rfl, hb2⟩
  have G2 := Lib.hid (G0.out.on hb2)
  have HB3 : Hid (Below w2.heap.size w2 (w2.alloc (.cells #[.int .i64 1, .int .i64 1] 65))) := Lib.hid ((Below.refl _ _).alloc (Nat.le_refl _) _)
  have G3 := Lib.hid (G2.out.on HB3.out)
  have HE3 := Lib.hid (heap_alloc_new w2 (.cells #[.int .i64 1, .int .i64 1] 65))
  have hez : w2.heap.size < (w2.alloc (.cells #[.int .i64 1, .int .i64 1] 65)).heap.size := by simp
  have hes : W.heap.size + 1 < w2.heap.size := G2.out.lt
  clear hb2
  go_wp2_with fail
  obtain ⟨W3, hW3⟩ : ∃ W3, w2.alloc (.cells #[.int .i64 1, .int .i64 1] 65) = W3 := ⟨_, rfl⟩
  rw [hW3] at G3 HE3 hez ⊢
  clear hW3 HB3
  obtain ⟨E, hE⟩ : ∃ E, w2.heap.size = E := ⟨_, rfl⟩
  rw [hE] at HE3 hez hes ⊢
  clear hE G2 G0
  go_loopw [1] (fun p wr => ∃ (z : Int) (acc : Nat), p = .int .i64 z ∧ -1 ≤ z ∧ z < n ∧ 0 < acc ∧ acc ≤ tot ∧ Hid (acc * wqi t z = tot) ∧ Hid (wr.heap[E]? = some (.cells #[.int .i64 1, .int .i64 (acc : Int)] 65)) ∧ Hid (Gf 65 1 W wr a n c t) ∧ E < wr.heap.size) (fun p _ => (intOf p + 1).toNat)
  case atStart => exact ⟨i, 1, rfl, by omega, by omega, by omega, by omega, Lib.hid (by rw [Nat.one_mul]; exact HT.out), HE3, G3, hez⟩
  case round =>
    obtain ⟨z, acc, rfl, hz1, hzn, ha0, hab, HA, HEr, Gr, hEr⟩ := hrel
    by_cases hz : z = -1
    · subst hz
      have HAt : Hid (acc = tot) := Lib.hid (by have := HA.out; rwa [HEnd.out, Nat.mul_one] at this)
      obtain ⟨u1, u2, _, _⟩ := frozen_new2 HEr.out
      have hnz : ((-1 : Int) != -1) = false := by decide
      obtain ⟨f1, f2, f3, f4⟩ := Gr.out.open
      obtain ⟨hE9, hB9⟩ := Gr.out.end' (.int .i64 1) (.int .i64 (acc : Int))
      have HE9 := Lib.hid hE9
      have HB9 := Lib.hid hB9
      clear hE9 hB9
      go_wp2_with fail
      rename World => wq
      generalize ((wq.setCell ⟨W.heap.size + 1, 0, none⟩ (.int .i64 1)).setCell ⟨W.heap.size + 1, 1, none⟩ (.int .i64 (acc : Int))) = W9 at *
      obtain ⟨hc0, hc1⟩ := HE9.out
      exact bodyPost_ret (v := fv (1, acc)) (by simp [results, Try.results37, go_sem, hc0, hc1, fv]) rfl ⟨by rw [HAt.out], HB9.out⟩
    · obtain ⟨k, rfl⟩ : ∃ k : Nat, z = (k : Int) := ⟨z.toNat, by omega⟩
      have hkn : k < n := by omega
      obtain ⟨hU1, hU2, hU3⟩ := HUp.out k acc hkn HA.out
      obtain ⟨hP1, hP2⟩ := HPa.out k hkn
      have cC1 := Lib.hid (cC.out k hkn)
      have cD1 := Lib.hid (cD.out acc (chI t k) hU2 ha0 hU3)
      have ha2 : 0 < acc * chI t k := Nat.mul_pos ha0 hU3
      obtain ⟨ch, hch⟩ : ∃ ch, chI t k = ch := ⟨_, rfl⟩
      rw [hch] at hU1 hU2 cC1 cD1 ha2
      obtain ⟨ac2, hac2⟩ : ∃ ac2, acc * ch = ac2 := ⟨_, rfl⟩
      rw [hac2] at hU1 hU2 cD1 ha2
      have HU1 := Lib.hid hU1
      obtain ⟨pz, hpz⟩ : ∃ pz, paI t k = pz := ⟨_, rfl⟩
      rw [hpz] at hP1 hP2 HU1
      have HPz := Lib.hid hpz
      have hnz : ((k : Int) != -1) = true := by first | (simp; done) | (simp; omega)
      have hnz2 : ¬ (k : Int) = -1 := by omega
      obtain ⟨c1, c2, _, _⟩ := frozen_new2 HEr.out
      have c3 := Gr.out.box
      have hE2 : E ≠ W.heap.size := by omega
      rename World => wq
      clear hU1 hch hac2 hpz hU3
      go_wp2_with fail
      go_region_with (first
        | (go_at_call 62; refine (cC1.out _ (by first | exact Gr.out.on ((Below.refl _ _).drew) | exact Gr.out)).mono ?_; rintro e w5 ⟨rfl, hb5⟩; have G5 := Lib.hid (Gr.out.on (by exact (Below.refl _ _).drew.trans hb5)); have hE5 : E < w5.heap.size := Nat.lt_of_lt_of_le hEr hb5.size; have c4 := (hb5.cell (p := ⟨E, 0, none⟩) hEr).trans c1; have c5 := (hb5.cell (p := ⟨E, 1, none⟩) hEr).trans c2; have c6 := G5.out.box)
        | (go_at_call 61; refine (cD1.out _).mono ?_; rintro e w6 ⟨rfl, hb6⟩; have G6 := Lib.hid (G5.out.on hb6); have hE6 : E < w6.heap.size := Nat.lt_of_lt_of_le hE5 hb6.size; have hH6 := (hb6.block E hE5).trans ((hb5.block E hEr).trans HEr.out); obtain ⟨f1, f2, f3, f4⟩ := frozen_new2 hH6))
      all_goals
        have hWh := pair_heap (a' := .int .i64 1) (b' := .int .i64 (ac2 : Int)) hH6
        have hWb : Below (W.heap.size + 1 + 1) w6 ((w6.setCell ⟨E, 0, none⟩ (.int .i64 1)).setCell ⟨E, 1, none⟩ (.int .i64 (ac2 : Int))) := pair_below (Below.refl _ _) (by omega)
        have hWz : E < ((w6.setCell ⟨E, 0, none⟩ (.int .i64 1)).setCell ⟨E, 1, none⟩ (.int .i64 (ac2 : Int))).heap.size := Nat.lt_of_lt_of_le hE6 hWb.size
        have G7 := Lib.hid (G6.out.on2 hWb)
        have HWh := Lib.hid hWh
        have hbx := G7.out.box
        obtain ⟨b, o, l, p, e1, rfl, hb1, hd1, hl1, hp1, hc1, hc2, hc3⟩ := G7.out.nds.elem k hkn
        have hpp : Hid (p = pz) := Lib.hid (by rw [← HPz.out, paI_at hd1])
        have hi0 : (0 : Int) ≤ (k : Int) := by omega
        have hi1 : (k : Int) < (n : Int) := by omega
        clear hWh hWb c1 c2 c3 c4 c5 c6 f1 f2 f3 f4 hd1 hb5 hb6
        obtain ⟨w7, hw7⟩ : ∃ w7, (w6.setCell ⟨E, 0, none⟩ (.int .i64 1)).setCell ⟨E, 1, none⟩ (.int .i64 (ac2 : Int)) = w7 := ⟨_, rfl⟩
        rw [hw7] at HWh G7 hbx hc1 hc2 hc3 hWz ⊢
        clear hw7
        go_wp2_with fail
        go_roundw
        case rel => exact ⟨pz, ac2, by rw [hpp.out], hP1, by omega, ha2, hU2, HU1, HWh, G7, hWz⟩
        case measure => simp [intOf, hpp.out]; omega

end Go.Proofs.Ythjafoacnfgjhac

/-
  The first greatest fraction of a list: the program.
-/
namespace Go.Proofs.Ythjafoacnfgjhac
open Go.RowKit
set_option linter.unusedVariables false
set_option linter.unusedSimpArgs false

theorem pair_heapG {W : World} {s : Nat} {a b a' b' : Value} {e : TypeId} (h : W.heap[s]? = some (.cells #[a, b] e)) :
    ((W.setCell ⟨s, 0, none⟩ a').setCell ⟨s, 1, none⟩ b').heap[s]? = some (.cells #[a', b'] e) := by
  simp [World.setCell, Array.getElem?_modify, h]
theorem pair_otherG {W : World} {s s' : Nat} {a' b' : Value} (h : s' ≠ s) : ((W.setCell ⟨s, 0, none⟩ a').setCell ⟨s, 1, none⟩ b').heap[s']? = W.heap[s']? := by
  rw [Below.heap_setCell _ _ _ _ (by exact h), Below.heap_setCell _ _ _ _ (by exact h)]

/-- the comparison of two numbers -/
def cmn (a b : Int) : Int := if a < b then -1 else if b < a then 1 else 0

set_option maxRecDepth 1000000 in
set_option maxHeartbeats 1000000 in
theorem isNaN_any (a : Int) (w : World) : Calls Try.prog 90 #[.int .i64 a] w fun e w' => e = .returned (.bool false) ∧ w' = w := by
  have h : ((a : Int) != a) = false := by simp
  go_enter Try.func90, Try.ntmps90
  go_wp2
  go_ret
  exact ⟨rfl, rfl⟩

set_option maxRecDepth 1000000 in
set_option maxHeartbeats 1000000 in
theorem compareN_any (a b : Int) (w : World) : Calls Try.prog 76 #[.int .i64 a, .int .i64 b] w fun e w' => e = .returned (.int .i64 (cmn a b)) ∧ w' = w := by
  have cN := Lib.hid isNaN_any
  have HC : Hid (cmn a b = if a < b then -1 else if b < a then 1 else 0) := Lib.hid rfl
  obtain ⟨r, hr⟩ : ∃ r, cmn a b = r := ⟨_, rfl⟩
  rw [hr] at HC ⊢
  clear hr
  go_enter Try.func76, Try.ntmps76
  go_wp2_with fail
  refine (cN.out _ _).mono ?_
  rintro e w1 ⟨rfl, rfl⟩
  go_wp2_with fail
  refine (cN.out _ _).mono ?_
  rintro e w2 ⟨rfl, rfl⟩
  by_cases h1 : a < b
  · have d1 : decide (a < b) = true := decide_eq_true h1
    obtain rfl : r = -1 := by rw [HC.out, if_pos h1]
    go_wp2_with fail
    go_ret
    exact ⟨rfl, rfl⟩
  · have d1 : decide (a < b) = false := decide_eq_false h1
    by_cases h2 : b < a
    · have d2 : decide (b < a) = true := decide_eq_true h2
      obtain rfl : r = 1 := by rw [HC.out, if_neg h1, if_pos h2]
      go_wp2_with fail
      go_ret
      exact ⟨rfl, rfl⟩
    · have d2 : decide (b < a) = false := decide_eq_false h2
      obtain rfl : r = 0 := by rw [HC.out, if_neg h1, if_neg h2]
      go_wp2_with fail
      go_ret
      exact ⟨rfl, rfl⟩

set_option maxRecDepth 1000000 in
set_option maxHeartbeats 1000000 in
theorem compareFr_any (p q : Nat × Nat) (hb1 : p.1 * q.2 ≤ 9000000000000000000) (hb2 : q.1 * p.2 ≤ 9000000000000000000) (w : World) :
    Calls Try.prog 64 #[fv p, fv q] w fun e w' => e = .returned (.int .i64 (cmn ((p.1 * q.2 : Nat) : Int) ((q.1 * p.2 : Nat) : Int))) ∧ Below w.heap.size w w' := by
  obtain ⟨p1, p2⟩ := p
  obtain ⟨q1, q2⟩ := q
  simp only at hb1 hb2 ⊢
  have m1 : (p1 : Int) * (q2 : Int) = ((p1 * q2 : Nat) : Int) := by rw [Int.natCast_mul]
  have m2 : (q1 : Int) * (p2 : Int) = ((q1 * p2 : Nat) : Int) := by rw [Int.natCast_mul]
  obtain ⟨A, hA⟩ : ∃ A, p1 * q2 = A := ⟨_, rfl⟩
  obtain ⟨C, hC⟩ : ∃ C, q1 * p2 = C := ⟨_, rfl⟩
  rw [hA] at m1 hb1 ⊢
  rw [hC] at m2 hb2 ⊢
  have w1 : IntKind.i64.wrap ((p1 : Int) * (q2 : Int)) = (A : Int) := by rw [m1, IntKind.wrap_i64]; omega
  have w2 : IntKind.i64.wrap ((q1 : Int) * (p2 : Int)) = (C : Int) := by rw [m2, IntKind.wrap_i64]; omega
  have HB1 : Hid (Below w.heap.size w ((w.alloc (.cells #[.int .i64 (p1 : Int), .int .i64 (p2 : Int)] 65)).alloc (.cells #[.int .i64 (q1 : Int), .int .i64 (q2 : Int)] 65))) := Lib.hid (((Below.refl _ _).alloc (Nat.le_refl _) _).alloc (by simp) _)
  have cC := Lib.hid (fun W' => compareN_any (A : Int) (C : Int) W')
  obtain ⟨r, hr⟩ : ∃ r, cmn (A : Int) (C : Int) = r := ⟨_, rfl⟩
  rw [hr] at cC ⊢
  clear hA hC hr
  simp only [fv_mk]
  go_enter Try.func64, Try.ntmps64
  go_wp2_with fail
  refine (cC.out _).mono ?_
  rintro e w3 ⟨rfl, rfl⟩
  go_wp2_with fail
  go_ret
  exact ⟨rfl, HB1.out⟩

/-- a row of fractions -/
structure FRow (B : Nat) (W : World) (g m : Nat) (l : List (Nat × Nat)) : Prop where
  len : l.length = m
  lt : g < B
  at' : ∀ (i : Nat) (p : Nat × Nat), l[i]? = some p → W.cell? ⟨g, i * 2, none⟩ = some (.int .i64 (p.1 : Int)) ∧ W.cell? ⟨g, i * 2 + 1, none⟩ = some (.int .i64 (p.2 : Int))
theorem FRow.keep {B : Nat} {W W' : World} {g m : Nat} {l : List (Nat × Nat)} (h : FRow B W g m l) (hb : Below B W W') : FRow B W' g m l :=
  ⟨h.len, h.lt, fun i p hp => ⟨(hb.cell (p := ⟨g, i * 2, none⟩) h.lt).trans (h.at' i p hp).1, (hb.cell (p := ⟨g, i * 2 + 1, none⟩) h.lt).trans (h.at' i p hp).2⟩⟩

/-- the greater of two fractions, the first one of two that are the same -/
def grp (p q : Nat × Nat) : Nat × Nat := if p.1 * q.2 < q.1 * p.2 then q else p
/-- the first greatest of the first fractions of a list -/
def grt (l : List (Nat × Nat)) : Nat → Nat × Nat
  | 0 => l.getD 0 (0, 1)
  | t + 1 => grp (grt l t) (l.getD (t + 1) (0, 1))
theorem grt_mem {l : List (Nat × Nat)} : ∀ {t : Nat}, t < l.length → grt l t ∈ l
  | 0, h => by simp only [grt]; rw [List.getD_eq_getElem?_getD, List.getElem?_eq_getElem h]; exact List.getElem_mem _
  | t + 1, h => by
    simp only [grt, grp]
    split
    · rw [List.getD_eq_getElem?_getD, List.getElem?_eq_getElem h]; exact List.getElem_mem _
    · exact grt_mem (by omega)

set_option maxRecDepth 1000000 in
set_option maxHeartbeats 2000000 in
theorem maxFr_any (B g m c : Nat) (l : List (Nat × Nat)) (w : World) (hB : B ≤ w.heap.size) (hl : FRow B w g m l) (hm0 : 0 < m) (hmc : m ≤ c) (hc : c ≤ 9223372036854775807) (hbd : ∀ p ∈ l, ∀ q ∈ l, p.1 * q.2 ≤ 9000000000000000000) :
    Calls Try.prog 63 #[.slice (some ⟨g, 0, none⟩) m c, .func (.func 64) #[] #[]] w fun e w' => e = .returned (fv (grt l (m - 1))) ∧ Below w.heap.size w w' := by
  have HL := Lib.hid hl.len
  have HRw := Lib.hid hl
  have HBs := Lib.hid hB
  have HB1 : Hid (Below w.heap.size w (w.alloc (.cells #[.int .i64 0, .int .i64 0] 65))) := Lib.hid ((Below.refl _ _).alloc (Nat.le_refl _) _)
  have HR1 := Lib.hid (heap_alloc_new w (.cells #[.int .i64 0, .int .i64 0] 65))
  have hz1 : w.heap.size < (w.alloc (.cells #[.int .i64 0, .int .i64 0] 65)).heap.size := by simp
  have cC := Lib.hid (fun (p q : Nat × Nat) (h1 : p ∈ l) (h2 : q ∈ l) W' => compareFr_any p q (hbd p h1 q h2) (hbd q h2 p h1) W')
  obtain ⟨p0, hp0⟩ : ∃ p0, l[0]? = some p0 := ⟨_, List.getElem?_eq_getElem (by rw [hl.len]; exact hm0)⟩
  have HG0 : Hid (grt l 0 = p0) := Lib.hid (by simp [grt, List.getD, hp0])
  obtain ⟨c1, c2⟩ := (hl.keep (HB1.out.mono hB)).at' 0 p0 hp0
  obtain ⟨x0, y0⟩ := p0
  simp only [Nat.zero_mul, Nat.zero_add] at c1 c2
  have HGm : Hid (∀ t, t < m → grt l t ∈ l) := Lib.hid (fun t ht => grt_mem (by rw [hl.len]; exact ht))
  clear hl hB hbd hp0
  have hnm : ¬ (m : Int) < 1 := by omega
  have hdm : decide ((m : Int) < 1) = false := decide_eq_false hnm
  have hm0i : (0 : Int) < (m : Int) := by omega
  go_enter Try.func63, Try.ntmps63
  go_wp2_with fail
  have hb2 : Below (w.alloc (.cells #[.int .i64 0, .int .i64 0] 65)).heap.size (w.alloc (.cells #[.int .i64 0, .int .i64 0] 65)) ((w.alloc (.cells #[.int .i64 0, .int .i64 0] 65)).alloc (.cells #[.int .i64 (x0 : Int), .int .i64 (y0 : Int)] 65)) := (Below.refl _ _).alloc (Nat.le_refl _) _
  have A1 : Hid (Below w.heap.size w ((w.alloc (.cells #[.int .i64 0, .int .i64 0] 65)).alloc (.cells #[.int .i64 (x0 : Int), .int .i64 (y0 : Int)] 65))) := Lib.hid (HB1.out.trans (hb2.mono (by simp)))
  have A2 := Lib.hid ((hb2.block _ hz1).trans HR1.out)
  have A3 : Hid (((w.alloc (.cells #[.int .i64 0, .int .i64 0] 65)).alloc (.cells #[.int .i64 (x0 : Int), .int .i64 (y0 : Int)] 65)).heap[w.heap.size + 1]? = some (.cells #[.int .i64 (x0 : Int), .int .i64 (y0 : Int)] 65)) := Lib.hid (by
    have := heap_alloc_new (w.alloc (.cells #[.int .i64 0, .int .i64 0] 65)) (.cells #[.int .i64 (x0 : Int), .int .i64 (y0 : Int)] 65)
    simpa using this)
  have hz5 : w.heap.size + 1 < ((w.alloc (.cells #[.int .i64 0, .int .i64 0] 65)).alloc (.cells #[.int .i64 (x0 : Int), .int .i64 (y0 : Int)] 65)).heap.size := by simp
  obtain ⟨W1, hW1⟩ : ∃ W1, (w.alloc (.cells #[.int .i64 0, .int .i64 0] 65)).alloc (.cells #[.int .i64 (x0 : Int), .int .i64 (y0 : Int)] 65) = W1 := ⟨_, rfl⟩
  rw [hW1] at A1 A2 A3 hz5 ⊢
  clear hW1 hb2 HB1 HR1 hz1 c1 c2 hnm hdm
  go_loopw [6] (fun i wr => ∃ (j : Nat) (p : Nat × Nat), 1 ≤ j ∧ j ≤ m ∧ i = .int .i64 j ∧ Hid (grt l (j - 1) = p) ∧ Hid (wr.heap[w.heap.size + 1]? = some (.cells #[.int .i64 (p.1 : Int), .int .i64 (p.2 : Int)] 65)) ∧ Hid (wr.heap[w.heap.size]? = some (.cells #[.int .i64 0, .int .i64 0] 65)) ∧ Hid (Below w.heap.size w wr) ∧ w.heap.size + 1 < wr.heap.size) (fun i _ => m - (intOf i).toNat)
  case atStart => exact ⟨1, (x0, y0), by omega, by omega, rfl, HG0, A3, A2, A1, hz5⟩
  case round =>
    obtain ⟨j, ⟨p1, p2⟩, hj1, hj, rfl, HG, HE, HR, HB, hzr⟩ := hrel
    rename World => wq
    obtain ⟨e1, e2, _, _⟩ := frozen_new2 HE.out
    simp only at e1 e2
    by_cases hlj : j < m
    · obtain ⟨q, hq⟩ : ∃ q, l[j]? = some q := ⟨_, List.getElem?_eq_getElem (by rw [HL.out]; exact hlj)⟩
      obtain ⟨c1, c2⟩ := (HRw.out.keep (HB.out.mono HBs.out)).at' j q hq
      have hpm : (p1, p2) ∈ l := by rw [← HG.out]; exact HGm.out (j - 1) (by omega)
      have hqm : q ∈ l := List.mem_of_getElem? hq
      have HN : Hid (grt l j = grp (p1, p2) q) := Lib.hid (by
        obtain ⟨i, rfl⟩ : ∃ i, j = i + 1 := ⟨j - 1, by omega⟩
        simp only [Nat.add_sub_cancel] at HG
        simp only [grt, HG.out, List.getD, hq, Option.getD_some])
      have cC1 := cC.out q (p1, p2) hqm hpm
      have hgl := HRw.out.lt
      obtain ⟨q1, q2⟩ := q
      simp only [fv_mk] at cC1 c1 c2
      have HDec : Hid (grp (p1, p2) (q1, q2) = if p1 * q2 < q1 * p2 then (q1, q2) else (p1, p2)) := Lib.hid rfl
      have hcmp : cmn ((q1 * p2 : Nat) : Int) ((p1 * q2 : Nat) : Int) = if q1 * p2 < p1 * q2 then -1 else if p1 * q2 < q1 * p2 then 1 else 0 := by
        unfold cmn
        split <;> split <;> (try split) <;> (try split) <;> omega
      try simp only at cC1
      obtain ⟨r, hr⟩ : ∃ r, cmn ((q1 * p2 : Nat) : Int) ((p1 * q2 : Nat) : Int) = r := ⟨_, rfl⟩
      rw [hr] at cC1 hcmp
      have CC := Lib.hid cC1
      have hj0 : (0 : Int) ≤ (j : Int) := by omega
      have hjm : (j : Int) < (m : Int) := by omega
      by_cases hgt : p1 * q2 < q1 * p2
      · have hr1 : r = 1 := by rw [hcmp, if_neg (by omega), if_pos hgt]
        subst hr1
        have HP : Hid (grt l (j + 1 - 1) = (q1, q2)) := Lib.hid (by rw [Nat.add_sub_cancel, HN.out, HDec.out, if_pos hgt])
        clear hr hcmp cC1 hq hpm hqm hgt
        go_wp2_with fail
        go_region_held3 (fun w' => (w'.cell? ⟨w.heap.size + 1, 0, none⟩ = some (.int .i64 (p1 : Int)) ∧ w'.cell? ⟨w.heap.size + 1, 1, none⟩ = some (.int .i64 (p2 : Int))) ∧ w'.cell? ⟨g, j * 2, none⟩ = some (.int .i64 (q1 : Int)) ∧ w'.cell? ⟨g, j * 2 + 1, none⟩ = some (.int .i64 (q2 : Int)))
          (first
            | exact ⟨⟨e1, e2⟩, c1, c2⟩
            | exact ⟨⟨(hb5.cell (p := ⟨w.heap.size + 1, 0, none⟩) hzr).trans e1, (hb5.cell (p := ⟨w.heap.size + 1, 1, none⟩) hzr).trans e2⟩, (hb5.cell (p := ⟨g, j * 2, none⟩) (show g < wq.heap.size by have := HBs.out; have := HB.out.size; omega)).trans c1, (hb5.cell (p := ⟨g, j * 2 + 1, none⟩) (show g < wq.heap.size by have := HBs.out; have := HB.out.size; omega)).trans c2⟩)
          (first
            | (go_at_call 64; refine (CC.out _).mono ?_; rintro e w5 ⟨rfl, hb5⟩))
        have hb : Below wq.heap.size wq w5 := (Below.refl wq.heap.size wq).drew.trans hb5
        have hH5 := (hb.block (w.heap.size + 1) hzr).trans HE.out
        have hR5 := (hb.block w.heap.size (by omega)).trans HR.out
        have hB5 := HB.out.trans (hb.mono (by omega))
        have d1 := (hb.cell (p := ⟨g, j * 2, none⟩) (show g < wq.heap.size by have := HBs.out; have := HB.out.size; omega)).trans c1
        have d2 := (hb.cell (p := ⟨g, j * 2 + 1, none⟩) (show g < wq.heap.size by have := HBs.out; have := HB.out.size; omega)).trans c2
        have hz5 : w.heap.size + 1 < w5.heap.size := Nat.lt_of_lt_of_le hzr hb.size
        obtain ⟨f1, f2, f3, f4⟩ := frozen_new2 hH5
        have X1 := Lib.hid (pair_heapG (a' := .int .i64 (q1 : Int)) (b' := .int .i64 (q2 : Int)) hH5)
        have X2 := Lib.hid ((pair_otherG (a' := .int .i64 (q1 : Int)) (b' := .int .i64 (q2 : Int)) (W := w5) (s := w.heap.size + 1) (s' := w.heap.size) (by omega)).trans hR5)
        have X3 := Lib.hid (pair_below (v1 := .int .i64 (q1 : Int)) (v2 := .int .i64 (q2 : Int)) hB5 (Nat.le_succ w.heap.size))
        have X4 : w.heap.size + 1 < ((w5.setCell ⟨w.heap.size + 1, 0, none⟩ (.int .i64 (q1 : Int))).setCell ⟨w.heap.size + 1, 1, none⟩ (.int .i64 (q2 : Int))).heap.size := Nat.lt_of_lt_of_le hz5 (pair_below (v1 := .int .i64 (q1 : Int)) (v2 := .int .i64 (q2 : Int)) (Below.refl (w.heap.size + 1) w5) (Nat.le_refl _)).size
        clear hb hb5 hH5 hR5 hB5 e1 e2 c1 c2
        go_wp2_with fail
        obtain ⟨w7, hw7⟩ : ∃ w7, (w5.setCell ⟨w.heap.size + 1, 0, none⟩ (.int .i64 (q1 : Int))).setCell ⟨w.heap.size + 1, 1, none⟩ (.int .i64 (q2 : Int)) = w7 := ⟨_, rfl⟩
        rw [hw7] at X1 X2 X3 X4 ⊢
        clear hw7
        go_roundw
        case rel => exact ⟨j + 1, (q1, q2), by omega, by omega, by go_num, HP, X1, X2, X3, X4⟩
        case measure => simp [intOf]; omega
      · have hr1 : r ≤ 0 := by rw [hcmp]; split <;> (try rw [if_neg hgt]) <;> omega
        have hr2 : decide (0 < r) = false := decide_eq_false (by omega)
        have hr3 : ¬ 0 < r := by omega
        have HP : Hid (grt l (j + 1 - 1) = (p1, p2)) := Lib.hid (by rw [Nat.add_sub_cancel, HN.out, HDec.out, if_neg hgt])
        clear hr hcmp cC1 hq hpm hqm hgt
        go_wp2_with fail
        go_region_held3 (fun w' => (w'.cell? ⟨w.heap.size + 1, 0, none⟩ = some (.int .i64 (p1 : Int)) ∧ w'.cell? ⟨w.heap.size + 1, 1, none⟩ = some (.int .i64 (p2 : Int))) ∧ w'.cell? ⟨g, j * 2, none⟩ = some (.int .i64 (q1 : Int)) ∧ w'.cell? ⟨g, j * 2 + 1, none⟩ = some (.int .i64 (q2 : Int)))
          (first
            | exact ⟨⟨e1, e2⟩, c1, c2⟩
            | exact ⟨⟨(hb5.cell (p := ⟨w.heap.size + 1, 0, none⟩) hzr).trans e1, (hb5.cell (p := ⟨w.heap.size + 1, 1, none⟩) hzr).trans e2⟩, (hb5.cell (p := ⟨g, j * 2, none⟩) (show g < wq.heap.size by have := HBs.out; have := HB.out.size; omega)).trans c1, (hb5.cell (p := ⟨g, j * 2 + 1, none⟩) (show g < wq.heap.size by have := HBs.out; have := HB.out.size; omega)).trans c2⟩)
          (first
            | (go_at_call 64; refine (CC.out _).mono ?_; rintro e w5 ⟨rfl, hb5⟩))
        have hb : Below wq.heap.size wq w5 := (Below.refl wq.heap.size wq).drew.trans hb5
        have X1 := Lib.hid ((hb.block (w.heap.size + 1) hzr).trans HE.out)
        have X2 := Lib.hid ((hb.block w.heap.size (by omega)).trans HR.out)
        have X3 := Lib.hid (HB.out.trans (hb.mono (by omega)))
        have X4 : w.heap.size + 1 < w5.heap.size := Nat.lt_of_lt_of_le hzr hb.size
        clear hb hb5 e1 e2 c1 c2
        go_wp2_with fail
        go_roundw
        case rel => exact ⟨j + 1, (p1, p2), by omega, by omega, by go_num, HP, X1, X2, X3, X4⟩
        case measure => simp [intOf]; omega
    · have hjm : j = m := by omega
      have HF : Hid (grt l (m - 1) = (p1, p2)) := Lib.hid (by rw [← hjm]; exact HG.out)
      obtain ⟨f1, f2, f3, f4⟩ := frozen_new2 HR.out
      have hE9 := pair_set (a' := .int .i64 (p1 : Int)) (b' := .int .i64 (p2 : Int)) HR.out
      have hB9 := pair_below (v1 := .int .i64 (p1 : Int)) (v2 := .int .i64 (p2 : Int)) HB.out (Nat.le_refl w.heap.size)
      have HE9 := Lib.hid hE9
      have HB9 := Lib.hid hB9
      clear hE9 hB9 hjm
      go_wp2_with fail
      generalize ((wq.setCell ⟨w.heap.size, 0, none⟩ (.int .i64 (p1 : Int))).setCell ⟨w.heap.size, 1, none⟩ (.int .i64 (p2 : Int))) = W9 at *
      obtain ⟨hc0, hc1⟩ := HE9.out
      exact bodyPost_ret (v := fv (p1, p2)) (by simp [results, Try.results63, go_sem, hc0, hc1, fv]) rfl ⟨by rw [HF.out], HB9.out⟩

end Go.Proofs.Ythjafoacnfgjhac

/-
  The first place of the greatest fraction of a list: the program.
-/
namespace Go.Proofs.Ythjafoacnfgjhac
open Go.RowKit
set_option linter.unusedVariables false
set_option linter.unusedSimpArgs false

/-- a found place -/
def FgAt (l : List (Nat × Nat)) (p : Nat × Nat) (r : Nat) : Prop := l[r]? = some p ∧ ∀ i, i < r → l[i]? ≠ some p
theorem fg_uniq {l : List (Nat × Nat)} {p : Nat × Nat} {r s : Nat} (h : FgAt l p r) (k : FgAt l p s) : r = s := by
  rcases Nat.lt_trichotomy r s with c | c | c
  · exact absurd h.1 (k.2 r c)
  · exact c
  · exact absurd k.1 (h.2 s c)

theorem neqFr_guard (x y : Operand) (xs ys : Array Value) (W : World) : (Go.eqGuard .neq 65 x y (.agg xs) (.agg ys)).run Try.prog W = .ok () W :=
  run_eqGuard_agg W _ _ _ _ _ _ (by kernel_rfl)

theorem eqFr_run (a b c d : Int) (r : Bool) (hr : ((a == c) && (b == d)) = r) (W : World) : (Op.equalIn 10000 65 (.agg #[.int .i64 a, .int .i64 b]) (.agg #[.int .i64 c, .int .i64 d])).run Try.prog W = .ok r W := by
  subst hr
  have hk : Try.prog.plainKey 3 = true := by kernel_rfl
  have hu : Try.prog.underlying 3 = some (.int .i64) := by kernel_rfl
  have p1 : ∀ (x y : Value), (part 3 #[x, y] 0).run Try.prog W = .ok x W := fun x y => run_part_plain W hk (by simp)
  have p2 : ∀ (x y : Value), (part 3 #[x, y] 1).run Try.prog W = .ok y W := fun x y => run_part_plain W hk (by simp)
  have he : ∀ x y : Int, (Op.equalIn 9999 3 (.int .i64 x) (.int .i64 y)).run Try.prog W = .ok (x == y) W := fun x y => run_equalIn_int W 9998 _ .i64 .i64 _ _ hu
  have hc : Try.prog.cellsOf 3 = 1 := by kernel_rfl
  have h0 := run_equalIn_array (P := Try.prog) (t := 65) (i := (Try.prog.info? 3).get!) W 9999 (e := 3) (n := 2) #[.int .i64 a, .int .i64 b] #[.int .i64 c, .int .i64 d] (by kernel_rfl) (by kernel_rfl)
  rw [hc, show List.range 2 = [0, 1] from rfl] at h0
  refine h0.trans ?_
  simp only [Op.eqItems, Sem.run_bind, Nat.zero_mul, Nat.mul_one, p1, p2, he, Result.andThen_ok]
  cases (a == c)
  · simp
  · simp only [Bool.not_true, Bool.false_eq_true, if_false, Op.eqItems, Sem.run_bind, Nat.one_mul, p1, p2, he, Result.andThen_ok]
    cases (b == d) <;> simp

set_option maxRecDepth 1000000 in
set_option maxHeartbeats 2000000 in
theorem firstGreatest_any (B g m c : Nat) (l : List (Nat × Nat)) (w : World) (hB : B ≤ w.heap.size) (hl : FRow B w g m l) (hm0 : 0 < m) (hmc : m ≤ c) (hc : c ≤ 9223372036854775807) (hbd : ∀ p ∈ l, ∀ q ∈ l, p.1 * q.2 ≤ 9000000000000000000) :
    Calls Try.prog 38 #[.slice (some ⟨g, 0, none⟩) m c] w fun e w' => ∃ r : Nat, e = .returned (.tuple #[.int .i64 (r : Int), fv (grt l (m - 1))]) ∧ FgAt l (grt l (m - 1)) r ∧ Below w.heap.size w w' := by
  have HL := Lib.hid hl.len
  have HRw := Lib.hid hl
  have HBs := Lib.hid hB
  have HB1 : Hid (Below w.heap.size w (w.alloc (.cells #[.int .i64 0, .int .i64 0] 65))) := Lib.hid ((Below.refl _ _).alloc (Nat.le_refl _) _)
  have HR1 := Lib.hid (heap_alloc_new w (.cells #[.int .i64 0, .int .i64 0] 65))
  have hz1 : w.heap.size < (w.alloc (.cells #[.int .i64 0, .int .i64 0] 65)).heap.size := by simp
  have cM := Lib.hid (fun W' (hb : Below w.heap.size w W') => maxFr_any B g m c l W' (Nat.le_trans hB hb.size) (hl.keep (hb.mono hB)) hm0 hmc hc hbd)
  have HMem := Lib.hid (grt_mem (l := l) (t := m - 1) (by rw [hl.len]; omega))
  obtain ⟨⟨p1, p2⟩, hp⟩ : ∃ p, grt l (m - 1) = p := ⟨_, rfl⟩
  rw [hp] at cM HMem ⊢
  simp only [fv_mk] at cM ⊢
  clear hl hB hbd hp
  go_enter Try.func38, Try.ntmps38
  go_wp2_with fail
  obtain ⟨W1, hW1⟩ : ∃ W1, w.alloc (.cells #[.int .i64 0, .int .i64 0] 65) = W1 := ⟨_, rfl⟩
  rw [hW1] at HB1 HR1 hz1 ⊢
  clear hW1
  refine (cM.out _ HB1.out).mono ?_
  rintro e w2 ⟨rfl, hb2⟩
  have HB2 := Lib.hid (HB1.out.trans (hb2.mono HB1.out.size))
  have HR2 := Lib.hid ((hb2.block _ hz1).trans HR1.out)
  have hz2 : w.heap.size < w2.heap.size := Nat.lt_of_lt_of_le hz1 hb2.size
  have HE3 := Lib.hid (heap_alloc_new w2 (.cells #[.int .i64 (p1 : Int), .int .i64 (p2 : Int)] 65))
  have HB3 : Hid (Below w2.heap.size w2 (w2.alloc (.cells #[.int .i64 (p1 : Int), .int .i64 (p2 : Int)] 65))) := Lib.hid ((Below.refl _ _).alloc (Nat.le_refl _) _)
  have hz3 : w2.heap.size < (w2.alloc (.cells #[.int .i64 (p1 : Int), .int .i64 (p2 : Int)] 65)).heap.size := by simp
  clear hb2
  go_wp2_with fail
  obtain ⟨W3, hW3⟩ : ∃ W3, w2.alloc (.cells #[.int .i64 (p1 : Int), .int .i64 (p2 : Int)] 65) = W3 := ⟨_, rfl⟩
  rw [hW3] at HE3 HB3 hz3 ⊢
  clear hW3
  obtain ⟨E, hE⟩ : ∃ E, w2.heap.size = E := ⟨_, rfl⟩
  rw [hE] at HE3 HB3 hz3 hz2 ⊢
  have A1 := Lib.hid (HB2.out.trans (HB3.out.mono (Nat.le_of_lt hz2)))
  have A2 := Lib.hid ((HB3.out.block _ hz2).trans HR2.out)
  clear hE HB1 HB2 HR1 HR2 hz1 HB3
  go_loopw [5] (fun i wr => ∃ (j : Nat), j < m ∧ i = .int .i64 j ∧ Hid (∀ i, i < j → l[i]? ≠ some (p1, p2)) ∧ Hid (Below W3.heap.size W3 wr)) (fun i _ => m - (intOf i).toNat)
  case atStart => exact ⟨0, by omega, rfl, Lib.hid (fun i h => by omega), Lib.hid (Below.refl _ _)⟩
  case round =>
    obtain ⟨j, hj, rfl, HN, HBw⟩ := hrel
    rename World => wq
    obtain ⟨⟨q1, q2⟩, hq⟩ : ∃ q, l[j]? = some q := ⟨_, List.getElem?_eq_getElem (by rw [HL.out]; exact hj)⟩
    obtain ⟨e1, e2, _, _⟩ := frozen_new2 ((HBw.out.block _ hz3).trans HE3.out)
    obtain ⟨c1, c2⟩ := (HRw.out.keep ((A1.out.trans (HBw.out.mono A1.out.size)).mono HBs.out)).at' j _ hq
    simp only at c1 c2
    have hj0 : (0 : Int) ≤ (j : Int) := by omega
    have hjm : (j : Int) < (m : Int) := by omega
    have HQ := Lib.hid hq
    clear hq
    by_cases he : q1 = p1 ∧ q2 = p2
    · obtain ⟨h1, h2⟩ := he
      subst h1 h2
      have hEq := eqFr_run (q1 : Int) (q2 : Int) (q1 : Int) (q2 : Int) true (by simp)
      have hGd := neqFr_guard (.tmp 11) (.tmp 12) #[.int .i64 (q1 : Int), .int .i64 (q2 : Int)] #[.int .i64 (q1 : Int), .int .i64 (q2 : Int)]
      have hA2 := Lib.hid ((HBw.out.block _ (Nat.lt_of_lt_of_le (Nat.lt_trans hz2 hz3) (Nat.le_refl _))).trans A2.out)
      obtain ⟨f1, f2, f3, f4⟩ := frozen_new2 hA2.out
      have HBq := Lib.hid (A1.out.trans (HBw.out.mono A1.out.size))
      go_wp2
      go_quiet (fail)
      go_wp2_with fail
      obtain ⟨W5, hW5⟩ : ∃ W5, wq.drewN nq = W5 := ⟨_, rfl⟩
      have HB5 := Lib.hid (below_drewN HBq.out nq)
      have hA5 : (wq.drewN nq).heap[w.heap.size]? = some (.cells #[.int .i64 0, .int .i64 0] 65) := hA2.out
      have hE5 : (wq.drewN nq).heap[E]? = some (.cells #[.int .i64 (q1 : Int), .int .i64 (q2 : Int)] 65) := (HBw.out.block _ hz3).trans HE3.out
      rw [hW5] at HB5 hA5 hE5 ⊢
      clear hW5 hEq hGd e1 e2 f1 f2 f3 f4 c1 c2 hA2 HBq HBw HE3 A1 A2
      obtain ⟨e1, e2, _, _⟩ := frozen_new2 hE5
      obtain ⟨f1, f2, f3, f4⟩ := frozen_new2 hA5
      have HE9 := Lib.hid (pair_set (a' := .int .i64 (q1 : Int)) (b' := .int .i64 (q2 : Int)) hA5)
      have HB9 := Lib.hid (pair_below (v1 := .int .i64 (q1 : Int)) (v2 := .int .i64 (q2 : Int)) HB5.out (Nat.le_refl w.heap.size))
      clear hA5 hE5 HB5
      go_region
      go_wp2_with fail
      generalize ((W5.setCell ⟨w.heap.size, 0, none⟩ (.int .i64 (q1 : Int))).setCell ⟨w.heap.size, 1, none⟩ (.int .i64 (q2 : Int))) = W9 at *
      have hc0 : W9.drew.cell? ⟨w.heap.size, 0, none⟩ = some (.int .i64 (q1 : Int)) := HE9.out.1
      have hc1 : W9.drew.cell? ⟨w.heap.size, 1, none⟩ = some (.int .i64 (q2 : Int)) := HE9.out.2
      have hb9 : Below w.heap.size w W9.drew := HB9.out.trans ⟨rfl, rfl, rfl, Nat.le_refl _, fun _ _ => rfl⟩
      generalize W9.drew = W8 at *
      exact bodyPost_ret (v := .tuple #[.int .i64 (j : Int), .agg #[.int .i64 (q1 : Int), .int .i64 (q2 : Int)]]) (by simp [results, Try.f38, go_sem, hc0, hc1]) rfl ⟨j, rfl, ⟨HQ.out, HN.out⟩, hb9⟩
    · have hEq := eqFr_run (q1 : Int) (q2 : Int) (p1 : Int) (p2 : Int) false (by
        rw [Bool.and_eq_false_iff]
        by_cases h1 : q1 = p1
        · exact Or.inr (by simp; intro h; exact he ⟨h1, by omega⟩)
        · exact Or.inl (by simp; omega))
      have hGd := neqFr_guard (.tmp 11) (.tmp 12) #[.int .i64 (q1 : Int), .int .i64 (q2 : Int)] #[.int .i64 (p1 : Int), .int .i64 (p2 : Int)]
      have HN2 : Hid (∀ i, i < j + 1 → l[i]? ≠ some (p1, p2)) := Lib.hid (fun i hi => by
        by_cases e : i = j
        · subst e; rw [HQ.out]; intro h; injection h with h; injection h with h3 h4; exact he ⟨h3, h4⟩
        · exact HN.out i (by omega))
      have hjm2 : j + 1 < m := by
        obtain ⟨i, hi⟩ := List.mem_iff_getElem?.1 HMem.out
        have hil : i < m := by
          rcases Nat.lt_or_ge i m with h | h
          · exact h
          · rw [List.getElem?_eq_none (by rw [HL.out]; exact h)] at hi; cases hi
        rcases Nat.lt_or_ge (j + 1) m with h | h
        · exact h
        · exact absurd hi (HN2.out i (by omega))
      go_wp2
      go_quiet (fail)
      go_wp2
      go_roundw
      case rel => exact ⟨j + 1, hjm2, by go_num, HN2, Lib.hid (below_drewN HBw.out _)⟩
      case measure => simp [intOf]; omega

end Go.Proofs.Ythjafoacnfgjhac
