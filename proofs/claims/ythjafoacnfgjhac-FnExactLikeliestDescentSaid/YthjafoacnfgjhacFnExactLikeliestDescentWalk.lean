/-
  The walk of the law FnExactLikeliestDescent: both functions answer the same.
-/
import Derived.Test.YthjafoacnfgjhacIsTrie
import Derived.Test.YthjafoacnfgjhacOwnTrie
import Derived.Test.YthjafoacnfgjhacEqFrac
import Derived.Test.YthjafoacnfgjhacGC
namespace Go.Proofs.Ythjafoacnfgjhac.fnExactLikeliestDescent
open Go.RowKit
set_option linter.unusedVariables false

set_option maxRecDepth 1000000 in
set_option maxHeartbeats 2000000 in
theorem walk (a : Option Addr) (n c : Nat) (t : List Nd) (w : World) (w0 : n ≤ maxLen ∧ Nds w.heap.size w a n c t) :
    Calls Try.prog 4 #[.agg #[.slice a n c]] w fun e w' => e = .returned (.bool true) ∧ Below w.heap.size w w' := by
  obtain ⟨hm, h⟩ := w0
  unfold maxLen at *
  have C := h.cap
  have T := h.top
  have HB1 : Hid (Below w.heap.size w (w.alloc (.cells #[.slice a n c] 31))) := Lib.hid ((Below.refl _ _).alloc (Nat.le_refl _) _)
  have hlt0 : w.heap.size < (w.alloc (.cells #[.slice a n c] 31)).heap.size := by simp
  have hbx : (w.alloc (.cells #[.slice a n c] 31)).cell? ⟨w.heap.size, 0, none⟩ = some (.slice a n c) := by simp
  have HN : Hid (Nds w.heap.size (w.alloc (.cells #[.slice a n c] 31)) a n c t) := Lib.hid (h.keep HB1.out)
  clear h
  go_enter Try.func4, Try.ntmps4
  go_wp2_with fail
  obtain ⟨W0, hW0⟩ : ∃ W0, w.alloc (.cells #[.slice a n c] 31) = W0 := ⟨_, rfl⟩
  rw [hW0] at HB1 hlt0 hbx HN ⊢
  clear hW0
  have HX := Lib.hid hbx
  clear hbx
  have cS := Lib.hid (szTrie_any w.heap.size a n c t 1048576 W0 HN.out (by omega) (by omega))
  by_cases hbig : 1048576 < n
  · have e : (if (1048576 : Int) - n < 0 then (-1 : Int) else 1048576 - n) = -1 := if_pos (by omega)
    rw [e] at cS
    clear e
    refine cS.out.mono ?_
    rintro e w1 ⟨rfl, hb1⟩
    go_wp2_with fail
    go_ret
    exact ⟨rfl, HB1.out.trans (hb1.mono (by omega))⟩
  · have hn : n ≤ 1048576 := by omega
    have e : (if (1048576 : Int) - n < 0 then (-1 : Int) else 1048576 - n) = 1048576 - n := if_neg (by omega)
    rw [e] at cS
    clear e
    have cT : Hid (∀ W, Below W0.heap.size W0 W → Calls Try.prog 15 #[.agg #[.slice a n c]] W fun e w' => ∃ g, e = .returned (.agg #[.slice (some ⟨g, 0, none⟩) n n]) ∧ Nds w'.heap.size w' (some ⟨g, 0, none⟩) n n t ∧ Below W.heap.size W w') := Lib.hid (fun W hW => toTrie_nds w.heap.size a n c t W (by have := hW.size; omega) (HN.out.keep (hW.mono (by omega))) hn)
    have cEq : Hid (∀ (W : World) (a1 a2 : Option Addr), Nds W.heap.size W a1 n n t → Nds W.heap.size W a2 n n t → Calls Try.prog 18 #[.agg #[.slice a1 n n], .agg #[.slice a2 n n]] W fun e w' => e = .returned (.bool true) ∧ Below W.heap.size W w') := Lib.hid (fun W a1 a2 h1 h2 => eqTrie_any W.heap.size a1 a2 n n n n t t W (Nat.le_refl _) h1 h2 true (by simp))
    obtain ⟨v, ⟨x1, x2⟩, ok, hsp, him⟩ := agreeLikeliestDescent t n n hn
    simp only [fv_mk] at hsp him
    have cSp := Lib.hid hsp
    have cIm := Lib.hid him
    have cF := Lib.hid (fun W => eqFrac_any x1 x2 W)
    clear hsp him
    have hvv : (v.toList == v.toList) = true := by simp
    have hvw : (v.toList != v.toList) = false := by simp
    have hrr : (ok != ok) = false := by cases ok <;> rfl
    refine cS.out.mono ?_
    rintro e w1 ⟨rfl, hb1⟩
    have H1 := Lib.hid hb1
    have hbx := (hb1.cell (p := ⟨w.heap.size, 0, none⟩) hlt0).trans HX.out
    clear hb1
    go_wp2_with fail
    clear hbx
    refine (cT.out _ H1.out).mono ?_
    rintro e w2 ⟨g2, rfl, hN2, hb2⟩
    have H2 := Lib.hid (H1.out.trans (hb2.mono H1.out.size))
    have N2 := Lib.hid hN2
    clear hb2 hN2
    go_wp2_with fail
    refine (cSp.out _ _ N2.out).mono ?_
    rintro e w3 ⟨rfl, hb3⟩
    have H3 := Lib.hid (H2.out.trans (hb3.mono H2.out.size))
    clear hb3
    have HBa : Hid (Below w3.heap.size w3 (w3.alloc (.cells #[.int .i64 (x1 : Int), .int .i64 (x2 : Int)] 33))) := Lib.hid ((Below.refl _ _).alloc (Nat.le_refl _) _)
    have hbx := ((H3.out.trans (HBa.out.mono H3.out.size)).cell (p := ⟨w.heap.size, 0, none⟩) hlt0).trans HX.out
    obtain ⟨va, vb⟩ := pair_cells w3 (.int .i64 (x1 : Int)) (.int .i64 (x2 : Int)) 33
    have hlta : w3.heap.size < (w3.alloc (.cells #[.int .i64 (x1 : Int), .int .i64 (x2 : Int)] 33)).heap.size := by simp
    have HVa := Lib.hid (And.intro va vb)
    clear va vb
    go_wp2_with fail
    obtain ⟨w3a, hw3a⟩ : ∃ w3a, w3.alloc (.cells #[.int .i64 (x1 : Int), .int .i64 (x2 : Int)] 33) = w3a := ⟨_, rfl⟩
    rw [hw3a] at HBa hlta HVa ⊢
    clear hw3a hbx
    have H3a := Lib.hid (H3.out.trans (HBa.out.mono H3.out.size))
    refine (cT.out _ H3a.out).mono ?_
    rintro e w4 ⟨g4, rfl, hN4, hb4⟩
    have H4 := Lib.hid (H3a.out.trans (hb4.mono H3a.out.size))
    have HA4 := Lib.hid hb4
    clear hb4
    have N4 := Lib.hid hN4
    clear hN4
    have HB5 : Hid (Below w4.heap.size w4 (w4.alloc (.cells #[.slice (some ⟨g4, 0, none⟩) n n] 38))) := Lib.hid ((Below.refl _ _).alloc (Nat.le_refl _) _)
    have hbz : (w4.alloc (.cells #[.slice (some ⟨g4, 0, none⟩) n n] 38)).cell? ⟨w4.heap.size, 0, none⟩ = some (.slice (some ⟨g4, 0, none⟩) n n) := by simp
    have hlt5 : w4.heap.size < (w4.alloc (.cells #[.slice (some ⟨g4, 0, none⟩) n n] 38)).heap.size := by simp
    go_wp2_with fail
    obtain ⟨w5, hw5⟩ : ∃ w5, w4.alloc (.cells #[.slice (some ⟨g4, 0, none⟩) n n] 38) = w5 := ⟨_, rfl⟩
    rw [hw5] at HB5 hbz hlt5 ⊢
    clear hw5
    have HZ := Lib.hid hbz
    clear hbz
    have H5 := Lib.hid (H4.out.trans (HB5.out.mono H4.out.size))
    have N5 := Lib.hid ((N4.out.keep HB5.out).mono HB5.out.size)
    refine (cIm.out _ _ N5.out).mono ?_
    rintro e w6 ⟨rfl, hb6⟩
    have HA6 := Lib.hid (HA4.out.trans ((HB5.out.trans (hb6.mono HB5.out.size)).mono HA4.out.size))
    have HB6 := Lib.hid hb6
    have H6 := Lib.hid (H5.out.trans (hb6.mono H5.out.size))
    clear hb6
    have HBc : Hid (Below w6.heap.size w6 (w6.alloc (.cells #[.int .i64 (x1 : Int), .int .i64 (x2 : Int)] 33))) := Lib.hid ((Below.refl _ _).alloc (Nat.le_refl _) _)
    obtain ⟨vc, vd⟩ := pair_cells w6 (.int .i64 (x1 : Int)) (.int .i64 (x2 : Int)) 33
    have hc3 := ((HA6.out.trans (HBc.out.mono HA6.out.size)).cell (p := ⟨w3.heap.size, 0, none⟩) hlta).trans HVa.out.1
    have hd3 := ((HA6.out.trans (HBc.out.mono HA6.out.size)).cell (p := ⟨w3.heap.size, 1, none⟩) hlta).trans HVa.out.2
    go_wp2_with fail
    obtain ⟨w6a, hw6a⟩ : ∃ w6a, w6.alloc (.cells #[.int .i64 (x1 : Int), .int .i64 (x2 : Int)] 33) = w6a := ⟨_, rfl⟩
    rw [hw6a] at HBc vc vd hc3 hd3 ⊢
    clear hw6a
    refine (cF.out _).mono ?_
    rintro e w7 ⟨rfl, hb7⟩
    have H7 := Lib.hid (H6.out.trans ((HBc.out.trans (hb7.mono HBc.out.size)).mono H6.out.size))
    have HB7 := Lib.hid (HB6.out.trans ((HBc.out.trans (hb7.mono HBc.out.size)).mono HB6.out.size))
    clear hb7 vc vd hc3 hd3
    have hx := (H7.out.cell (p := ⟨w.heap.size, 0, none⟩) hlt0).trans HX.out
    have hy := (HB7.out.cell (p := ⟨w4.heap.size, 0, none⟩) hlt5).trans HZ.out
    have hl1 : w.heap.size < w7.heap.size := Nat.lt_of_lt_of_le hlt0 H7.out.size
    have hl2 : w4.heap.size < w7.heap.size := Nat.lt_of_lt_of_le hlt5 HB7.out.size
    go_wp2_with fail
    go_region_held3 (fun w' => w'.cell? ⟨w.heap.size, 0, none⟩ = some (.slice a n c) ∧ w'.cell? ⟨w4.heap.size, 0, none⟩ = some (.slice (some ⟨g4, 0, none⟩) n n))
      (first
        | exact ⟨(hb9.cell (p := ⟨w.heap.size, 0, none⟩) (Nat.lt_of_lt_of_le hl1 hb8.size)).trans ((hb8.cell (p := ⟨w.heap.size, 0, none⟩) hl1).trans hx), (hb9.cell (p := ⟨w4.heap.size, 0, none⟩) (Nat.lt_of_lt_of_le hl2 hb8.size)).trans ((hb8.cell (p := ⟨w4.heap.size, 0, none⟩) hl2).trans hy)⟩
        | exact ⟨(hb8.cell (p := ⟨w.heap.size, 0, none⟩) hl1).trans hx, (hb8.cell (p := ⟨w4.heap.size, 0, none⟩) hl2).trans hy⟩
        | exact ⟨hx, hy⟩)
      (first
        | (go_at_call 15; refine (cT.out _ (by exact H7.out.drew)).mono ?_; rintro e w8 ⟨g8, rfl, hN8, hb8⟩)
        | (go_at_call 18; refine (cEq.out _ _ _ (by exact (N5.out.keep (HB7.out.trans ((Below.refl _ _).drew.trans (hb8.mono HB7.out.size)))).mono (Nat.le_trans HB7.out.size hb8.size)) hN8).mono ?_; rintro e w9 ⟨rfl, hb9⟩))
    go_wp2_with fail
    go_ret
    have hz6 : W0.heap.size ≤ w7.heap.size := H7.out.size
    exact ⟨rfl, HB1.out.trans ((H7.out.drew.trans ((hb8.mono (Nat.le_refl _)).mono hz6 |>.trans (hb9.mono (Nat.le_trans hz6 hb8.size)))).mono (by omega))⟩

end Go.Proofs.Ythjafoacnfgjhac.fnExactLikeliestDescent
