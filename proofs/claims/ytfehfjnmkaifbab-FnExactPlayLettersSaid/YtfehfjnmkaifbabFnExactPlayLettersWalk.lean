/-
  The walk of the law FnExactPlayLetters: both functions answer the same.
-/
import Derived.Test.YtfehfjnmkaifbabIsTrie
import Derived.Test.YtfehfjnmkaifbabOwnTrie
import Derived.Test.YtfehfjnmkaifbabPlayI11
namespace Go.Proofs.Ytfehfjnmkaifbab.fnExactPlayLetters
open Go.RowKit
set_option linter.unusedVariables false

set_option maxRecDepth 1000000 in
set_option maxHeartbeats 1000000 in
theorem walk (a : Option Addr) (n c : Nat) (t : List Nd) (x0 : Int) (x1 : ByteArray) (w : World) (w0 : n ≤ maxLen ∧ Nds w.heap.size w a n c t) (qx0 : (Lit.int .i64 x0).wf = true) (hx1 : x1.size ≤ maxLen) :
    Calls Try.prog 6 #[.agg #[.slice a n c], .int .i64 x0, .string x1] w fun e w' => e = .returned (.bool true) ∧ Below w.heap.size w w' := by
  obtain ⟨hm, h⟩ := w0
  unfold maxLen at *
  have C := h.cap
  have T := h.top
  have HB1 : Hid (Below w.heap.size w (w.alloc (.cells #[.slice a n c] 24))) := Lib.hid ((Below.refl _ _).alloc (Nat.le_refl _) _)
  have hlt0 : w.heap.size < (w.alloc (.cells #[.slice a n c] 24)).heap.size := by simp
  have hbx : (w.alloc (.cells #[.slice a n c] 24)).cell? ⟨w.heap.size, 0, none⟩ = some (.slice a n c) := by simp
  have HN : Hid (Nds w.heap.size (w.alloc (.cells #[.slice a n c] 24)) a n c t) := Lib.hid (h.keep HB1.out)
  clear h
  have hx0 := wf_i64 qx0
  clear qx0
  by_cases hs1 : 1048576 < x1.size
  · go_enter Try.func6, Try.ntmps6
    go_wp2_with fail
    go_ret
    exact ⟨rfl, HB1.out⟩
  go_enter Try.func6, Try.ntmps6
  go_wp2_with fail
  obtain ⟨W0, hW0⟩ : ∃ W0, w.alloc (.cells #[.slice a n c] 24) = W0 := ⟨_, rfl⟩
  rw [hW0] at HB1 hlt0 hbx HN ⊢
  clear hW0
  have HX := Lib.hid hbx
  clear hbx
  have cS := Lib.hid (szTrie_any w.heap.size a n c t 1048576 W0 HN.out (by omega) (by omega))
  by_cases hbig : 1048576 < n
  · have e : (if (1048576 : Int) - n < 0 then (-1 : Int) else 1048576 - n) = -1 := if_pos (by omega)
    rw [e] at cS
    clear e
    refine cS.out.mono ?_
    rintro e w1 ⟨rfl, hb1⟩
    go_wp2_with fail
    go_ret
    exact ⟨rfl, HB1.out.trans (hb1.mono (by omega))⟩
  · have hn : n ≤ 1048576 := by omega
    have e : (if (1048576 : Int) - n < 0 then (-1 : Int) else 1048576 - n) = 1048576 - n := if_neg (by omega)
    rw [e] at cS
    clear e
    have cT : Hid (∀ W, Below W0.heap.size W0 W → Calls Try.prog 11 #[.agg #[.slice a n c]] W fun e w' => ∃ g, e = .returned (.agg #[.slice (some ⟨g, 0, none⟩) n n]) ∧ Nds w'.heap.size w' (some ⟨g, 0, none⟩) n n t ∧ Below W.heap.size W w') := Lib.hid (fun W hW => toTrie_nds w.heap.size a n c t W (by have := hW.size; omega) (HN.out.keep (hW.mono (by omega))) hn)
    have cEq : Hid (∀ (W : World) (a1 a2 : Option Addr), Nds W.heap.size W a1 n n t → Nds W.heap.size W a2 n n t → Calls Try.prog 13 #[.agg #[.slice a1 n n], .agg #[.slice a2 n n]] W fun e w' => e = .returned (.bool true) ∧ Below W.heap.size W w') := Lib.hid (fun W a1 a2 h1 h2 => eqTrie_any W.heap.size a1 a2 n n n n t t W (Nat.le_refl _) h1 h2 true (by simp))
    obtain ⟨v, v2, v3, ok, hsp, him⟩ := agreePlayLetters t n x0 x1 hn (by first | omega | exact hx0) (by first | omega | exact hx1)
    have cSp := Lib.hid hsp
    have cIm := Lib.hid him
    clear hsp him
    have hvv : ((v : Int) != v) = false := by simp
    have hv2 : ((v2 : Int) != v2) = false := by simp
    have hv3 : ((v3 : Int) != v3) = false := by simp
    have hrr : (ok != ok) = false := by cases ok <;> rfl
    refine cS.out.mono ?_
    rintro e w1 ⟨rfl, hb1⟩
    have H1 := Lib.hid hb1
    have hbx := (hb1.cell (p := ⟨w.heap.size, 0, none⟩) hlt0).trans HX.out
    clear hb1
    go_wp2_with fail
    clear hbx
    refine (cT.out _ H1.out).mono ?_
    rintro e w2 ⟨g2, rfl, hN2, hb2⟩
    have H2 := Lib.hid (H1.out.trans (hb2.mono H1.out.size))
    have N2 := Lib.hid hN2
    clear hb2 hN2
    go_wp2_with fail
    refine (cSp.out _ _ N2.out).mono ?_
    rintro e w3 ⟨rfl, hb3⟩
    have H3 := Lib.hid (H2.out.trans (hb3.mono H2.out.size))
    clear hb3
    have hbx := (H3.out.cell (p := ⟨w.heap.size, 0, none⟩) hlt0).trans HX.out
    go_wp2_with fail
    clear hbx
    refine (cT.out _ H3.out).mono ?_
    rintro e w4 ⟨g4, rfl, hN4, hb4⟩
    have H4 := Lib.hid (H3.out.trans (hb4.mono H3.out.size))
    clear hb4
    have N4 := Lib.hid hN4
    clear hN4
    have HB5 : Hid (Below w4.heap.size w4 (w4.alloc (.cells #[.slice (some ⟨g4, 0, none⟩) n n] 30))) := Lib.hid ((Below.refl _ _).alloc (Nat.le_refl _) _)
    have hbz : (w4.alloc (.cells #[.slice (some ⟨g4, 0, none⟩) n n] 30)).cell? ⟨w4.heap.size, 0, none⟩ = some (.slice (some ⟨g4, 0, none⟩) n n) := by simp
    have hlt5 : w4.heap.size < (w4.alloc (.cells #[.slice (some ⟨g4, 0, none⟩) n n] 30)).heap.size := by simp
    go_wp2_with fail
    obtain ⟨w5, hw5⟩ : ∃ w5, w4.alloc (.cells #[.slice (some ⟨g4, 0, none⟩) n n] 30) = w5 := ⟨_, rfl⟩
    rw [hw5] at HB5 hbz hlt5 ⊢
    clear hw5
    have HZ := Lib.hid hbz
    clear hbz
    have H5 := Lib.hid (H4.out.trans (HB5.out.mono H4.out.size))
    have N5 := Lib.hid ((N4.out.keep HB5.out).mono HB5.out.size)
    refine (cIm.out _ _ N5.out).mono ?_
    rintro e w6 ⟨rfl, hb6⟩
    have H6 := Lib.hid (H5.out.trans (hb6.mono H5.out.size))
    have HB6 := Lib.hid hb6
    have hx := (H6.out.cell (p := ⟨w.heap.size, 0, none⟩) hlt0).trans HX.out
    have hy := (hb6.cell (p := ⟨w4.heap.size, 0, none⟩) hlt5).trans HZ.out
    have hl1 : w.heap.size < w6.heap.size := Nat.lt_of_lt_of_le hlt0 H6.out.size
    have hl2 : w4.heap.size < w6.heap.size := Nat.lt_of_lt_of_le hlt5 hb6.size
    clear hb6
    go_wp2_with fail
    go_region_held3 (fun w' => w'.cell? ⟨w.heap.size, 0, none⟩ = some (.slice a n c) ∧ w'.cell? ⟨w4.heap.size, 0, none⟩ = some (.slice (some ⟨g4, 0, none⟩) n n))
      (first
        | exact ⟨(hb8.cell (p := ⟨w.heap.size, 0, none⟩) (Nat.lt_of_lt_of_le hl1 hb7.size)).trans ((hb7.cell (p := ⟨w.heap.size, 0, none⟩) hl1).trans hx), (hb8.cell (p := ⟨w4.heap.size, 0, none⟩) (Nat.lt_of_lt_of_le hl2 hb7.size)).trans ((hb7.cell (p := ⟨w4.heap.size, 0, none⟩) hl2).trans hy)⟩
        | exact ⟨(hb7.cell (p := ⟨w.heap.size, 0, none⟩) hl1).trans hx, (hb7.cell (p := ⟨w4.heap.size, 0, none⟩) hl2).trans hy⟩
        | exact ⟨hx, hy⟩)
      (first
        | (go_at_call 11; refine (cT.out _ (by exact H6.out.drew)).mono ?_; rintro e w7 ⟨g7, rfl, hN7, hb7⟩)
        | (go_at_call 13; refine (cEq.out _ _ _ (by exact (N5.out.keep (HB6.out.trans ((Below.refl _ _).drew.trans (hb7.mono HB6.out.size)))).mono (Nat.le_trans HB6.out.size hb7.size)) hN7).mono ?_; rintro e w8 ⟨rfl, hb8⟩))
    go_wp2_with fail
    go_ret
    have hz6 : W0.heap.size ≤ w6.heap.size := H6.out.size
    exact ⟨rfl, HB1.out.trans ((H6.out.drew.trans ((hb7.mono (Nat.le_refl _)).mono hz6 |>.trans (hb8.mono (Nat.le_trans hz6 hb7.size)))).mono (by omega))⟩

end Go.Proofs.Ytfehfjnmkaifbab.fnExactPlayLetters
