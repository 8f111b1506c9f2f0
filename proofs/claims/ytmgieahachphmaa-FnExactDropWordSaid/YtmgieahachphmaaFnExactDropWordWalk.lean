/-
  The walk of the law FnExactDropWord: both functions answer the same, in memory of their own.
-/
import Derived.Test.YtmgieahachphmaaLawTrie
import Derived.Test.YtmgieahachphmaaDropA
namespace Go.Proofs.Ytmgieahachphmaa.fnExactDropWord
open Go.RowKit
set_option linter.unusedVariables false

set_option maxRecDepth 1000000 in
set_option maxHeartbeats 2000000 in
theorem walk (a : Option Addr) (n c : Nat) (t : List Nd) (x0 : ByteArray) (w : World) (w0 : n ≤ maxLen ∧ Nds w.heap.size w a n c t) (hx0 : x0.size ≤ maxLen) :
    Calls Try.prog 7 #[.agg #[.slice a n c], .string x0] w fun e w' => e = .returned (.bool true) ∧ Below w.heap.size w w' := by
  obtain ⟨hm, h⟩ := w0
  unfold maxLen at *
  have C := h.cap
  have T := h.top
  have HFitT : Hid (Fits t) := Lib.hid h.rng
  have HB1 : Hid (Below w.heap.size w (w.alloc (.cells #[.slice a n c] 40))) := Lib.hid ((Below.refl _ _).alloc (Nat.le_refl _) _)
  have hlt0 : w.heap.size < (w.alloc (.cells #[.slice a n c] 40)).heap.size := by simp
  have hbx : (w.alloc (.cells #[.slice a n c] 40)).cell? ⟨w.heap.size, 0, none⟩ = some (.slice a n c) := by simp
  have HN : Hid (Nds w.heap.size (w.alloc (.cells #[.slice a n c] 40)) a n c t) := Lib.hid (h.keep HB1.out)
  clear h
  by_cases hs0 : 1048576 < x0.size
  · go_enter Try.func7, Try.ntmps7
    go_wp2_with fail
    go_ret
    exact ⟨rfl, HB1.out⟩
  go_enter Try.func7, Try.ntmps7
  go_wp2_with fail
  obtain ⟨W0, hW0⟩ : ∃ W0, w.alloc (.cells #[.slice a n c] 40) = W0 := ⟨_, rfl⟩
  rw [hW0] at HB1 hlt0 hbx HN ⊢
  clear hW0
  have HX := Lib.hid hbx
  clear hbx
  have cS := Lib.hid (szTrie_any w.heap.size a n c t 1048576 W0 HN.out (by omega) (by omega))
  by_cases hbig : 1048576 < n
  · have e : (if (1048576 : Int) - n < 0 then (-1 : Int) else 1048576 - n) = -1 := if_pos (by omega)
    rw [e] at cS
    clear e
    refine cS.out.mono ?_
    rintro e w1 ⟨rfl, hb1⟩
    go_wp2_with fail
    go_ret
    exact ⟨rfl, HB1.out.trans (hb1.mono (by omega))⟩
  · have hn : n ≤ 1048576 := by omega
    have e : (if (1048576 : Int) - n < 0 then (-1 : Int) else 1048576 - n) = 1048576 - n := if_neg (by omega)
    rw [e] at cS
    clear e
    have cT : Hid (∀ W, Below W0.heap.size W0 W → Calls Try.prog 26 #[.agg #[.slice a n c]] W fun e w' => ∃ g, e = .returned (.agg #[.slice (some ⟨g, 0, none⟩) n n]) ∧ w'.ownsRow W.heap.size 74 3 (.slice (some ⟨g, 0, none⟩) n n) n (ndc t) ∧ Below W.heap.size W w') := Lib.hid (fun W hW => toTrie_any w.heap.size a n c t W (by have := hW.size; omega) (HN.out.keep (hW.mono (by omega))) hn)
    obtain ⟨tt, ok, hfit, hm, hsp, him⟩ := agreeDropWord t n x0 hn (by first | omega | exact hx0)
    have HFit := Lib.hid hfit
    have cSp := Lib.hid hsp
    have cIm := Lib.hid him
    obtain ⟨m, hmm⟩ : ∃ m, tt.length = m := ⟨_, rfl⟩
    rw [hmm] at hm
    unfold ReadRes at cSp
    unfold TrieRes at cIm
    rw [hmm] at cSp cIm
    clear hfit hsp him hmm
    have hrr : (ok != ok) = false := by cases ok <;> rfl
    have hq1 : ¬ (((1 + 3 * n : Nat) : Int) < 0) := by omega
    have hq2 : ¬ (((1 + 3 * m : Nat) : Int) < 0) := by omega
    have hq3 : (((1 + 3 * m : Nat) : Int) != ((1 + 3 * m : Nat) : Int)) = false := by simp
    refine cS.out.mono ?_
    rintro e w1 ⟨rfl, hb1⟩
    have H1 := Lib.hid hb1
    have hbx := (hb1.cell (p := ⟨w.heap.size, 0, none⟩) hlt0).trans HX.out
    clear hb1
    go_wp2_with fail
    clear hbx
    refine (cT.out _ H1.out).mono ?_
    rintro e w2 ⟨g2, rfl, hO2, hb2⟩
    have H2 := Lib.hid (H1.out.trans (hb2.mono H1.out.size))
    have N2 := Lib.hid (nds_own hO2 HFitT.out)
    clear hb2 hO2
    go_wp2_with fail
    refine (cSp.out _ _ N2.out).mono ?_
    rintro e w3 ⟨a3, c3, rfl, hN3, hb3⟩
    have H3 := Lib.hid (H2.out.trans (hb3.mono H2.out.size))
    have HN3 := Lib.hid hN3
    have HBx := Lib.hid (Boxed.new w3 30 (.slice a3 m c3))
    have HB4 : Hid (Below w3.heap.size w3 (w3.alloc (.cells #[.slice a3 m c3] 30))) := Lib.hid ((Below.refl _ _).alloc (Nat.le_refl _) _)
    have HZ4 : Hid ((w3.alloc (.cells #[.slice a3 m c3] 30)).heap.size = w3.heap.size + 1) := Lib.hid (by simp)
    have H4 := Lib.hid (H3.out.trans (HB4.out.mono H3.out.size))
    clear hN3 hb3
    have hbx := (H4.out.cell (p := ⟨w.heap.size, 0, none⟩) hlt0).trans HX.out
    go_wp2_with fail
    clear hbx
    obtain ⟨w4, hw4⟩ : ∃ w4, w3.alloc (.cells #[.slice a3 m c3] 30) = w4 := ⟨_, rfl⟩
    rw [hw4] at HBx HB4 HZ4 H4 ⊢
    clear hw4
    refine (cT.out _ H4.out).mono ?_
    rintro e w5 ⟨g5, rfl, hO5, hb5⟩
    have HB5 := Lib.hid hb5
    have HG5 := Lib.hid (own_ge hO5 (g := g5) rfl)
    have HXB : Hid (Boxed (w5.alloc (.cells #[.slice (some ⟨g5, 0, none⟩) n n] 30)) w5.heap.size 30 (.slice (some ⟨g5, 0, none⟩) n n)) := Lib.hid (Boxed.new _ _ _)
    have HXO := Lib.hid (hO5.alloc (.cells #[.slice (some ⟨g5, 0, none⟩) n n] 30))
    have HB6 : Hid (Below w5.heap.size w5 (w5.alloc (.cells #[.slice (some ⟨g5, 0, none⟩) n n] 30))) := Lib.hid ((Below.refl _ _).alloc (Nat.le_refl _) _)
    have HZ6 : Hid ((w5.alloc (.cells #[.slice (some ⟨g5, 0, none⟩) n n] 30)).heap.size = w5.heap.size + 1) := Lib.hid (by simp)
    clear hO5 hb5
    have hbz := HXB.out.cell
    go_wp2_with fail
    clear hbz
    obtain ⟨w6, hw6⟩ : ∃ w6, w5.alloc (.cells #[.slice (some ⟨g5, 0, none⟩) n n] 30) = w6 := ⟨_, rfl⟩
    rw [hw6] at HXB HXO HB6 HZ6 ⊢
    clear hw6
    refine (cIm.out _ _ (nds_own HXO.out HFitT.out)).mono ?_
    rintro e w7 ⟨v7, rfl, hO7, hb7⟩
    obtain ⟨a7, c7, rfl⟩ := own_slice hO7
    have HB7 := Lib.hid hb7
    have HO7 := Lib.hid hO7
    clear hO7 hb7
    have K8 : Hid (Two W0.heap.size W0 (w7.alloc (.cells #[.slice a7 m c7] 30)) w3.heap.size w7.heap.size w3.heap.size w6.heap.size m a3 c3 tt a7 c7 tt) := Lib.hid (by
      have h1 := HZ4.out
      have h2 := H3.out.size
      have h3 := HB7.out.size
      have h4 := HZ6.out
      have h5 := HB5.out.size
      have b47 : Below w4.heap.size w4 w7 := (HB5.out.trans (HB6.out.mono h5)).trans (HB7.out.mono (by omega))
      have b37 : Below w3.heap.size w3 w7 := HB4.out.trans (b47.mono (by omega))
      exact ⟨(H3.out.trans (b37.mono h2)).alloc (by omega) _, (box_under HBx.out b47 (by omega)).alloc _, HN3.out.keep (b37.alloc (by omega) _), Boxed.new _ _ _, HO7.out.alloc _, Nat.le_refl _, Nat.le_refl _, by omega, h3, h2⟩)
    have X8 : Hid (Boxed (w7.alloc (.cells #[.slice a7 m c7] 30)) w5.heap.size 30 (.slice (some ⟨g5, 0, none⟩) n n) ∧ (w7.alloc (.cells #[.slice a7 m c7] 30)).ownsRow w4.heap.size 74 3 (.slice (some ⟨g5, 0, none⟩) n n) n (ndc t)) := Lib.hid ⟨(box_stay HXB.out HB7.out).alloc _, (own_stay HXO.out HB7.out).alloc _⟩
    have HZX : Hid (w3.heap.size ≤ g5 ∧ g5 ≠ w3.heap.size ∧ g5 < w6.heap.size) := Lib.hid (by
      have h1 := HZ4.out
      have h2 := HG5.out
      have h4 := HZ6.out
      omega)
    obtain ⟨hx, hy⟩ := K8.out.see
    go_wp2_with fail
    clear hx hy
    obtain ⟨w8, hw8⟩ : ∃ w8, w7.alloc (.cells #[.slice a7 m c7] 30) = w8 := ⟨_, rfl⟩
    rw [hw8] at K8 X8 ⊢
    clear hw8
    refine (eq_trie a7 a3 m c7 c3 tt w8 (nds_own K8.out.own HFit.out) K8.out.read).mono ?_
    rintro e w9 ⟨rfl, hb9⟩
    have K9 := Lib.hid (K8.out.keep hb9)
    have X9 : Hid (Boxed w9 w5.heap.size 30 (.slice (some ⟨g5, 0, none⟩) n n) ∧ w9.ownsRow w4.heap.size 74 3 (.slice (some ⟨g5, 0, none⟩) n n) n (ndc t)) := Lib.hid ⟨box_stay X8.out.1 hb9, own_stay X8.out.2 hb9⟩
    clear hb9
    have hx := (K9.out.bel.cell (p := ⟨w.heap.size, 0, none⟩) hlt0).trans HX.out
    have hy := X9.out.1.cell
    have hl1 : w.heap.size < w9.heap.size := Nat.lt_of_lt_of_le hlt0 K9.out.bel.size
    have hl2 : w5.heap.size < w9.heap.size := X9.out.1.lt
    go_wp2_with fail
    go_region_held3 (fun w' => w'.cell? ⟨w.heap.size, 0, none⟩ = some (.slice a n c) ∧ w'.cell? ⟨w5.heap.size, 0, none⟩ = some (.slice (some ⟨g5, 0, none⟩) n n))
      (first
        | exact ⟨(hb11.cell (p := ⟨w.heap.size, 0, none⟩) (Nat.lt_of_lt_of_le hl1 hb10.size)).trans ((hb10.cell (p := ⟨w.heap.size, 0, none⟩) hl1).trans hx), (hb11.cell (p := ⟨w5.heap.size, 0, none⟩) (Nat.lt_of_lt_of_le hl2 hb10.size)).trans ((hb10.cell (p := ⟨w5.heap.size, 0, none⟩) hl2).trans hy)⟩
        | exact ⟨(hb10.cell (p := ⟨w.heap.size, 0, none⟩) hl1).trans hx, (hb10.cell (p := ⟨w5.heap.size, 0, none⟩) hl2).trans hy⟩
        | exact ⟨hx, hy⟩)
      (first
        | (go_at_call 26; refine (cT.out _ (by exact K9.out.bel.drew)).mono ?_; rintro e w10 ⟨g10, rfl, hO10, hb10⟩)
        | (go_at_call 17; refine (eq_trie _ _ n n n t _ (by exact ((nds_own X9.out.2 HFitT.out).keep ((Below.refl _ _).drew.trans hb10)).mono hb10.size) (nds_own hO10 HFitT.out)).mono ?_; rintro e w11 ⟨rfl, hb11⟩))
    have hb911 : Below w9.heap.size w9 w11 := ((Below.refl _ _).drew.trans hb10).trans (hb11.mono hb10.size)
    have K11 := Lib.hid (K9.out.keep hb911)
    have X11 : Hid (Boxed w11 w5.heap.size 30 (.slice (some ⟨g5, 0, none⟩) n n) ∧ w11.ownsRow w4.heap.size 74 3 (.slice (some ⟨g5, 0, none⟩) n n) n (ndc t)) := Lib.hid ⟨box_stay X9.out.1 hb911, own_stay X9.out.2 hb911⟩
    clear hx hy hb911 hb10 hb11 hO10
    have hy := X11.out.1.cell
    have hb4 : w4.heap.size ≤ w11.heap.size := by have := own_lt X11.out.2; have := HG5.out; omega
    go_wp2_with fail
    refine (markTrie_own w4.heap.size n n 1 (some ⟨g5, 0, none⟩) t w11 X11.out.2 hb4 hn (by omega)).mono ?_
    rintro e w12 ⟨rfl, hg12, _⟩
    have K12 := Lib.hid (K11.out.arg (gx := g5) hg12 HZX.out.1 HZX.out.2.1 HZX.out.2.2)
    clear hg12 hy
    obtain ⟨hx, hy⟩ := K12.out.see
    go_wp2_with fail
    refine (eq_trie a7 a3 m c7 c3 tt w12 (nds_own K12.out.own HFit.out) K12.out.read).mono ?_
    rintro e w13 ⟨rfl, hb13⟩
    have K13 := Lib.hid (K12.out.keep hb13)
    clear hb13 hx hy
    obtain ⟨hx, hy⟩ := K13.out.see
    go_wp2_with fail
    refine (markTrie_own w6.heap.size m c7 1 a7 tt w13 K13.out.own (by have := K13.out.box7.lt; have := K13.out.s7; omega) (by omega) (by omega)).mono ?_
    rintro e w14 ⟨rfl, hg14, hO14⟩
    have K14 := Lib.hid (K13.out.mark hg14 hO14)
    clear hg14 hO14 hx hy
    obtain ⟨hx, hy⟩ := K14.out.see
    have HFm := Lib.hid (marksN_fits (k := 1) (n := m) (by omega))
    go_wp2_with fail
    refine (heldTrie_any w14.heap.size 1 m c7 a7 w14 (Nat.le_refl _) (nds_own K14.out.own HFm.out) (by omega) (by omega)).mono ?_
    rintro e w15 ⟨rfl, hb15⟩
    have K15 := Lib.hid (K14.out.keep hb15)
    clear hb15 hx hy
    have hbx := (K15.out.bel.cell (p := ⟨w.heap.size, 0, none⟩) hlt0).trans HX.out
    go_wp2_with fail
    clear hbx
    refine (cT.out _ K15.out.bel).mono ?_
    rintro e w16 ⟨g16, rfl, hO16, hb16⟩
    have K16 := Lib.hid (K15.out.keep hb16)
    have N16 := Lib.hid (nds_own hO16 HFitT.out)
    clear hO16 hb16
    go_wp2_with fail
    refine (cIm.out _ _ N16.out).mono ?_
    rintro e w17 ⟨v17, rfl, hO17, hb17⟩
    obtain ⟨a17, c17, rfl⟩ := own_slice hO17
    have K18 := Lib.hid ((K16.out.keep hb17).keep ((Below.refl _ _).alloc (Nat.le_refl _) (.cells #[.slice a17 m c17] 30)))
    have HO18 := Lib.hid (hO17.alloc (.cells #[.slice a17 m c17] 30))
    clear hO17 hb17
    obtain ⟨hx, hy⟩ := K18.out.see
    go_wp2_with fail
    clear hx hy
    obtain ⟨w18, hw18⟩ : ∃ w18, w17.alloc (.cells #[.slice a17 m c17] 30) = w18 := ⟨_, rfl⟩
    rw [hw18] at K18 HO18 ⊢
    clear hw18
    refine (eq_trie a17 a3 m c17 c3 tt w18 (nds_own HO18.out HFit.out) K18.out.read).mono ?_
    rintro e w19 ⟨rfl, hb19⟩
    have K19 := Lib.hid (K18.out.keep hb19)
    clear hb19
    obtain ⟨hx, hy⟩ := K19.out.see
    go_wp2_with fail
    refine (heldTrie_any w19.heap.size 1 m c7 a7 w19 (Nat.le_refl _) (nds_own K19.out.own HFm.out) (by omega) (by omega)).mono ?_
    rintro e w20 ⟨rfl, hb20⟩
    have K20 := Lib.hid (K19.out.keep hb20)
    clear hb20 hx hy
    go_wp2_with fail
    go_ret
    exact ⟨rfl, HB1.out.trans (K20.out.bel.mono (by omega))⟩

end Go.Proofs.Ytmgieahachphmaa.fnExactDropWord
