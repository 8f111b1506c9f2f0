/-
  The walk of the law FnExactFatalWords: both functions answer the same, in memory of their own.
-/
import Derived.Test.YtfehfjnmkaifbabIsTrie
import Derived.Test.YtfehfjnmkaifbabOwnTrie
import Derived.Test.YtfehfjnmkaifbabFatalI11
import Derived.Test.YtfehfjnmkaifbabMarkOwnS
import Derived.Test.YtfehfjnmkaifbabMarkT
namespace Go.Proofs.Ytfehfjnmkaifbab.fnExactFatalWords
open Go.RowKit
set_option linter.unusedVariables false

set_option maxRecDepth 1000000 in
set_option maxHeartbeats 2000000 in
theorem walk (a : Option Addr) (n c : Nat) (t : List Nd) (x0 : Int) (w : World) (w0 : n ≤ maxLen ∧ Nds w.heap.size w a n c t) (qx0 : (Lit.int .i64 x0).wf = true) :
    Calls Try.prog 4 #[.agg #[.slice a n c], .int .i64 x0] w fun e w' => e = .returned (.bool true) ∧ Below w.heap.size w w' := by
  obtain ⟨hm, h⟩ := w0
  unfold maxLen at hm
  have hx0 := wf_i64 qx0
  clear qx0
  have C := h.cap
  have T := h.top
  have HFit : Hid (Fits t) := Lib.hid h.rng
  have HB1 : Hid (Below w.heap.size w (w.alloc (.cells #[.slice a n c] 24))) := Lib.hid ((Below.refl _ _).alloc (Nat.le_refl _) _)
  have hlt0 : w.heap.size < (w.alloc (.cells #[.slice a n c] 24)).heap.size := by simp
  have hbx : (w.alloc (.cells #[.slice a n c] 24)).cell? ⟨w.heap.size, 0, none⟩ = some (.slice a n c) := by simp
  have HN : Hid (Nds w.heap.size (w.alloc (.cells #[.slice a n c] 24)) a n c t) := Lib.hid (h.keep HB1.out)
  clear h
  go_enter Try.func4, Try.ntmps4
  go_wp2_with fail
  obtain ⟨W0, hW0⟩ : ∃ W0, w.alloc (.cells #[.slice a n c] 24) = W0 := ⟨_, rfl⟩
  rw [hW0] at HB1 hlt0 hbx HN ⊢
  clear hW0
  have HX := Lib.hid hbx
  clear hbx
  have cS := Lib.hid (szTrie_any w.heap.size a n c t 1048576 W0 HN.out (by omega) (by omega))
  by_cases hbig : 1048576 < n
  · have e : (if (1048576 : Int) - n < 0 then (-1 : Int) else 1048576 - n) = -1 := if_pos (by omega)
    rw [e] at cS
    clear e
    refine cS.out.mono ?_
    rintro e w1 ⟨rfl, hb1⟩
    go_wp2_with fail
    go_ret
    exact ⟨rfl, HB1.out.trans (hb1.mono (by omega))⟩
  · have hn : n ≤ 1048576 := by omega
    have e : (if (1048576 : Int) - n < 0 then (-1 : Int) else 1048576 - n) = 1048576 - n := if_neg (by omega)
    rw [e] at cS
    clear e
    have cT : Hid (∀ W, Below W0.heap.size W0 W → Calls Try.prog 11 #[.agg #[.slice a n c]] W fun e w' => ∃ g, e = .returned (.agg #[.slice (some ⟨g, 0, none⟩) n n]) ∧ w'.ownsRow W.heap.size 66 3 (.slice (some ⟨g, 0, none⟩) n n) n (ndc t) ∧ Below W.heap.size W w') := Lib.hid (fun W hW => toTrie_any w.heap.size a n c t W (by have := hW.size; omega) (HN.out.keep (hW.mono (by omega))) hn)
    have cEq : Hid (∀ (W : World) (a1 a2 : Option Addr), Nds W.heap.size W a1 n n t → Nds W.heap.size W a2 n n t → Calls Try.prog 13 #[.agg #[.slice a1 n n], .agg #[.slice a2 n n]] W fun e w' => e = .returned (.bool true) ∧ Below W.heap.size W w') := Lib.hid (fun W a1 a2 h1 h2 => eqTrie_any W.heap.size a1 a2 n n n n t t W (Nat.le_refl _) h1 h2 true (by simp))
    obtain ⟨ws, ok, hm40, hshort, hsp, him⟩ := agreeFatalWords t n n x0 hn (by first | omega | exact hx0)
    have cSp := Lib.hid hsp
    have cIm := Lib.hid him
    have HSh := Lib.hid hshort
    unfold ownS.OwnTexts at cSp cIm
    obtain ⟨m, hmm⟩ : ∃ m, ws.length = m := ⟨_, rfl⟩
    rw [hmm] at cSp cIm hm40
    clear hmm hsp him hshort
    have hrr : (ok != ok) = false := by cases ok <;> rfl
    refine cS.out.mono ?_
    rintro e w1 ⟨rfl, hb1⟩
    have H1 := Lib.hid hb1
    have hbx := (hb1.cell (p := ⟨w.heap.size, 0, none⟩) hlt0).trans HX.out
    clear hb1
    go_wp2_with fail
    clear hbx
    refine (cT.out _ H1.out).mono ?_
    rintro e w2 ⟨g2, rfl, hO2, hb2⟩
    have H2 := Lib.hid (H1.out.trans (hb2.mono H1.out.size))
    have N2 := Lib.hid (own_trie hO2 HFit.out)
    clear hb2 hO2
    go_wp2_with fail
    refine (cSp.out _ _ N2.out).mono ?_
    rintro e w3 ⟨v3, rfl, hO3, hb3⟩
    obtain ⟨a3, c3, rfl, hW3⟩ := own_wds hO3 HSh.out
    clear hO3
    have H3 := Lib.hid (H2.out.trans (hb3.mono H2.out.size))
    have S3 := Lib.hid hW3
    clear hb3 hW3
    have hbx := (H3.out.cell (p := ⟨w.heap.size, 0, none⟩) hlt0).trans HX.out
    go_wp2_with fail
    clear hbx
    refine (cT.out _ H3.out).mono ?_
    rintro e w4 ⟨g4, rfl, hO4, hb4⟩
    have H4 := Lib.hid (H3.out.trans (hb4.mono H3.out.size))
    have O4 := Lib.hid hO4
    have hg4 := own_base hO4
    have hg4' := own_lt hO4
    have S4 := Lib.hid ((S3.out.keep hb4).mono hb4.size)
    have K4 := Lib.hid hb4
    clear hb4 hO4
    have HB5 : Hid (Below w4.heap.size w4 (w4.alloc (.cells #[.slice (some ⟨g4, 0, none⟩) n n] 30))) := Lib.hid ((Below.refl _ _).alloc (Nat.le_refl _) _)
    have hbz : (w4.alloc (.cells #[.slice (some ⟨g4, 0, none⟩) n n] 30)).cell? ⟨w4.heap.size, 0, none⟩ = some (.slice (some ⟨g4, 0, none⟩) n n) := by simp
    have hlt5 : w4.heap.size < (w4.alloc (.cells #[.slice (some ⟨g4, 0, none⟩) n n] 30)).heap.size := by simp
    go_wp2_with fail
    obtain ⟨w5, hw5⟩ : ∃ w5, w4.alloc (.cells #[.slice (some ⟨g4, 0, none⟩) n n] 30) = w5 := ⟨_, rfl⟩
    rw [hw5] at HB5 hbz hlt5 ⊢
    clear hw5
    have HZ := Lib.hid hbz
    clear hbz
    have H5 := Lib.hid (H4.out.trans (HB5.out.mono H4.out.size))
    have O5 := Lib.hid (own_stay O4.out HB5.out)
    have S5 := Lib.hid ((S4.out.keep HB5.out).mono HB5.out.size)
    have K5 := Lib.hid (K4.out.trans (HB5.out.mono K4.out.size))
    refine (cIm.out _ _ (own_trie O5.out HFit.out)).mono ?_
    rintro e w6 ⟨v6, rfl, hO6, hb6⟩
    obtain ⟨a6, c6, rfl⟩ := own_slice hO6
    have H6 := Lib.hid (H5.out.trans (hb6.mono H5.out.size))
    have HB6 := Lib.hid hb6
    have K6 := Lib.hid (K5.out.trans (hb6.mono K5.out.size))
    have O6 := Lib.hid hO6
    have hge6 := fun g (hg : (Value.slice a6 m c6).ownBlock = some g) => (own_ge hO6 hg).1
    have HG6 := Lib.hid hge6
    obtain ⟨a6', c6', e6, hW6⟩ := own_wds hO6 HSh.out
    have S6 : Hid (Wds w6.heap.size w6 a6 m c6 ws) := Lib.hid (by injection e6 with e1 _ e2; rw [e1, e2]; exact hW6)
    have S3b := Lib.hid ((S5.out.keep hb6).mono hb6.size)
    clear hO6 hb6 hge6 hW6 e6
    have hz6 := H6.out.size
    go_wp2_with fail
    refine (ownS.eq_same w6.heap.size a6 a3 m c6 c3 _ w6 (Nat.le_refl _) S6.out S3b.out).mono ?_
    rintro e w7 ⟨rfl, hb7⟩
    have H7 := Lib.hid (H6.out.trans (hb7.mono H6.out.size))
    have hx := (H7.out.cell (p := ⟨w.heap.size, 0, none⟩) hlt0).trans HX.out
    have hlt6 : w4.heap.size < w6.heap.size := Nat.lt_of_lt_of_le hlt5 HB6.out.size
    have hy := (hb7.cell (p := ⟨w4.heap.size, 0, none⟩) hlt6).trans ((HB6.out.cell (p := ⟨w4.heap.size, 0, none⟩) hlt5).trans HZ.out)
    have hl1 : w.heap.size < w7.heap.size := Nat.lt_of_lt_of_le hlt0 H7.out.size
    have hl2 : w4.heap.size < w7.heap.size := Nat.lt_of_lt_of_le hlt6 hb7.size
    have O7 := Lib.hid (own_stay (own_stay O5.out HB6.out) hb7)
    have P7 := Lib.hid (own_stay O6.out hb7)
    have K7 := Lib.hid (K6.out.trans (hb7.mono K6.out.size))
    have hz7 := hb7.size
    clear hb7
    go_wp2_with fail
    go_region_held3 (fun w' => w'.cell? ⟨w.heap.size, 0, none⟩ = some (.slice a n c) ∧ w'.cell? ⟨w4.heap.size, 0, none⟩ = some (.slice (some ⟨g4, 0, none⟩) n n))
      (first
        | exact ⟨(hb9.cell (p := ⟨w.heap.size, 0, none⟩) (Nat.lt_of_lt_of_le hl1 hb8.size)).trans ((hb8.cell (p := ⟨w.heap.size, 0, none⟩) hl1).trans hx), (hb9.cell (p := ⟨w4.heap.size, 0, none⟩) (Nat.lt_of_lt_of_le hl2 hb8.size)).trans ((hb8.cell (p := ⟨w4.heap.size, 0, none⟩) hl2).trans hy)⟩
        | exact ⟨(hb8.cell (p := ⟨w.heap.size, 0, none⟩) hl1).trans hx, (hb8.cell (p := ⟨w4.heap.size, 0, none⟩) hl2).trans hy⟩
        | exact ⟨hx, hy⟩)
      (first
        | (go_at_call 11; refine (cT.out _ (by exact H7.out.drew)).mono ?_; rintro e w8 ⟨g8, rfl, hO8, hb8⟩)
        | (go_at_call 13; refine (cEq.out _ _ _ (by exact ((own_trie O7.out HFit.out).keep ((Below.refl _ _).drew.trans hb8)).mono hb8.size) (own_trie hO8 HFit.out)).mono ?_; rintro e w9 ⟨rfl, hb9⟩))
    have hb79 : Below w7.heap.size w7 w9 := ((Below.refl _ _).drew.trans hb8).trans (hb9.mono hb8.size)
    have H9 := Lib.hid (H7.out.trans (hb79.mono H7.out.size))
    have O9 := Lib.hid (own_stay O7.out hb79)
    have P9 := Lib.hid (own_stay P7.out hb79)
    have K9 := Lib.hid (K7.out.trans (hb79.mono K7.out.size))
    have hy9 := (hb79.cell (p := ⟨w4.heap.size, 0, none⟩) hl2).trans hy
    have hz9 := hb79.size
    clear hx hy hb79 hb8 hb9 hO8
    go_wp2_with fail
    have hb39 : w3.heap.size ≤ w9.heap.size := by have := HB5.out.size; omega
    refine (markTrie_any w3.heap.size g4 n n 1 t w9 O9.out hb39 hn (by omega)).mono ?_
    rintro e w10 ⟨rfl, hgr⟩
    have HB10 := Lib.hid (grown_below hgr hb39 hg4)
    have P10 := Lib.hid (P9.out.kept hgr (.inr (by intro e; have := HG6.out _ e; have := HB5.out.size; omega)))
    have hz10 := hgr.size
    have H10 := Lib.hid (H9.out.trans (HB10.out.mono H3.out.size))
    have K10 := Lib.hid (K9.out.trans HB10.out)
    have T10 : Hid (Wds w10.heap.size w10 a3 m c3 ws) := Lib.hid ((S3.out.keep K10.out).mono K10.out.size)
    obtain ⟨a6', c6', e6, hW6⟩ := own_wds P10.out HSh.out
    have S10 : Hid (Wds w10.heap.size w10 a6 m c6 ws) := Lib.hid (by injection e6 with e1 _ e2; rw [e1, e2]; exact hW6)
    clear hgr hW6 e6 hy9
    have hq0 : ¬ (((1 + 3 * n : Nat) : Int) < 0) := by omega
    go_wp2_with fail
    refine (ownS.eq_same w10.heap.size a6 a3 m c6 c3 _ w10 (Nat.le_refl _) S10.out T10.out).mono ?_
    rintro e w11 ⟨rfl, hb11⟩
    have H11 := Lib.hid (H10.out.trans (hb11.mono H10.out.size))
    have K11 := Lib.hid (K10.out.trans (hb11.mono K10.out.size))
    have P11 := Lib.hid (own_stay P10.out hb11)
    have hz11 := hb11.size
    clear hb11
    have hw5 : w5.heap.size ≤ w11.heap.size := by have := HB6.out.size; omega
    go_wp2_with fail
    refine (ownS.mark_own w5.heap.size m c6 a6 _ w11 P11.out hw5 (by omega)).mono ?_
    rintro e w12 ⟨rfl, hM12, hb12⟩
    have HB12 := Lib.hid hb12
    have h35 : w3.heap.size ≤ w5.heap.size := K5.out.size
    have h05 : W0.heap.size ≤ w5.heap.size := H5.out.size
    have hz12 : w5.heap.size ≤ w12.heap.size := by have := World.block_lt_of_cell? (w := w11); have := hb12.size; omega
    have H12 := Lib.hid (H11.out.trans (hb12.mono h05))
    have K12 := Lib.hid (K11.out.trans (hb12.mono h35))
    have M12 := Lib.hid hM12
    clear hb12 hM12
    go_wp2_with fail
    refine (heldStringS_any w12.heap.size 1 m c6 a6 w12 (Nat.le_refl _) M12.out (by omega) (by omega)).mono ?_
    rintro e w13 ⟨rfl, hb13⟩
    have H13 := Lib.hid (H12.out.trans (hb13.mono H12.out.size))
    have K13 := Lib.hid (K12.out.trans (hb13.mono K12.out.size))
    have M13 := Lib.hid ((M12.out.keep hb13).mono hb13.size)
    clear hb13
    have hq1 : ¬ (((1 + m : Nat) : Int) < 0) := by omega
    have hq2 : (((1 + m : Nat) : Int) != ((1 + m : Nat) : Int)) = false := by simp
    have hbx := (H13.out.cell (p := ⟨w.heap.size, 0, none⟩) hlt0).trans HX.out
    go_wp2_with fail
    clear hbx
    refine (cT.out _ H13.out).mono ?_
    rintro e w14 ⟨g14, rfl, hO14, hb14⟩
    have H14 := Lib.hid (H13.out.trans (hb14.mono H13.out.size))
    have K14 := Lib.hid (K13.out.trans (hb14.mono K13.out.size))
    have M14 := Lib.hid ((M13.out.keep hb14).mono hb14.size)
    have N14 := Lib.hid (own_trie hO14 HFit.out)
    clear hO14 hb14
    go_wp2_with fail
    refine (cIm.out _ _ N14.out).mono ?_
    rintro e w15 ⟨v15, rfl, hO15, hb15⟩
    obtain ⟨a15, c15, rfl, hW15⟩ := own_wds hO15 HSh.out
    have H15 := Lib.hid (H14.out.trans (hb15.mono H14.out.size))
    have K15 := Lib.hid (K14.out.trans (hb15.mono K14.out.size))
    have M15 := Lib.hid ((M14.out.keep hb15).mono hb15.size)
    have T15 : Hid (Wds w15.heap.size w15 a3 m c3 ws) := Lib.hid ((S3.out.keep K15.out).mono K15.out.size)
    have S15 : Hid (Wds w15.heap.size w15 a15 m c15 ws) := Lib.hid hW15
    clear hO15 hb15 hW15
    go_wp2_with fail
    refine (ownS.eq_same w15.heap.size a15 a3 m c15 c3 _ w15 (Nat.le_refl _) S15.out T15.out).mono ?_
    rintro e w16 ⟨rfl, hb16⟩
    have H16 := Lib.hid (H15.out.trans (hb16.mono H15.out.size))
    have M16 := Lib.hid ((M15.out.keep hb16).mono hb16.size)
    clear hb16
    go_wp2_with fail
    refine (heldStringS_any w16.heap.size 1 m c6 a6 w16 (Nat.le_refl _) M16.out (by omega) (by omega)).mono ?_
    rintro e w17 ⟨rfl, hb17⟩
    go_wp2_with fail
    go_ret
    exact ⟨rfl, HB1.out.trans ((H16.out.trans (hb17.mono H16.out.size)).mono (by omega))⟩

end Go.Proofs.Ytfehfjnmkaifbab.fnExactFatalWords
