/-
  The walk of the law FnExactTrieOf: both functions answer the same, in memory of their own.
-/
import Derived.Test.YtmgieahachphmaaLawTrie
import Derived.Test.YtmgieahachphmaaToStr
import Derived.Test.YtmgieahachphmaaMarkStr
namespace Go.Proofs.Ytmgieahachphmaa.fnExactTrieOf
open Go.RowKit
set_option linter.unusedVariables false

theorem eq_same (B : Nat) (a1 a2 : Option Addr) (n c d : Nat) (xs : List ByteArray) (w : World) (hB : B ≤ w.heap.size) (h1 : Strs B w a1 n c xs) (h2 : Strs B w a2 n d xs) :
    Calls Try.prog 12 #[.slice a1 n c, .slice a2 n d] w fun e w' => e = .returned (.bool true) ∧ Below w.heap.size w w' := by
  have := eqStringS_any B a1 a2 n c n d xs xs w hB h1 h2
  rwa [decide_eq_true rfl] at this

set_option maxRecDepth 1000000 in
set_option maxHeartbeats 2000000 in
theorem walk (a : Option Addr) (n c : Nat) (z0 : List ByteArray) (w : World) (w0 : IsStrs w a n c z0) :
    Calls Try.prog 5 #[.slice a n c] w fun e w' => e = .returned (.bool true) ∧ Below w.heap.size w w' := by
  obtain ⟨zs, hz⟩ : ∃ zs, zs = z0.take n := ⟨_, rfl⟩
  have h := w0.strs
  rw [← hz] at h
  clear hz w0
  obtain ⟨xs, rfl⟩ : ∃ xs : List Txt, zs = xs.map bx := ⟨zs.map tx, by rw [List.map_map]; exact (List.map_id'' (fun s => bx_tx s) zs).symm⟩
  have HA : Hid (Wds w.heap.size w a n c xs) := Lib.hid h
  have C := h.sl.cap
  have T := h.sl.top
  have HL : Hid (xs.length = n) := Lib.hid (Wds.len h)
  have cS := Lib.hid (szStringS_any w.heap.size a n c (xs.map bx) 1048576 w (Nat.le_refl _) h (by omega) (by omega))
  clear h
  obtain ⟨left, hleft⟩ : ∃ left, sz (xs.map bx) 1048576 = left := ⟨_, rfl⟩
  have HLeft := Lib.hid hleft
  rw [hleft] at cS
  clear hleft
  by_cases hbig : left < 0
  · go_enter Try.func5, Try.ntmps5
    go_wp2_with (go_at_call 20; refine cS.out.mono ?_; rintro e w1 ⟨rfl, rfl⟩)
    go_ret
    exact ⟨rfl, Below.refl _ _⟩
  · have hn : n ≤ 1048576 := by
      have := sz_sum (xs.map bx) 1048576 (by rw [HLeft.out]; omega)
      rw [List.length_map, HL.out] at this
      omega
    have cT : Hid (∀ W, Below w.heap.size w W → Calls Try.prog 22 #[.slice a n c] W fun e w' => e = .returned (.slice (some ⟨W.heap.size, 0, none⟩) n n) ∧ w'.ownsRow W.heap.size 9 1 (.slice (some ⟨W.heap.size, 0, none⟩) n n) n ((xs.map bx).map Value.string) ∧ W.heap.size < w'.heap.size ∧ Below W.heap.size W w') := Lib.hid (fun W hW => toStringS_own w.heap.size a n c (xs.map bx) W hW.size (HA.out.keep hW) hn)
    have HEach : Hid (∀ s ∈ xs.map bx, s.size ≤ 9223372036854775807) := Lib.hid HA.out.each
    have cSp : Hid (∀ (W : World) (g c' : Nat), Wds W.heap.size W (some ⟨g, 0, none⟩) n c' xs → Calls Try.prog 21 #[.slice (some ⟨g, 0, none⟩) n c'] W (ReadRes W (tofT xs) (setOk xs))) := Lib.hid (fun W g c' h => specTrieOf_any W.heap.size _ n c' xs W (Nat.le_refl _) h hn)
    have cIm : Hid (∀ (W : World) (g c' : Nat), Wds W.heap.size W (some ⟨g, 0, none⟩) n c' xs → Calls Try.prog 23 #[.slice (some ⟨g, 0, none⟩) n c'] W (TrieRes W (tofT xs) (setOk xs))) := Lib.hid (fun W g c' h => implTrieOf_any W.heap.size _ n c' xs W (Nat.le_refl _) h)
    have HFit := Lib.hid (tofT_fits xs)
    have hm := tofT_len xs
    obtain ⟨ok, hok⟩ : ∃ ok, setOk xs = ok := ⟨_, rfl⟩
    obtain ⟨tt, htt⟩ : ∃ tt, tofT xs = tt := ⟨_, rfl⟩
    rw [hok, htt] at cSp cIm
    rw [htt] at HFit hm
    obtain ⟨m, hmm⟩ : ∃ m, tt.length = m := ⟨_, rfl⟩
    rw [hmm] at hm
    have HM := Lib.hid hmm
    unfold ReadRes at cSp
    unfold TrieRes at cIm
    rw [hmm] at cSp cIm
    clear hok htt hmm
    have hrr : (ok != ok) = false := by cases ok <;> rfl
    have hq1 : ¬ (((1 + n : Nat) : Int) < 0) := by omega
    have hq2 : ¬ (((1 + 3 * m : Nat) : Int) < 0) := by omega
    have hq3 : (((1 + 3 * m : Nat) : Int) != ((1 + 3 * m : Nat) : Int)) = false := by simp
    go_enter Try.func5, Try.ntmps5
    go_wp2_with (first
      | (go_at_call 20; refine cS.out.mono ?_; rintro e w1 ⟨rfl, rfl⟩)
      | fail)
    refine (cT.out _ (Below.refl _ _)).mono ?_
    rintro e w2 ⟨rfl, hO2, hz2, hb2⟩
    have HB2 := Lib.hid hb2
    have S2 := Lib.hid (strs_of_own hO2 HEach.out hz2)
    clear hO2 hb2
    go_wp2_with fail
    refine (cSp.out _ _ _ S2.out).mono ?_
    rintro e w3 ⟨a3, c3, rfl, hN3, hb3⟩
    have HB3 := Lib.hid (HB2.out.trans (hb3.mono (by omega)))
    have HN3 := Lib.hid hN3
    have C3 := hN3.cap
    have T3 := hN3.top
    have HBx := Lib.hid (Boxed.new w3 30 (.slice a3 m c3))
    have HB4 : Hid (Below w3.heap.size w3 (w3.alloc (.cells #[.slice a3 m c3] 30))) := Lib.hid ((Below.refl _ _).alloc (Nat.le_refl _) _)
    have HZ4 : Hid ((w3.alloc (.cells #[.slice a3 m c3] 30)).heap.size = w3.heap.size + 1) := Lib.hid (by simp)
    clear hN3 hb3
    go_wp2_with fail
    obtain ⟨w4, hw4⟩ : ∃ w4, w3.alloc (.cells #[.slice a3 m c3] 30) = w4 := ⟨_, rfl⟩
    rw [hw4] at HBx HB4 HZ4 ⊢
    clear hw4
    refine (cT.out _ (HB3.out.trans (HB4.out.mono HB3.out.size))).mono ?_
    rintro e w5 ⟨rfl, hO5, hz5, hb5⟩
    have HB5 := Lib.hid hb5
    have HO5 := Lib.hid hO5
    have S5 := Lib.hid (strs_of_own hO5 HEach.out hz5)
    clear hO5 hb5
    go_wp2_with fail
    refine (cIm.out _ _ _ S5.out).mono ?_
    rintro e w6 ⟨v6, rfl, hO6, hb6⟩
    obtain ⟨a6, c6, rfl⟩ := own_slice hO6
    have HB6 := Lib.hid hb6
    have HO6 := Lib.hid hO6
    clear hO6 hb6
    have K7 : Hid (Two w.heap.size w (w6.alloc (.cells #[.slice a6 m c6] 30)) w3.heap.size w6.heap.size w3.heap.size w5.heap.size m a3 c3 tt a6 c6 tt) := Lib.hid (by
      have h1 := HZ4.out
      have h2 := HB3.out.size
      have h3 := HB6.out.size
      have b37 : Below w3.heap.size w3 w6 := HB4.out.trans ((HB5.out.mono (by omega)).trans (HB6.out.mono (by omega)))
      exact ⟨(HB3.out.trans (b37.mono h2)).alloc (by omega) _, (box_under HBx.out ((HB5.out).trans (HB6.out.mono (by omega))) (by omega)).alloc _, HN3.out.keep (b37.alloc (by omega) _), Boxed.new _ _ _, HO6.out.alloc _, Nat.le_refl _, Nat.le_refl _, by omega, h3, h2⟩)
    have X7 : Hid ((w6.alloc (.cells #[.slice a6 m c6] 30)).ownsRow w4.heap.size 9 1 (.slice (some ⟨w4.heap.size, 0, none⟩) n n) n ((xs.map bx).map Value.string)) := Lib.hid ((own_stay HO5.out HB6.out).alloc _)
    have HZX : Hid (w3.heap.size ≤ w4.heap.size ∧ w4.heap.size ≠ w3.heap.size ∧ w4.heap.size < w5.heap.size) := Lib.hid ⟨by have := HZ4.out; omega, by have := HZ4.out; omega, hz5⟩
    clear hz5
    obtain ⟨hx, hy⟩ := K7.out.see
    go_wp2_with fail
    clear hx hy
    obtain ⟨w7, hw7⟩ : ∃ w7, w6.alloc (.cells #[.slice a6 m c6] 30) = w7 := ⟨_, rfl⟩
    rw [hw7] at K7 X7 ⊢
    clear hw7
    refine (eq_trie a6 a3 m c6 c3 tt w7 (nds_own K7.out.own HFit.out) K7.out.read).mono ?_
    rintro e w8 ⟨rfl, hb8⟩
    have K8 := Lib.hid (K7.out.keep hb8)
    have X8 := Lib.hid (own_stay X7.out hb8)
    clear hb8
    go_wp2_with fail
    refine (cT.out _ K8.out.bel).mono ?_
    rintro e w9 ⟨rfl, hO9, hz9, hb9⟩
    have K9 := Lib.hid (K8.out.keep hb9)
    have X9 := Lib.hid (own_stay X8.out hb9)
    have S9 := Lib.hid (strs_of_own hO9 HEach.out hz9)
    have S9x := Lib.hid (strs_of_own X9.out HEach.out (own_lt X9.out))
    clear hO9 hb9 hz9
    go_wp2_with fail
    refine (eq_same w9.heap.size _ _ n n n _ w9 (Nat.le_refl _) S9x.out S9.out).mono ?_
    rintro e w10 ⟨rfl, hb10⟩
    have K10 := Lib.hid (K9.out.keep hb10)
    have X10 := Lib.hid (own_stay X9.out hb10)
    clear hb10
    go_wp2_with fail
    refine (markStringS_own w4.heap.size w4.heap.size n n 1 _ w10 X10.out (by have := own_lt X10.out; omega) (by omega) (by omega)).mono ?_
    rintro e w11 ⟨rfl, _, hg11⟩
    have K11 := Lib.hid (K10.out.arg hg11 HZX.out.1 HZX.out.2.1 HZX.out.2.2)
    clear hg11
    obtain ⟨hx, hy⟩ := K11.out.see
    go_wp2_with fail
    refine (eq_trie a6 a3 m c6 c3 tt w11 (nds_own K11.out.own HFit.out) K11.out.read).mono ?_
    rintro e w12 ⟨rfl, hb12⟩
    have K12 := Lib.hid (K11.out.keep hb12)
    clear hb12 hx hy
    obtain ⟨hx, hy⟩ := K12.out.see
    go_wp2_with fail
    refine (markTrie_own w5.heap.size m c6 1 a6 tt w12 K12.out.own (by have := K12.out.box7.lt; have := K12.out.s7; omega) (by omega) (by omega)).mono ?_
    rintro e w13 ⟨rfl, hg13, hO13⟩
    have K13 := Lib.hid (K12.out.mark hg13 hO13)
    clear hg13 hO13 hx hy
    obtain ⟨hx, hy⟩ := K13.out.see
    have HFm := Lib.hid (marksN_fits (k := 1) (n := m) (by omega))
    go_wp2_with fail
    refine (heldTrie_any w13.heap.size 1 m c6 a6 w13 (Nat.le_refl _) (nds_own K13.out.own HFm.out) (by omega) (by omega)).mono ?_
    rintro e w14 ⟨rfl, hb14⟩
    have K14 := Lib.hid (K13.out.keep hb14)
    clear hb14 hx hy
    go_wp2_with fail
    refine (cT.out _ K14.out.bel).mono ?_
    rintro e w15 ⟨rfl, hO15, hz15, hb15⟩
    have K15 := Lib.hid (K14.out.keep hb15)
    have S15 := Lib.hid (strs_of_own hO15 HEach.out hz15)
    clear hO15 hb15 hz15
    go_wp2_with fail
    refine (cIm.out _ _ _ S15.out).mono ?_
    rintro e w16 ⟨v16, rfl, hO16, hb16⟩
    obtain ⟨a16, c16, rfl⟩ := own_slice hO16
    have K16 := Lib.hid ((K15.out.keep hb16).keep ((Below.refl _ _).alloc (Nat.le_refl _) (.cells #[.slice a16 m c16] 30)))
    have HO16 := Lib.hid (hO16.alloc (.cells #[.slice a16 m c16] 30))
    clear hO16 hb16
    obtain ⟨hx, hy⟩ := K16.out.see
    go_wp2_with fail
    clear hx hy
    obtain ⟨w17, hw17⟩ : ∃ w17, w16.alloc (.cells #[.slice a16 m c16] 30) = w17 := ⟨_, rfl⟩
    rw [hw17] at K16 HO16 ⊢
    clear hw17
    refine (eq_trie a16 a3 m c16 c3 tt w17 (nds_own HO16.out HFit.out) K16.out.read).mono ?_
    rintro e w18 ⟨rfl, hb18⟩
    have K18 := Lib.hid (K16.out.keep hb18)
    clear hb18
    obtain ⟨hx, hy⟩ := K18.out.see
    go_wp2_with fail
    refine (heldTrie_any w18.heap.size 1 m c6 a6 w18 (Nat.le_refl _) (nds_own K18.out.own HFm.out) (by omega) (by omega)).mono ?_
    rintro e w19 ⟨rfl, hb19⟩
    have K19 := Lib.hid (K18.out.keep hb19)
    clear hb19 hx hy
    go_wp2_with fail
    go_ret
    exact ⟨rfl, K19.out.bel⟩

end Go.Proofs.Ytmgieahachphmaa.fnExactTrieOf
