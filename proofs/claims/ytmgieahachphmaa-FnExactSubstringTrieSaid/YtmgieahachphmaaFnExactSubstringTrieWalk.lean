/-
  The walk of the law FnExactSubstringTrie: both functions answer the same, in memory of their own.
-/
import Derived.Test.YtmgieahachphmaaSubA
namespace Go.Proofs.Ytmgieahachphmaa.fnExactSubstringTrie
open Go.RowKit
set_option linter.unusedVariables false

set_option maxRecDepth 1000000 in
set_option maxHeartbeats 2000000 in
theorem walk (s0 : ByteArray) (w : World) (w0 : s0.size ≤ maxLen) :
    Calls Try.prog 4 #[.string s0] w fun e w' => e = .returned (.bool true) ∧ Below w.heap.size w w' := by
  unfold maxLen at w0
  by_cases hb0 : 1048576 < s0.size
  · go_enter Try.func4, Try.ntmps4
    go_wp2_with fail
    go_ret
    exact ⟨rfl, Below.refl _ _⟩
  have cSp := Lib.hid (specSubTrie_any s0 (by omega))
  have cIm := Lib.hid (implSubTrie_any s0 (by omega))
  have HFit := Lib.hid (subT_fits s0)
  have hm := subT_len s0
  obtain ⟨ok, hok⟩ : ∃ ok, subK s0 = ok := ⟨_, rfl⟩
  obtain ⟨tt, htt⟩ : ∃ tt, subT s0 = tt := ⟨_, rfl⟩
  rw [hok, htt] at cSp cIm
  rw [htt] at HFit hm
  obtain ⟨m, hmm⟩ : ∃ m, tt.length = m := ⟨_, rfl⟩
  rw [hmm] at hm
  have HM := Lib.hid hmm
  unfold ReadRes at cSp
  unfold TrieRes at cIm
  rw [hmm] at cSp cIm
  clear hok htt hmm
  have hrr : (ok != ok) = false := by cases ok <;> rfl
  have hq2 : ¬ (((1 + 3 * m : Nat) : Int) < 0) := by omega
  have hq3 : (((1 + 3 * m : Nat) : Int) != ((1 + 3 * m : Nat) : Int)) = false := by simp
  go_enter Try.func4, Try.ntmps4
  go_wp2_with fail
  refine (cSp.out _).mono ?_
  rintro e w3 ⟨a3, c3, rfl, hN3, hb3⟩
  have HB3 := Lib.hid hb3
  have HN3 := Lib.hid hN3
  have C3 := hN3.cap
  have T3 := hN3.top
  have HBx := Lib.hid (Boxed.new w3 30 (.slice a3 m c3))
  have HB4 : Hid (Below w3.heap.size w3 (w3.alloc (.cells #[.slice a3 m c3] 30))) := Lib.hid ((Below.refl _ _).alloc (Nat.le_refl _) _)
  have HZ4 : Hid ((w3.alloc (.cells #[.slice a3 m c3] 30)).heap.size = w3.heap.size + 1) := Lib.hid (by simp)
  clear hN3 hb3
  go_wp2_with fail
  obtain ⟨w4, hw4⟩ : ∃ w4, w3.alloc (.cells #[.slice a3 m c3] 30) = w4 := ⟨_, rfl⟩
  rw [hw4] at HBx HB4 HZ4 ⊢
  clear hw4
  refine (cIm.out _).mono ?_
  rintro e w6 ⟨v6, rfl, hO6, hb6⟩
  obtain ⟨a6, c6, rfl⟩ := own_slice hO6
  have HB6 := Lib.hid hb6
  have HO6 := Lib.hid hO6
  clear hO6 hb6
  have K7 : Hid (Two w.heap.size w (w6.alloc (.cells #[.slice a6 m c6] 30)) w3.heap.size w6.heap.size w3.heap.size w4.heap.size m a3 c3 tt a6 c6 tt) := Lib.hid (by
    have h1 := HZ4.out
    have h2 := HB3.out.size
    have h3 := HB6.out.size
    have b37 : Below w3.heap.size w3 w6 := HB4.out.trans (HB6.out.mono (by omega))
    exact ⟨(HB3.out.trans (b37.mono h2)).alloc (by omega) _, (box_under HBx.out HB6.out (by omega)).alloc _, HN3.out.keep (b37.alloc (by omega) _), Boxed.new _ _ _, HO6.out.alloc _, Nat.le_refl _, Nat.le_refl _, by omega, h3, h2⟩)
  obtain ⟨hx, hy⟩ := K7.out.see
  go_wp2_with fail
  clear hx hy
  obtain ⟨w7, hw7⟩ : ∃ w7, w6.alloc (.cells #[.slice a6 m c6] 30) = w7 := ⟨_, rfl⟩
  rw [hw7] at K7 ⊢
  clear hw7
  refine (eq_trie a6 a3 m c6 c3 tt w7 (nds_own K7.out.own HFit.out) K7.out.read).mono ?_
  rintro e w12 ⟨rfl, hb12⟩
  have K12 := Lib.hid (K7.out.keep hb12)
  clear hb12
  obtain ⟨hx, hy⟩ := K12.out.see
  go_wp2_with fail
  refine (markTrie_own w4.heap.size m c6 1 a6 tt w12 K12.out.own (by have := K12.out.box7.lt; have := K12.out.s7; omega) (by omega) (by omega)).mono ?_
  rintro e w13 ⟨rfl, hg13, hO13⟩
  have K13 := Lib.hid (K12.out.mark hg13 hO13)
  clear hg13 hO13 hx hy
  obtain ⟨hx, hy⟩ := K13.out.see
  have HFm := Lib.hid (marksN_fits (k := 1) (n := m) (by omega))
  go_wp2_with fail
  refine (heldTrie_any w13.heap.size 1 m c6 a6 w13 (Nat.le_refl _) (nds_own K13.out.own HFm.out) (by omega) (by omega)).mono ?_
  rintro e w14 ⟨rfl, hb14⟩
  have K14 := Lib.hid (K13.out.keep hb14)
  clear hb14 hx hy
  go_wp2_with fail
  refine (cIm.out _).mono ?_
  rintro e w16 ⟨v16, rfl, hO16, hb16⟩
  obtain ⟨a16, c16, rfl⟩ := own_slice hO16
  have K16 := Lib.hid ((K14.out.keep hb16).keep ((Below.refl _ _).alloc (Nat.le_refl _) (.cells #[.slice a16 m c16] 30)))
  have HO16 := Lib.hid (hO16.alloc (.cells #[.slice a16 m c16] 30))
  clear hO16 hb16
  obtain ⟨hx, hy⟩ := K16.out.see
  go_wp2_with fail
  clear hx hy
  obtain ⟨w17, hw17⟩ : ∃ w17, w16.alloc (.cells #[.slice a16 m c16] 30) = w17 := ⟨_, rfl⟩
  rw [hw17] at K16 HO16 ⊢
  clear hw17
  refine (eq_trie a16 a3 m c16 c3 tt w17 (nds_own HO16.out HFit.out) K16.out.read).mono ?_
  rintro e w18 ⟨rfl, hb18⟩
  have K18 := Lib.hid (K16.out.keep hb18)
  clear hb18
  obtain ⟨hx, hy⟩ := K18.out.see
  go_wp2_with fail
  refine (heldTrie_any w18.heap.size 1 m c6 a6 w18 (Nat.le_refl _) (nds_own K18.out.own HFm.out) (by omega) (by omega)).mono ?_
  rintro e w19 ⟨rfl, hb19⟩
  have K19 := Lib.hid (K18.out.keep hb19)
  clear hb19 hx hy
  go_wp2_with fail
  go_ret
  exact ⟨rfl, K19.out.bel⟩

end Go.Proofs.Ytmgieahachphmaa.fnExactSubstringTrie
