/-
  How many words a trie has, and how many are under a node: the program's functions.
-/
import Derived.Test.YtibdfhhbkbncgaaGoodC
import Derived.Test.YtibdfhhbkbncgaaBelC
import Derived.Test.YtibdfhhbkbncgaaUnd
import Derived.Test.YtibdfhhbkbncgaaWordsN
namespace Go.Proofs.Ytibdfhhbkbncgaa
open Go.RowKit
set_option linter.unusedVariables false

set_option maxHeartbeats 1000000 in
theorem implCountWords_any (t : List Nd) (n c : Nat) (W : World) (a : Option Addr) (hN : Nds W.heap.size W a n c t) :
    Calls Try.prog 33 #[.agg #[.slice a n c]] W fun e w' => e = .returned (.tuple #[.int .i64 ((wordsOf t).length : Int), .bool (trieB t)]) ∧ Below W.heap.size W w' := by
  have HB1 : Hid (Below W.heap.size W (W.alloc (.cells #[.slice a n c] 31))) := Lib.hid ((Below.refl _ _).alloc (Nat.le_refl _) _)
  have hbx : (W.alloc (.cells #[.slice a n c] 31)).cell? ⟨W.heap.size, 0, none⟩ = some (.slice a n c) := by simp
  have hlt : W.heap.size < (W.alloc (.cells #[.slice a n c] 31)).heap.size := by simp
  have HL := Lib.hid hN.len
  have HN := Lib.hid (hN.keep HB1.out)
  clear hN
  by_cases ht : IsT t
  · obtain ⟨ps, hv⟩ := ht
    have HT := Lib.hid (trieB_iff.2 ⟨ps, hv⟩)
    have hn481 : n ≤ 481 := by have := hv.size; have := HL.out; omega
    have HM : Hid (ends t = (wordsOf t).length) := Lib.hid (by rw [wordsOf_eq hv, hv.wordsLen])
    rw [HT.out]
    obtain ⟨m, hm⟩ : ∃ m, (wordsOf t).length = m := ⟨_, rfl⟩
    rw [hm] at HM ⊢
    clear hm hv
    go_enter Try.func33, Try.ntmps33
    go_wp2_with fail
    obtain ⟨W1, hW1⟩ : ∃ W1, W.alloc (.cells #[.slice a n c] 31) = W1 := ⟨_, rfl⟩
    rw [hW1] at HB1 hbx hlt HN ⊢
    clear hW1
    have HX := Lib.hid hbx
    clear hbx
    refine (isTrie_any W.heap.size a n c t W1 HB1.out.size HN.out).mono ?_
    rw [HT.out]
    rintro e W2 ⟨rfl, hb2⟩
    have HB2 := Lib.hid (HB1.out.trans (hb2.mono HB1.out.size))
    have N2 := Lib.hid (HN.out.keep (hb2.mono HB1.out.size))
    have hbx := (hb2.cell (p := ⟨W.heap.size, 0, none⟩) hlt).trans HX.out
    clear hb2
    go_wp2_with fail
    refine (countEnds_any W.heap.size a n c t W2 HB2.out.size N2.out (by omega)).mono ?_
    rw [HM.out]
    rintro e W3 ⟨rfl, hb3⟩
    clear hbx
    go_wp2_with fail
    go_ret2
    exact ⟨rfl, HB2.out.trans (hb3.mono HB2.out.size)⟩
  · have HT := Lib.hid (trieB_no ht)
    rw [HT.out, wordsOf_no ht]
    clear ht
    go_enter Try.func33, Try.ntmps33
    go_wp2_with fail
    refine (isTrie_any W.heap.size a n c t _ HB1.out.size HN.out).mono ?_
    rw [HT.out]
    rintro e W2 ⟨rfl, hb2⟩
    go_wp2_with fail
    go_ret2
    exact ⟨rfl, HB1.out.trans (hb2.mono HB1.out.size)⟩

set_option maxHeartbeats 1000000 in
theorem implCountUnder_no (t : List Nd) (n c : Nat) (x0 : Int) (hn : n ≤ 1048576) (hr : ¬ (IsT t ∧ 0 ≤ x0 ∧ x0 < n)) (W : World) (a : Option Addr) (hN : Nds W.heap.size W a n c t) :
    Calls Try.prog 34 #[.agg #[.slice a n c], .int .i64 x0] W fun e w' => e = .returned (.tuple #[.int .i64 0, .bool false]) ∧ Below W.heap.size W w' := by
  have HB1 : Hid (Below W.heap.size W (W.alloc (.cells #[.slice a n c] 31))) := Lib.hid ((Below.refl _ _).alloc (Nat.le_refl _) _)
  have HN := Lib.hid (hN.keep HB1.out)
  have cGi := Lib.hid (cap.isNodeOf_any t n c x0 hn false ⟨fun h => (by cases h), fun h => absurd h hr⟩ _ W.heap.size HB1.out.size a HN.out)
  clear hN hr
  go_enter Try.func34, Try.ntmps34
  go_wp2_with (first | (go_at_call 59; refine cGi.out.mono ?_; rintro e w2 ⟨rfl, hb2⟩))
  go_ret2
  exact ⟨rfl, HB1.out.trans (hb2.mono HB1.out.size)⟩

set_option maxHeartbeats 1000000 in
theorem implCountUnder_yes (t : List Nd) (ps : List Txt) (n c i : Nat) (x : Txt) (hn : n ≤ 1048576) (hv : Valid t ps) (hi : i < n) (hx : ps[i]? = some x) (W : World) (a : Option Addr) (hN : Nds W.heap.size W a n c t) :
    Calls Try.prog 34 #[.agg #[.slice a n c], .int .i64 (i : Int)] W fun e w' => e = .returned (.tuple #[.int .i64 (((undr x (wds t ps)).length : Nat) : Int), .bool true]) ∧ Below W.heap.size W w' := by
  have HB1 : Hid (Below W.heap.size W (W.alloc (.cells #[.slice a n c] 31))) := Lib.hid ((Below.refl _ _).alloc (Nat.le_refl _) _)
  have hbx : (W.alloc (.cells #[.slice a n c] 31)).cell? ⟨W.heap.size, 0, none⟩ = some (.slice a n c) := by simp
  have hlt : W.heap.size < (W.alloc (.cells #[.slice a n c] 31)).heap.size := by simp
  have HN := Lib.hid (hN.keep HB1.out)
  have cGi := Lib.hid (cap.isNodeOf_any t n c (i : Int) hn true ⟨fun _ => ⟨⟨ps, hv⟩, by omega, by omega⟩, fun _ => rfl⟩ _ W.heap.size HB1.out.size a HN.out)
  have cBi : Hid (∀ (W' : World), W.heap.size ≤ W'.heap.size → Nds W.heap.size W' a n c t → Calls Try.prog 43 #[.agg #[.slice a n c], .int .i64 (i : Int)] W' fun e w' => e = .returned (.int .i64 (((undr x (wds t ps)).length : Nat) : Int)) ∧ Below W'.heap.size W' w') := Lib.hid (fun W' hB hN => (countBelow_any W.heap.size a n c i t ps W' hB hN hv hi).mono fun e w' ⟨b, h1, h2, h3⟩ => by
    rw [h1, undr_ends hv h2 hx]
    exact ⟨rfl, h3⟩)
  obtain ⟨q, hq⟩ : ∃ q, (undr x (wds t ps)).length = q := ⟨_, rfl⟩
  rw [hq] at cBi ⊢
  clear hN hv hx hq
  go_enter Try.func34, Try.ntmps34
  go_wp2_with (first
    | (go_at_call 59; refine cGi.out.mono ?_; rintro e w2 ⟨rfl, hb2⟩; have hbx2 := (hb2.cell (p := ⟨W.heap.size, 0, none⟩) hlt).trans hbx; have HB2 := Lib.hid (HB1.out.trans (hb2.mono HB1.out.size)); have N2 := Lib.hid (HN.out.keep (hb2.mono HB1.out.size)); clear hb2)
    | (go_at_call 43; refine (cBi.out _ HB2.out.size N2.out).mono ?_; rintro e w3 ⟨rfl, hb3⟩; have HB3 := Lib.hid (HB2.out.trans (hb3.mono HB2.out.size)); clear hb3))
  go_ret2
  exact ⟨rfl, HB3.out⟩

end Go.Proofs.Ytibdfhhbkbncgaa
