/-
  Whether a word can be drawn of a trie: the reference's test.
-/
import Derived.Test.YtibdfhhbkbncgabPot
import Derived.Test.YtibdfhhbkbncgabIsTrie
import Derived.Test.YtibdfhhbkbncgabWordsOwn
namespace Go.Proofs.Ytibdfhhbkbncgab
open Go.RowKit
set_option linter.unusedVariables false
set_option linter.unusedSimpArgs false

theorem potB_no {t : List Nd} (h : trieB t = false) : potB t = false := by simp [potB, h]
theorem potB_yes {t : List Nd} (h : potB t = true) : IsT t ∧ 0 < (wordsOf t).length := by
  unfold potB at h
  simp only [Bool.and_eq_true, decide_eq_true_eq] at h
  exact ⟨trieB_iff.1 h.1, h.2⟩

/-- the reference's words of a valid trie -/
theorem drawnWords_own (B : Nat) (a : Option Addr) (n c : Nat) (t : List Nd) (w : World) (hB : B ≤ w.heap.size) (h : Nds B w a n c t) (hn : n ≤ 1048576) (ht : IsT t) :
    Calls Try.prog 33 #[.agg #[.slice a n c]] w fun e w' => ∃ a' c', e = .returned (.slice a' (wordsOf t).length c') ∧ Wds w'.heap.size w' a' (wordsOf t).length c' (wordsOf t) ∧ Below w.heap.size w w' := by
  obtain ⟨ps, hv⟩ := ht
  have hs := wordsOf_short t
  refine (l2Words_own B a n c t w hB h hn).mono ?_
  rintro e w' ⟨v, rs, rfl, hO, hraw, hb⟩
  have e1 := hraw ps hv
  rw [← wordsOf_eq hv] at e1
  subst e1
  obtain ⟨a', c', rfl, hW⟩ := own_wds hO (fun x hx => by have := hs x hx; omega)
  exact ⟨a', c', rfl, hW, hb⟩

set_option maxRecDepth 1000000 in
set_option maxHeartbeats 1000000 in
theorem l9Drawn_any (B : Nat) (a : Option Addr) (n c : Nat) (t : List Nd) (W : World) (hB : B ≤ W.heap.size) (h : Nds B W a n c t) (hn : n ≤ 1048576) :
    Calls Try.prog 23 #[.agg #[.slice a n c]] W fun e w' => e = .returned (.bool (potB t)) ∧ Below W.heap.size W w' := by
  have HB1 : Hid (Below W.heap.size W (W.alloc (.cells #[.slice a n c] 31))) := Lib.hid ((Below.refl _ _).alloc (Nat.le_refl _) _)
  have hbx : (W.alloc (.cells #[.slice a n c] 31)).cell? ⟨W.heap.size, 0, none⟩ = some (.slice a n c) := by simp
  have hlt : W.heap.size < (W.alloc (.cells #[.slice a n c] 31)).heap.size := by simp
  have cT := Lib.hid (fun W' (hw : Below W.heap.size W W') => l2Trie_any B a n c t W' (Nat.le_trans hB hw.size) (h.keep (hw.mono hB)) hn)
  have cW := Lib.hid (fun W' (hw : Below W.heap.size W W') (ht : IsT t) => drawnWords_own B a n c t W' (Nat.le_trans hB hw.size) (h.keep (hw.mono hB)) hn ht)
  have HP : Hid (potB t = (trieB t && decide (0 < (wordsOf t).length))) := Lib.hid rfl
  have HT : Hid (trieB t = true → IsT t) := Lib.hid (fun h => trieB_iff.1 h)
  obtain ⟨m, hm⟩ : ∃ m, (wordsOf t).length = m := ⟨_, rfl⟩
  obtain ⟨r, hr⟩ : ∃ r, trieB t = r := ⟨_, rfl⟩
  obtain ⟨q, hq⟩ : ∃ q, potB t = q := ⟨_, rfl⟩
  have hm40 := wordsOf_size t
  rw [hm] at HP cW hm40
  rw [hr] at HP cT HT
  rw [hq] at HP ⊢
  clear hm hr hq h hB
  go_enter Try.func23, Try.ntmps23
  go_wp2_with fail
  obtain ⟨W1, hW1⟩ : ∃ W1, W.alloc (.cells #[.slice a n c] 31) = W1 := ⟨_, rfl⟩
  rw [hW1] at HB1 hbx hlt ⊢
  clear hW1
  have HX := Lib.hid hbx
  clear hbx
  refine (cT.out _ HB1.out).mono ?_
  rintro e w2 ⟨rfl, hb2⟩
  have HB2 := Lib.hid (HB1.out.trans (hb2.mono HB1.out.size))
  have hbx := (hb2.cell (p := ⟨W.heap.size, 0, none⟩) hlt).trans HX.out
  clear hb2
  cases r with
  | false =>
    obtain rfl : q = false := by rw [HP.out]; rfl
    go_wp2_with fail
    go_ret
    exact ⟨rfl, HB2.out⟩
  | true =>
    have hit := HT.out rfl
    go_wp2_with (refine (cW.out _ HB2.out hit).mono ?_; rintro e w3 ⟨a3, c3, rfl, hW3, hb3⟩; have HB3 := Lib.hid (HB2.out.trans (hb3.mono HB2.out.size)); clear hW3 hb3)
    by_cases hm : 0 < m
    · obtain rfl : q = true := by rw [HP.out]; simp [hm]
      have hm1 : (0 : Int) < (m : Int) := by omega
      have hm2 : decide ((0 : Int) < (m : Int)) = true := decide_eq_true hm1
      have hm3 : decide (0 < m) = true := decide_eq_true hm
      go_wp2_with fail
      go_ret
      exact ⟨by simp [hm], HB3.out⟩
    · obtain rfl : q = false := by rw [HP.out]; simp [hm]
      have hm1 : ¬ (0 : Int) < (m : Int) := by omega
      have hm2 : decide ((0 : Int) < (m : Int)) = false := decide_eq_false hm1
      have hm3 : decide (0 < m) = false := decide_eq_false hm
      go_wp2_with fail
      go_ret
      exact ⟨by simp [hm], HB3.out⟩

end Go.Proofs.Ytibdfhhbkbncgab
