/-
  How many words a trie has: the reference and the program count the same.
-/
import Derived.Test.YtjcaikfejgeknaaIsTrie
namespace Go.Proofs.Ytjcaikfejgeknaa
open Go.RowKit
set_option linter.unusedVariables false

/-- both functions answer v and ok for the trie t, wherever it lies -/
abbrev Ans (f : FuncId) (t : List Nd) (n : Nat) (xs : List Value) (e0 : Ending) : Prop :=
  ∀ (W : World) (a : Option Addr), Nds W.heap.size W a n n t → Calls Try.prog f (#[.agg #[.slice a n n]] ++ xs.toArray) W fun e w' => e = e0 ∧ Below W.heap.size W w'

theorem agreeCountWords (t : List Nd) (n : Nat) (hn : n ≤ 1048576) : ∃ (v : Int) (ok : Bool),
    (∀ (W : World) (a : Option Addr), Nds W.heap.size W a n n t → Calls Try.prog 30 #[.agg #[.slice a n n]] W fun e w' => e = .returned (.tuple #[.int .i64 v, .bool ok]) ∧ Below W.heap.size W w') ∧
    (∀ (W : World) (a : Option Addr), Nds W.heap.size W a n n t → Calls Try.prog 31 #[.agg #[.slice a n n]] W fun e w' => e = .returned (.tuple #[.int .i64 v, .bool ok]) ∧ Below W.heap.size W w') := by
  by_cases ht : IsT t
  · obtain ⟨ps, hv⟩ := ht
    have HT := Lib.hid (trieB_iff.2 ⟨ps, hv⟩)
    have HV := Lib.hid hv
    clear hv
    refine ⟨(ends t : Int), true, fun W a hN => ?_, fun W a hN => ?_⟩
    · have HB1 : Hid (Below W.heap.size W (W.alloc (.cells #[.slice a n n] 30))) := Lib.hid ((Below.refl _ _).alloc (Nat.le_refl _) _)
      have hbx : (W.alloc (.cells #[.slice a n n] 30)).cell? ⟨W.heap.size, 0, none⟩ = some (.slice a n n) := by simp
      have hlt : W.heap.size < (W.alloc (.cells #[.slice a n n] 30)).heap.size := by simp
      have HN := Lib.hid (hN.keep HB1.out)
      clear hN
      obtain ⟨m, hm⟩ : ∃ m, ends t = m := ⟨_, rfl⟩
      have HM := Lib.hid hm
      rw [hm]
      clear hm
      go_enter Try.func30, Try.ntmps30
      go_wp2_with fail
      obtain ⟨W1, hW1⟩ : ∃ W1, W.alloc (.cells #[.slice a n n] 30) = W1 := ⟨_, rfl⟩
      rw [hW1] at HB1 hbx hlt HN ⊢
      clear hW1
      have HX := Lib.hid hbx
      clear hbx
      refine (l2Trie_any W.heap.size a n n t W1 HB1.out.size HN.out hn).mono ?_
      rw [HT.out]
      rintro e W2 ⟨rfl, hb2⟩
      have HB2 := Lib.hid (HB1.out.trans (hb2.mono HB1.out.size))
      have N2 := Lib.hid (HN.out.keep (hb2.mono HB1.out.size))
      have hbx := (hb2.cell (p := ⟨W.heap.size, 0, none⟩) hlt).trans HX.out
      clear hb2
      go_wp2_with fail
      refine (l2Words_any W.heap.size a n n t W2 HB2.out.size N2.out hn).mono ?_
      rintro e W3 ⟨a3, n3, c3, rs, rfl, hW3, _, hraw, _, hb3⟩
      have h3 : n3 = m := by
        have h1 := hW3.len
        rw [hraw ps HV.out, HV.out.wordsLen] at h1
        have := HM.out
        omega
      subst h3
      clear hW3 hraw hbx
      go_wp2_with fail
      go_ret2
      exact ⟨rfl, HB2.out.trans (hb3.mono HB2.out.size)⟩
    · have HB1 : Hid (Below W.heap.size W (W.alloc (.cells #[.slice a n n] 30))) := Lib.hid ((Below.refl _ _).alloc (Nat.le_refl _) _)
      have hbx : (W.alloc (.cells #[.slice a n n] 30)).cell? ⟨W.heap.size, 0, none⟩ = some (.slice a n n) := by simp
      have hlt : W.heap.size < (W.alloc (.cells #[.slice a n n] 30)).heap.size := by simp
      have HN := Lib.hid (hN.keep HB1.out)
      clear hN
      obtain ⟨m, hm⟩ : ∃ m, ends t = m := ⟨_, rfl⟩
      have HM := Lib.hid hm
      rw [hm]
      clear hm
      go_enter Try.func31, Try.ntmps31
      go_wp2_with fail
      obtain ⟨W1, hW1⟩ : ∃ W1, W.alloc (.cells #[.slice a n n] 30) = W1 := ⟨_, rfl⟩
      rw [hW1] at HB1 hbx hlt HN ⊢
      clear hW1
      have HX := Lib.hid hbx
      clear hbx
      refine (isTrie_any W.heap.size a n n t W1 HB1.out.size HN.out).mono ?_
      rw [HT.out]
      rintro e W2 ⟨rfl, hb2⟩
      have HB2 := Lib.hid (HB1.out.trans (hb2.mono HB1.out.size))
      have N2 := Lib.hid (HN.out.keep (hb2.mono HB1.out.size))
      have hbx := (hb2.cell (p := ⟨W.heap.size, 0, none⟩) hlt).trans HX.out
      clear hb2
      go_wp2_with fail
      refine (countEnds_any W.heap.size a n n t W2 HB2.out.size N2.out (by omega)).mono ?_
      rw [HM.out]
      rintro e W3 ⟨rfl, hb3⟩
      clear hbx
      go_wp2_with fail
      go_ret2
      exact ⟨rfl, HB2.out.trans (hb3.mono HB2.out.size)⟩
  · have HT := Lib.hid (trieB_no ht)
    refine ⟨0, false, fun W a hN => ?_, fun W a hN => ?_⟩
    · have HB1 : Hid (Below W.heap.size W (W.alloc (.cells #[.slice a n n] 30))) := Lib.hid ((Below.refl _ _).alloc (Nat.le_refl _) _)
      have HN := Lib.hid (hN.keep HB1.out)
      clear hN
      go_enter Try.func30, Try.ntmps30
      go_wp2_with fail
      refine (l2Trie_any W.heap.size a n n t _ HB1.out.size HN.out hn).mono ?_
      rw [HT.out]
      rintro e W2 ⟨rfl, hb2⟩
      go_wp2_with fail
      go_ret2
      exact ⟨rfl, HB1.out.trans (hb2.mono HB1.out.size)⟩
    · have HB1 : Hid (Below W.heap.size W (W.alloc (.cells #[.slice a n n] 30))) := Lib.hid ((Below.refl _ _).alloc (Nat.le_refl _) _)
      have HN := Lib.hid (hN.keep HB1.out)
      clear hN
      go_enter Try.func31, Try.ntmps31
      go_wp2_with fail
      refine (isTrie_any W.heap.size a n n t _ HB1.out.size HN.out).mono ?_
      rw [HT.out]
      rintro e W2 ⟨rfl, hb2⟩
      go_wp2_with fail
      go_ret2
      exact ⟨rfl, HB1.out.trans (hb2.mono HB1.out.size)⟩

end Go.Proofs.Ytjcaikfejgeknaa
