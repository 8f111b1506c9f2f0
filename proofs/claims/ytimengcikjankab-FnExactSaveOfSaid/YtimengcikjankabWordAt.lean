/-
  The word with a rank: the reference and the program answer the same.
-/
import Derived.Test.YtimengcikjankabBothW
namespace Go.Proofs.Ytimengcikjankab
open Go.RowKit
set_option linter.unusedVariables false

theorem agreeWordAt (t : List Nd) (n : Nat) (x0 : Int) (hn : n ≤ 1048576) (hx0 : -9223372036854775808 ≤ x0 ∧ x0 ≤ 9223372036854775807) : ∃ (v : ByteArray) (ok : Bool),
    (∀ (W : World) (a : Option Addr), Nds W.heap.size W a n n t → Calls Try.prog 17 #[.agg #[.slice a n n], .int .i64 x0] W fun e w' => e = .returned (.tuple #[.string v, .bool ok]) ∧ Below W.heap.size W w') ∧
    (∀ (W : World) (a : Option Addr), Nds W.heap.size W a n n t → Calls Try.prog 18 #[.agg #[.slice a n n], .int .i64 x0] W fun e w' => e = .returned (.tuple #[.string v, .bool ok]) ∧ Below W.heap.size W w') := by
  by_cases ht : IsT t
  · have HT := Lib.hid (trieB_iff.2 ht)
    obtain ⟨ws, m, _, hm, hm40, hsh, hcs, hci⟩ := both_words t n hn ht
    have HM := Lib.hid hm
    have cS := Lib.hid hcs
    have cI := Lib.hid hci
    clear hm hsh hcs hci ht
    by_cases hin : 0 ≤ x0 ∧ x0 < (m : Int)
    · obtain ⟨k, rfl⟩ : ∃ k : Nat, x0 = k := ⟨x0.toNat, by omega⟩
      have hk : k < m := by omega
      obtain ⟨y, hy⟩ : ∃ y, ws[k]? = some y := ⟨_, List.getElem?_eq_getElem (by rw [HM.out]; exact hk)⟩
      have HY := Lib.hid hy
      clear hy hin
      refine ⟨bx y, true, fun W a hN => ?_, fun W a hN => ?_⟩
      · have HB1 : Hid (Below W.heap.size W (W.alloc (.cells #[.slice a n n] 30))) := Lib.hid ((Below.refl _ _).alloc (Nat.le_refl _) _)
        have hbx : (W.alloc (.cells #[.slice a n n] 30)).cell? ⟨W.heap.size, 0, none⟩ = some (.slice a n n) := by simp
        have hlt : W.heap.size < (W.alloc (.cells #[.slice a n n] 30)).heap.size := by simp
        have HN := Lib.hid (hN.keep HB1.out)
        clear hN
        go_enter Try.func17, Try.ntmps17
        go_wp2_with fail
        obtain ⟨W1, hW1⟩ : ∃ W1, W.alloc (.cells #[.slice a n n] 30) = W1 := ⟨_, rfl⟩
        rw [hW1] at HB1 hbx hlt HN ⊢
        clear hW1
        have HX := Lib.hid hbx
        clear hbx
        refine (l2Trie_any W.heap.size a n n t W1 HB1.out.size HN.out hn).mono ?_
        rw [HT.out]
        rintro e W2 ⟨rfl, hb2⟩
        have HB2 := Lib.hid (HB1.out.trans (hb2.mono HB1.out.size))
        have N2 := Lib.hid (HN.out.keep (hb2.mono HB1.out.size))
        have hbx := (hb2.cell (p := ⟨W.heap.size, 0, none⟩) hlt).trans HX.out
        have hlt2 : W.heap.size < W2.heap.size := Nat.lt_of_lt_of_le hlt hb2.size
        clear hb2
        go_wp2_with fail
        refine (cS.out W2 a _ HB2.out.size N2.out).mono ?_
        rintro e W3 ⟨a3, c3, rfl, hW3, hb3⟩
        have HB3 := Lib.hid (HB2.out.trans (hb3.mono HB2.out.size))
        have C3 := hW3.sl.cap
        have T3 := hW3.sl.top
        obtain ⟨b, o, s, rfl, _, hs, _, hc⟩ := hW3.elem k hk
        have he := HY.out.symm.trans hs
        obtain rfl : y = tx s := Option.some.inj he
        clear hs he hW3 hb3 hbx
        go_wp2_with fail
        refine (l1In_yes _ (by omega)).mono ?_
        rintro e w' ⟨rfl, rfl⟩
        go_wp2
        go_ret2
        exact ⟨by rw [bx_tx]; rfl, HB3.out⟩
      · have HB1 : Hid (Below W.heap.size W (W.alloc (.cells #[.slice a n n] 30))) := Lib.hid ((Below.refl _ _).alloc (Nat.le_refl _) _)
        have hbx : (W.alloc (.cells #[.slice a n n] 30)).cell? ⟨W.heap.size, 0, none⟩ = some (.slice a n n) := by simp
        have hlt : W.heap.size < (W.alloc (.cells #[.slice a n n] 30)).heap.size := by simp
        have HN := Lib.hid (hN.keep HB1.out)
        clear hN
        go_enter Try.func18, Try.ntmps18
        go_wp2_with fail
        obtain ⟨W1, hW1⟩ : ∃ W1, W.alloc (.cells #[.slice a n n] 30) = W1 := ⟨_, rfl⟩
        rw [hW1] at HB1 hbx hlt HN ⊢
        clear hW1
        have HX := Lib.hid hbx
        clear hbx
        refine (cI.out W1 a _ HB1.out.size HN.out).mono ?_
        rintro e W3 ⟨a3, c3, rfl, hW3, hb3⟩
        have HB3 := Lib.hid (HB1.out.trans (hb3.mono HB1.out.size))
        have C3 := hW3.sl.cap
        have T3 := hW3.sl.top
        obtain ⟨b, o, s, rfl, _, hs, _, hc⟩ := hW3.elem k hk
        have he := HY.out.symm.trans hs
        obtain rfl : y = tx s := Option.some.inj he
        clear hs he hW3 hb3
        go_wp2
        go_ret2
        exact ⟨by rw [bx_tx]; rfl, HB3.out⟩
    · refine ⟨⟨#[]⟩, false, fun W a hN => ?_, fun W a hN => ?_⟩
      · have HB1 : Hid (Below W.heap.size W (W.alloc (.cells #[.slice a n n] 30))) := Lib.hid ((Below.refl _ _).alloc (Nat.le_refl _) _)
        have hbx : (W.alloc (.cells #[.slice a n n] 30)).cell? ⟨W.heap.size, 0, none⟩ = some (.slice a n n) := by simp
        have hlt : W.heap.size < (W.alloc (.cells #[.slice a n n] 30)).heap.size := by simp
        have HN := Lib.hid (hN.keep HB1.out)
        clear hN
        go_enter Try.func17, Try.ntmps17
        go_wp2_with fail
        obtain ⟨W1, hW1⟩ : ∃ W1, W.alloc (.cells #[.slice a n n] 30) = W1 := ⟨_, rfl⟩
        rw [hW1] at HB1 hbx hlt HN ⊢
        clear hW1
        have HX := Lib.hid hbx
        clear hbx
        refine (l2Trie_any W.heap.size a n n t W1 HB1.out.size HN.out hn).mono ?_
        rw [HT.out]
        rintro e W2 ⟨rfl, hb2⟩
        have HB2 := Lib.hid (HB1.out.trans (hb2.mono HB1.out.size))
        have N2 := Lib.hid (HN.out.keep (hb2.mono HB1.out.size))
        have hbx := (hb2.cell (p := ⟨W.heap.size, 0, none⟩) hlt).trans HX.out
        have hlt2 : W.heap.size < W2.heap.size := Nat.lt_of_lt_of_le hlt hb2.size
        clear hb2
        go_wp2_with fail
        refine (cS.out W2 a _ HB2.out.size N2.out).mono ?_
        rintro e W3 ⟨a3, c3, rfl, hW3, hb3⟩
        have HB3 := Lib.hid (HB2.out.trans (hb3.mono HB2.out.size))
        clear hW3 hb3 hbx
        go_wp2_with fail
        refine (l1In_no _ (by omega)).mono ?_
        rintro e w' ⟨rfl, rfl⟩
        clear hin
        go_wp2
        go_ret2
        exact ⟨rfl, HB3.out⟩
      · have HB1 : Hid (Below W.heap.size W (W.alloc (.cells #[.slice a n n] 30))) := Lib.hid ((Below.refl _ _).alloc (Nat.le_refl _) _)
        have hbx : (W.alloc (.cells #[.slice a n n] 30)).cell? ⟨W.heap.size, 0, none⟩ = some (.slice a n n) := by simp
        have hlt : W.heap.size < (W.alloc (.cells #[.slice a n n] 30)).heap.size := by simp
        have HN := Lib.hid (hN.keep HB1.out)
        clear hN
        go_enter Try.func18, Try.ntmps18
        go_wp2_with fail
        obtain ⟨W1, hW1⟩ : ∃ W1, W.alloc (.cells #[.slice a n n] 30) = W1 := ⟨_, rfl⟩
        rw [hW1] at HB1 hbx hlt HN ⊢
        clear hW1
        have HX := Lib.hid hbx
        clear hbx
        refine (cI.out W1 a _ HB1.out.size HN.out).mono ?_
        rintro e W3 ⟨a3, c3, rfl, hW3, hb3⟩
        have HB3 := Lib.hid (HB1.out.trans (hb3.mono HB1.out.size))
        clear hW3 hb3
        by_cases h0 : x0 < 0
        · clear hin
          go_wp2
          go_ret2
          exact ⟨rfl, HB3.out⟩
        · have h1 : (m : Int) ≤ x0 := by omega
          clear hin
          go_wp2
          go_ret2
          exact ⟨rfl, HB3.out⟩
  · have HT := Lib.hid (trieB_no ht)
    refine ⟨⟨#[]⟩, false, fun W a hN => ?_, fun W a hN => ?_⟩
    · have HB1 : Hid (Below W.heap.size W (W.alloc (.cells #[.slice a n n] 30))) := Lib.hid ((Below.refl _ _).alloc (Nat.le_refl _) _)
      have hbx : (W.alloc (.cells #[.slice a n n] 30)).cell? ⟨W.heap.size, 0, none⟩ = some (.slice a n n) := by simp
      have hlt : W.heap.size < (W.alloc (.cells #[.slice a n n] 30)).heap.size := by simp
      have HN := Lib.hid (hN.keep HB1.out)
      clear hN
      go_enter Try.func17, Try.ntmps17
      go_wp2_with fail
      obtain ⟨W1, hW1⟩ : ∃ W1, W.alloc (.cells #[.slice a n n] 30) = W1 := ⟨_, rfl⟩
      rw [hW1] at HB1 hbx hlt HN ⊢
      clear hW1
      have HX := Lib.hid hbx
      clear hbx
      refine (l2Trie_any W.heap.size a n n t W1 HB1.out.size HN.out hn).mono ?_
      rw [HT.out]
      rintro e W2 ⟨rfl, hb2⟩
      go_wp2_with fail
      go_ret2
      exact ⟨rfl, HB1.out.trans (hb2.mono HB1.out.size)⟩
    · have HB1 : Hid (Below W.heap.size W (W.alloc (.cells #[.slice a n n] 30))) := Lib.hid ((Below.refl _ _).alloc (Nat.le_refl _) _)
      have hbx : (W.alloc (.cells #[.slice a n n] 30)).cell? ⟨W.heap.size, 0, none⟩ = some (.slice a n n) := by simp
      have hlt : W.heap.size < (W.alloc (.cells #[.slice a n n] 30)).heap.size := by simp
      have HN := Lib.hid (hN.keep HB1.out)
      clear hN
      go_enter Try.func18, Try.ntmps18
      go_wp2_with fail
      obtain ⟨W1, hW1⟩ : ∃ W1, W.alloc (.cells #[.slice a n n] 30) = W1 := ⟨_, rfl⟩
      rw [hW1] at HB1 hbx hlt HN ⊢
      clear hW1
      have HX := Lib.hid hbx
      clear hbx
      refine (implWords_any W.heap.size a n n t W1 HB1.out.size HN.out).mono ?_
      rw [HT.out]
      rintro e W2 ⟨v2, rfl, _, hb2⟩
      go_wp2_with fail
      go_ret2
      exact ⟨rfl, HB1.out.trans (hb2.mono HB1.out.size)⟩

end Go.Proofs.Ytimengcikjankab
