/-
  The mean number of letters that two words have in common: the reference.
-/
import Derived.Test.YtibdfhhbkbncgaaDrawn
import Derived.Test.YtibdfhhbkbncgaaPcom
import Derived.Test.YtibdfhhbkbncgaaCom9
import Derived.Test.YtibdfhhbkbncgaaCutS
import Derived.Test.YtibdfhhbkbncgaaGf
import Derived.Deep.RegionHeld3
namespace Go.Proofs.Ytibdfhhbkbncgaa
open Go.RowKit
set_option linter.unusedVariables false
set_option linter.unusedSimpArgs false

set_option maxRecDepth 1000000 in
set_option maxHeartbeats 2000000 in
theorem specMeanCommon_no (t : List Nd) (n c : Nat) (hn : n ≤ 1048576) (hr : ¬ (trieB t = true ∧ 2 ≤ (wordsOf t).length)) (W : World) (a : Option Addr) (h : Nds W.heap.size W a n c t) :
    Calls Try.prog 21 #[.agg #[.slice a n c]] W fun e w' => e = .returned (.tuple #[fv (0, 0), .bool false]) ∧ Below W.heap.size W w' := by
  have G0 := Lib.hid (Gf.start 26 h)
  have cT := Lib.hid (fun W' (G : Gf 26 1 W W' a n c t) => l2Trie_any W.heap.size a n c t W' (Nat.le_of_lt G.size) G.nds hn)
  have cW := Lib.hid (fun (ht : trieB t = true) W' (G : Gf 26 1 W W' a n c t) => drawnWords_own W.heap.size a n c t W' (Nat.le_of_lt G.size) G.nds hn (trieB_iff.1 ht))
  have HR : Hid (trieB t = true → (wordsOf t).length < 2) := Lib.hid (fun ht => Nat.lt_of_not_le fun h => hr ⟨ht, h⟩)
  obtain ⟨m, hm⟩ : ∃ m, (wordsOf t).length = m := ⟨_, rfl⟩
  obtain ⟨q, hq⟩ : ∃ q, trieB t = q := ⟨_, rfl⟩
  rw [hq] at cT cW HR
  rw [hm] at cW HR
  have hbx := G0.out.box
  clear hq hr h hm
  go_enter Try.func21, Try.ntmps21
  go_wp2_with fail
  obtain ⟨W1, hW1⟩ : ∃ W1, (W.alloc (.cells #[.slice a n c] 31)).alloc (.cells #[.int .i64 0, .int .i64 0] 26) = W1 := ⟨_, rfl⟩
  rw [hW1] at G0 ⊢
  clear hW1 hbx
  refine (cT.out _ G0.out).mono ?_
  rintro e w2 ⟨rfl, hb2⟩
  have G2 := Lib.hid (G0.out.on hb2)
  have hbx := G2.out.box
  clear hb2
  cases q with
  | false =>
    obtain ⟨f1, f2, f3, f4⟩ := G2.out.open
    obtain ⟨hE, hB9⟩ := G2.out.end' (.int .i64 0) (.int .i64 0)
    have HE := Lib.hid hE
    have HB9 := Lib.hid hB9
    clear hE hB9
    go_wp2_with fail
    generalize ((w2.setCell ⟨W.heap.size + 1, 0, none⟩ (.int .i64 0)).setCell ⟨W.heap.size + 1, 1, none⟩ (.int .i64 0)) = W9 at *
    obtain ⟨hc0, hc1⟩ := HE.out
    exact bodyPost_ret (v := .tuple #[fv (0, 0), .bool false]) (by simp [results, Try.results21, go_sem, hc0, hc1, fv]) rfl ⟨rfl, HB9.out⟩
  | true =>
    have hm2 := HR.out (by trivial)
    go_wp2_with fail
    refine (cW.out (by trivial) _ G2.out).mono ?_
    rintro e w3 ⟨a3, c3, rfl, hW3, hb3⟩
    have G3 := Lib.hid (G2.out.on hb3)
    obtain ⟨f1, f2, f3, f4⟩ := G3.out.open
    have hd : decide ((m : Int) < 2) = true := decide_eq_true (by omega)
    have hd2 : (m : Int) < 2 := by omega
    clear hb3 hbx hW3
    obtain ⟨hE, hB9⟩ := G3.out.end' (.int .i64 0) (.int .i64 0)
    have HE := Lib.hid hE
    have HB9 := Lib.hid hB9
    clear hE hB9
    go_wp2_with fail
    generalize ((w3.setCell ⟨W.heap.size + 1, 0, none⟩ (.int .i64 0)).setCell ⟨W.heap.size + 1, 1, none⟩ (.int .i64 0)) = W9 at *
    obtain ⟨hc0, hc1⟩ := HE.out
    exact bodyPost_ret (v := .tuple #[fv (0, 0), .bool false]) (by simp [results, Try.results21, go_sem, hc0, hc1, fv]) rfl ⟨rfl, HB9.out⟩

set_option maxRecDepth 1000000 in
set_option maxHeartbeats 4000000 in
theorem specMeanCommon_yes (t : List Nd) (n c : Nat) (hn : n ≤ 1048576) (ht : trieB t = true) (h2 : 2 ≤ (wordsOf t).length) (x : Nat × Nat) (hx : x = fra (pcom (wordsOf t) (wordsOf t).length) (prs (wordsOf t).length)) (W : World) (a : Option Addr) (h : Nds W.heap.size W a n c t) :
    Calls Try.prog 21 #[.agg #[.slice a n c]] W fun e w' => e = .returned (.tuple #[fv x, .bool true]) ∧ Below W.heap.size W w' := by
  have G0 := Lib.hid (Gf.start 26 h)
  have cT := Lib.hid (fun W' (G : Gf 26 1 W W' a n c t) => l2Trie_any W.heap.size a n c t W' (Nat.le_of_lt G.size) G.nds hn)
  have cW := Lib.hid (fun W' (G : Gf 26 1 W W' a n c t) => drawnWords_own W.heap.size a n c t W' (Nat.le_of_lt G.size) G.nds hn (trieB_iff.1 ht))
  have hm40 := wordsOf_size t
  have HSh := Lib.hid (wordsOf_short t)
  have HPl := Lib.hid (pcom_le (wordsOf t) (wordsOf_short t))
  rw [ht] at cT
  obtain ⟨ws, hws⟩ : ∃ ws, wordsOf t = ws := ⟨_, rfl⟩
  obtain ⟨m, hm⟩ : ∃ m, ws.length = m := ⟨_, rfl⟩
  rw [hws] at cW HSh hm40 hx h2 HPl
  rw [hm] at cW hm40 hx h2 HPl
  have HM := Lib.hid hm
  obtain ⟨x1, x2⟩ := x
  have hpr := prs_le m
  have hpp := prs_pos m h2
  have hmm : m * m ≤ 1600 := Nat.le_trans (Nat.mul_le_mul hm40 hm40) (by decide)
  have HPm := HPl.out m (Nat.le_refl _)
  have cC := Lib.hid (fun W' => l9Cut_any (pcom ws m) (prs m) W' (by omega) (by omega) hpp)
  rw [← hx, fv_mk] at cC
  have cCm := Lib.hid (fun (s s' : ByteArray) (W : World) (h1 : s.size ≤ 9223372036854775807) (h2 : s'.size ≤ 9223372036854775807) => l9Common_any s s' W h1 h2)
  have hd0 : decide ((m : Int) < 2) = false := decide_eq_false (by omega)
  have hd02 : ¬ (m : Int) < 2 := by omega
  have hbx := G0.out.box
  have HPr : Hid (∀ k, k ≤ m → prs k ≤ 1600) := Lib.hid (fun k hk => by have h1 := prs_le k; have h3 := Nat.mul_le_mul (Nat.le_trans hk hm40) (Nat.le_trans hk hm40); omega)
  clear hws hm h hx ht hpr hpp hmm HPm
  go_enter Try.func21, Try.ntmps21
  go_wp2_with fail
  obtain ⟨W1, hW1⟩ : ∃ W1, (W.alloc (.cells #[.slice a n c] 31)).alloc (.cells #[.int .i64 0, .int .i64 0] 26) = W1 := ⟨_, rfl⟩
  rw [hW1] at G0 ⊢
  clear hW1 hbx
  refine (cT.out _ G0.out).mono ?_
  rintro e w2 ⟨rfl, hb2⟩
  have G2 := Lib.hid (G0.out.on hb2)
  have hbx := G2.out.box
  clear hb2
  go_wp2_with fail
  refine (cW.out _ G2.out).mono ?_
  rintro e w3 ⟨a3, c3, rfl, hW3, hb3⟩
  have G3 := Lib.hid (G2.out.on hb3)
  have hbx3 := G3.out.box
  clear hb3 hbx hW3
  go_wp2_with fail
  refine (cW.out _ G3.out).mono ?_
  rintro e w4 ⟨a4, c4, rfl, hW4, hb4⟩
  have G4 := Lib.hid (G3.out.on hb4)
  have C4 := hW4.sl.cap
  have T4 := hW4.sl.top
  have HW4 := Lib.hid hW4
  clear hb4 hbx3 hW4 hd0 hd02
  go_wp2_with fail
  go_loopw [4, 5, 7, 8] (fun s p i k0 wr => ∃ (k z y : Nat), k ≤ m ∧ i = .int .i64 k ∧ s = .int .i64 z ∧ p = .int .i64 y ∧ z ≤ 12 * y ∧ y ≤ 1600 ∧ Hid (pcom ws k = z) ∧ Hid (prs k = y) ∧ Hid (Below w4.heap.size w4 wr)) (fun _ _ i _ _ => m - (intOf i).toNat)
  case atStart => exact ⟨0, 0, 0, Nat.zero_le _, rfl, rfl, rfl, by omega, by omega, Lib.hid rfl, Lib.hid rfl, Lib.hid (Below.refl _ _)⟩
  case round =>
    obtain ⟨k, z, y, hk, rfl, rfl, rfl, hzy, hy, HZ, HY, HBo⟩ := hrel
    rename World => wo
    by_cases hlk : k < m
    · obtain ⟨b, o, s, rfl, _, hs, _, hc⟩ := Wds.elem (HW4.out.keep HBo.out) k hlk
      have hs12 : s.size ≤ 12 := by have := HSh.out _ (at_mem hs); rwa [tx_len] at this
      have HPs := Lib.hid (pcom_succ hs)
      have HSk := Lib.hid hs
      clear hs
      have hi0 : (0 : Int) ≤ (k : Int) := by omega
      have hi1 : (k : Int) < (m : Int) := by omega
      have hyk := HPr.out (k + 1) (by omega)
      have HYk : Hid (prs (k + 1) = y + k) := Lib.hid (by rw [← HY.out]; rfl)
      rw [HYk.out] at hyk
      go_wp2
      go_loopw [4, 5, 8] (fun s' p' j wr => ∃ (j0 z' : Nat), j0 ≤ k ∧ j = .int .i64 j0 ∧ s' = .int .i64 z' ∧ p' = .int .i64 ((y + j0 : Nat) : Int) ∧ z' ≤ 12 * (y + j0) ∧ Hid (z + tsum (com (tx s)) (ws.take j0) = z') ∧ Hid (Below w4.heap.size w4 wr)) (fun _ _ j _ => k - (intOf j).toNat)
      case atStart => exact ⟨0, z, Nat.zero_le _, rfl, rfl, rfl, by omega, Lib.hid (by simp [tsum]), HBo⟩
      case round =>
        obtain ⟨j0, z', hj, rfl, rfl, rfl, hz', HZ', HBi⟩ := hrel
        clear hc
        by_cases hlj : j0 < k
        · obtain ⟨b', o', s', e', _, hs', _, hc'⟩ := Wds.elem (HW4.out.keep HBi.out) j0 (by omega)
          injection e' with e'
          injection e' with e1 e2
          subst e1 e2
          obtain ⟨b9, o9, s9, e9, _, hs9, _, hc⟩ := Wds.elem (HW4.out.keep HBi.out) k hlk
          injection e9 with e9
          injection e9 with e91 e92
          subst e91 e92
          obtain rfl : s = s9 := tx_inj (Option.some.inj (HSk.out.symm.trans hs9))
          clear hs9
          have HS' := Lib.hid (tsum_succ (com (tx s)) hs')
          have hs12' : s'.size ≤ 12 := by have := HSh.out _ (at_mem hs'); rwa [tx_len] at this
          have hcl := (com_le (tx s) (tx s')).1
          rw [tx_len] at hcl
          have cC1 := Lib.hid (fun W => cCm.out s s' W (by omega) (by omega))
          obtain ⟨g, hg⟩ : ∃ g, com (tx s) (tx s') = g := ⟨_, rfl⟩
          rw [hg] at cC1 hcl HS'
          clear hs' hg
          have hj0 : (0 : Int) ≤ (j0 : Int) := by omega
          have hj1 : (j0 : Int) < (m : Int) := by omega
          have hjk : (j0 : Int) < (k : Int) := by omega
          have hwr : IntKind.i64.wrap ((z' : Int) + (g : Int)) = ((z' + g : Nat) : Int) := by rw [IntKind.wrap_i64]; omega
          go_wp2
          go_quiet ((go_at_call 48; exact Calls.quiet_of (cC1.out _)))
          go_wp2
          go_roundw
          case rel => exact ⟨j0 + 1, z' + g, by omega, by go_num, by go_num, by go_num, by omega, Lib.hid (by rw [HS'.out, ← HZ'.out]; omega), Lib.hid (below_drewN HBi.out _)⟩
          case measure => simp [intOf]; omega
        · obtain rfl : j0 = k := by omega
          go_wp2
          go_roundw
          case rel => exact ⟨j0 + 1, z', y + j0, by omega, by go_num, rfl, rfl, by omega, by omega, Lib.hid (by rw [HPs.out, HZ.out, HZ'.out]), HYk, HBi⟩
          case measure => simp [intOf]; omega
    · obtain rfl : k = m := by omega
      have HZ1 : Hid ((z : Int) = (pcom ws k : Int)) := Lib.hid (by rw [HZ.out])
      have HY1 : Hid ((y : Int) = (prs k : Int)) := Lib.hid (by rw [HY.out])
      have G5 := Lib.hid (G4.out.on HBo.out)
      go_wp2_with fail
      rw [HZ1.out, HY1.out]
      refine (cC.out _).mono ?_
      rintro e w7 ⟨rfl, hb7⟩
      have G7 := Lib.hid (G5.out.on hb7)
      clear hb7
      obtain ⟨f1, f2, f3, f4⟩ := G7.out.open
      obtain ⟨hE, hB9⟩ := G7.out.end' (.int .i64 (x1 : Int)) (.int .i64 (x2 : Int))
      have HE := Lib.hid hE
      have HB9 := Lib.hid hB9
      clear hE hB9
      go_wp2_with fail
      generalize ((w7.setCell ⟨W.heap.size + 1, 0, none⟩ (.int .i64 (x1 : Int))).setCell ⟨W.heap.size + 1, 1, none⟩ (.int .i64 (x2 : Int))) = W9 at *
      obtain ⟨hc0, hc1⟩ := HE.out
      exact bodyPost_ret (v := .tuple #[fv (x1, x2), .bool true]) (by simp [results, Try.results21, go_sem, hc0, hc1, fv]) rfl ⟨rfl, HB9.out⟩

end Go.Proofs.Ytibdfhhbkbncgaa
