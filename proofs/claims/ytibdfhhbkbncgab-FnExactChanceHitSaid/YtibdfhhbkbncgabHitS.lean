/-
  The chance that a random text is a word: the reference.
-/
import Derived.Test.YtibdfhhbkbncgabRndS
import Derived.Test.YtibdfhhbkbncgabHitM
import Derived.Test.YtibdfhhbkbncgabDrawn
import Derived.Test.YtibdfhhbkbncgabCutS
import Derived.Test.YtibdfhhbkbncgabGf
namespace Go.Proofs.Ytibdfhhbkbncgab
open Go.RowKit
set_option linter.unusedVariables false
set_option linter.unusedSimpArgs false

set_option maxRecDepth 1000000 in
set_option maxHeartbeats 2000000 in
theorem specHit_no (t : List Nd) (n c : Nat) (k0 m0 : Int) (hn : n ≤ 1048576) (hr : ¬ (trieB t = true ∧ 1 ≤ k0 ∧ k0 ≤ 26 ∧ 0 ≤ m0 ∧ m0 ≤ 12)) (W : World) (a : Option Addr) (h : Nds W.heap.size W a n c t) :
    Calls Try.prog 18 #[.agg #[.slice a n c], .int .i64 k0, .int .i64 m0] W fun e w' => e = .returned (.tuple #[fv (0, 0), .bool false]) ∧ Below W.heap.size W w' := by
  have G0 := Lib.hid (Gf.start 26 h)
  have cT := Lib.hid (fun W' (G : Gf 26 1 W W' a n c t) => l2Trie_any W.heap.size a n c t W' (Nat.le_of_lt G.size) G.nds hn)
  have cR : Hid (trieB t = true → ∀ W', Calls Try.prog 40 #[.int .i64 k0, .int .i64 m0] W' fun e w' => e = .returned (.bool false) ∧ w' = W') := Lib.hid (fun ht W' => by
    have := l9Random_any k0 m0 W'
    rwa [decide_eq_false (fun h => hr ⟨ht, h⟩)] at this)
  obtain ⟨q, hq⟩ : ∃ q, trieB t = q := ⟨_, rfl⟩
  rw [hq] at cT cR
  have hbx := G0.out.box
  clear hq hr h
  go_enter Try.func18, Try.ntmps18
  go_wp2_with fail
  obtain ⟨W1, hW1⟩ : ∃ W1, (W.alloc (.cells #[.slice a n c] 31)).alloc (.cells #[.int .i64 0, .int .i64 0] 26) = W1 := ⟨_, rfl⟩
  rw [hW1] at G0 ⊢
  clear hW1 hbx
  refine (cT.out _ G0.out).mono ?_
  rintro e w2 ⟨rfl, hb2⟩
  have G2 := Lib.hid (G0.out.on hb2)
  have hbx := G2.out.box
  obtain ⟨f1, f2, f3, f4⟩ := G2.out.open
  clear hb2
  cases q with
  | false =>
    obtain ⟨hE, hB9⟩ := G2.out.end' (.int .i64 0) (.int .i64 0)
    have HE := Lib.hid hE
    have HB9 := Lib.hid hB9
    clear hE hB9
    go_wp2_with fail
    generalize ((w2.setCell ⟨W.heap.size + 1, 0, none⟩ (.int .i64 0)).setCell ⟨W.heap.size + 1, 1, none⟩ (.int .i64 0)) = W9 at *
    obtain ⟨hc0, hc1⟩ := HE.out
    exact bodyPost_ret (v := .tuple #[fv (0, 0), .bool false]) (by simp [results, Try.results18, go_sem, hc0, hc1, fv]) rfl ⟨rfl, HB9.out⟩
  | true =>
    go_wp2_with fail
    refine (cR.out (by trivial) _).mono ?_
    rintro e w3 ⟨rfl, rfl⟩
    obtain ⟨hE, hB9⟩ := G2.out.end' (.int .i64 0) (.int .i64 0)
    have HE := Lib.hid hE
    have HB9 := Lib.hid hB9
    clear hE hB9
    go_wp2_with fail
    generalize ((w3.setCell ⟨W.heap.size + 1, 0, none⟩ (.int .i64 0)).setCell ⟨W.heap.size + 1, 1, none⟩ (.int .i64 0)) = W9 at *
    obtain ⟨hc0, hc1⟩ := HE.out
    exact bodyPost_ret (v := .tuple #[fv (0, 0), .bool false]) (by simp [results, Try.results18, go_sem, hc0, hc1, fv]) rfl ⟨rfl, HB9.out⟩

set_option maxRecDepth 1000000 in
set_option maxHeartbeats 2000000 in
theorem specHit_yes (t : List Nd) (ps : List Txt) (n c k m : Nat) (hn : n ≤ 1048576) (hv : Valid t ps) (hk1 : 1 ≤ k) (hk : k ≤ 26) (hm : m ≤ 12) (x : Nat × Nat) (hx : fra (tsum (htw k m) (wds t ps)) (k ^ m) = x) (W : World) (a : Option Addr) (h : Nds W.heap.size W a n c t) :
    Calls Try.prog 18 #[.agg #[.slice a n c], .int .i64 (k : Int), .int .i64 (m : Int)] W fun e w' => e = .returned (.tuple #[fv x, .bool true]) ∧ Below W.heap.size W w' := by
  have G0 := Lib.hid (Gf.start 26 h)
  have cT := Lib.hid (fun W' (G : Gf 26 1 W W' a n c t) => l2Trie_any W.heap.size a n c t W' (Nat.le_of_lt G.size) G.nds hn)
  rw [trieB_iff.2 ⟨ps, hv⟩] at cT
  have cR : Hid (∀ W', Calls Try.prog 40 #[.int .i64 (k : Int), .int .i64 (m : Int)] W' fun e w' => e = .returned (.bool true) ∧ w' = W') := Lib.hid (fun W' => by
    have := l9Random_any (k : Int) (m : Int) W'
    rwa [decide_eq_true (by omega)] at this)
  have cW := Lib.hid (fun W' (G : Gf 26 1 W W' a n c t) => drawnWords_own W.heap.size a n c t W' (Nat.le_of_lt G.size) G.nds hn ⟨ps, hv⟩)
  rw [← wordsOf_eq hv] at hx
  have hm40 := wordsOf_size t
  have HSh := Lib.hid (wordsOf_short t)
  have HLw : Hid (∀ x ∈ wordsOf t, Low x) := Lib.hid (by rw [wordsOf_eq hv]; exact fun x hx => (hv.wordsW x hx).2)
  obtain ⟨ws, hws⟩ : ∃ ws, wordsOf t = ws := ⟨_, rfl⟩
  obtain ⟨q, hq⟩ : ∃ q, ws.length = q := ⟨_, rfl⟩
  rw [hws] at cW HSh HLw hm40 hx
  rw [hq] at cW hm40
  have HM := Lib.hid hq
  have hK0 : 0 < k ^ m := Nat.pow_pos (by omega)
  have hKb := pow_bd (k := k) (j := m) hk hm
  have cPw := Lib.hid (fun W' => l9Power_any k m hk hm W')
  have cF := Lib.hid (fun (s : ByteArray) (h1 : s.size ≤ 12) (h2 : Low (tx s)) W' => l9First_any k s hk h1 h2 W')
  obtain ⟨K, hKK⟩ : ∃ K, k ^ m = K := ⟨_, rfl⟩
  rw [hKK] at hK0 hKb cPw hx
  obtain ⟨tot, htot⟩ : ∃ tot, tsum (htw k m) ws = tot := ⟨_, rfl⟩
  have HTot := Lib.hid htot
  have htl := tsum_le (htw k m) 1 (xs := ws) (fun x _ => by unfold htw; split <;> omega)
  rw [htot] at hx htl
  rw [hq] at htl
  have cC := Lib.hid (fun W' => l9Cut_any tot K W' (by omega) (by omega) hK0)
  obtain ⟨x1, x2⟩ := x
  rw [hx, fv_mk] at cC
  have hbx := G0.out.box
  clear hws hq hKK htot hx h hv
  go_enter Try.func18, Try.ntmps18
  go_wp2_with fail
  obtain ⟨W1, hW1⟩ : ∃ W1, (W.alloc (.cells #[.slice a n c] 31)).alloc (.cells #[.int .i64 0, .int .i64 0] 26) = W1 := ⟨_, rfl⟩
  rw [hW1] at G0 ⊢
  clear hW1 hbx
  refine (cT.out _ G0.out).mono ?_
  rintro e w2 ⟨rfl, hb2⟩
  have G2 := Lib.hid (G0.out.on hb2)
  have hbx := G2.out.box
  clear hb2
  go_wp2_with fail
  refine (cR.out _).mono ?_
  rintro e w3 ⟨rfl, rfl⟩
  go_wp2_with fail
  refine (cW.out _ G2.out).mono ?_
  rintro e w4 ⟨a4, c4, rfl, hW4, hb4⟩
  have G4 := Lib.hid (G2.out.on hb4)
  have C4 := hW4.sl.cap
  have T4 := hW4.sl.top
  have HW4 := Lib.hid hW4
  clear hb4 hbx hW4
  go_wp2_with fail
  go_loopw [8, 10] (fun s i wr => ∃ (j z : Nat), j ≤ q ∧ i = .int .i64 j ∧ s = .int .i64 z ∧ z ≤ j ∧ Hid (tsum (htw k m) (ws.take j) = z) ∧ wr = w4) (fun _ i _ => q - (intOf i).toNat)
  case atStart => exact ⟨0, 0, Nat.zero_le _, rfl, rfl, by omega, Lib.hid rfl, rfl⟩
  case round =>
    obtain ⟨j, z, hj, rfl, rfl, hz, HZ, rfl⟩ := hrel
    by_cases hlj : j < q
    · obtain ⟨b, o, s, rfl, _, hs, _, hc⟩ := Wds.elem HW4.out j hlj
      have HS := Lib.hid (tsum_succ (htw k m) hs)
      have hmem := at_mem hs
      have hs12 : s.size ≤ 12 := by have := HSh.out _ hmem; rwa [tx_len] at this
      have cF1 := Lib.hid (cF.out s hs12 (HLw.out _ hmem))
      have hj0 : (0 : Int) ≤ (j : Int) := by omega
      have hj1 : (j : Int) < (q : Int) := by omega
      clear hs hmem
      by_cases hl : s.size = m
      · have hbl : ((s.size : Int) == (m : Int)) = true := by simp; omega
        have hbl2 : decide ((s.size : Int) = (m : Int)) = true := decide_eq_true (by omega)
        have hbl3 : (s.size : Int) = (m : Int) := by omega
        have HHt : Hid (htw k m (tx s) = if fst9 k (tx s) = true then 1 else 0) := Lib.hid (by unfold htw; rw [tx_len]; simp [hl])
        obtain ⟨f, hf⟩ : ∃ f, fst9 k (tx s) = f := ⟨_, rfl⟩
        rw [hf] at cF1 HHt
        clear hf
        go_wp2_with fail
        refine (cF1.out _).mono ?_
        rintro e w5 ⟨rfl, rfl⟩
        cases f with
        | false =>
          go_wp2_with fail
          go_roundw
          case rel => exact ⟨j + 1, z, by omega, by go_num, rfl, by omega, Lib.hid (by rw [HS.out, HHt.out, HZ.out]; simp), by trivial⟩
          case measure => simp [intOf]; omega
        | true =>
          go_wp2_with fail
          go_roundw
          case rel => exact ⟨j + 1, z + 1, by omega, by go_num, by go_num, by omega, Lib.hid (by rw [HS.out, HHt.out, HZ.out]; simp), by trivial⟩
          case measure => simp [intOf]; omega
      · have hbl : ((s.size : Int) == (m : Int)) = false := by simp; omega
        have hbl2 : decide ((s.size : Int) = (m : Int)) = false := decide_eq_false (by omega)
        have hbl3 : ¬ (s.size : Int) = (m : Int) := by omega
        have HHt : Hid (htw k m (tx s) = 0) := Lib.hid (by unfold htw; rw [tx_len]; simp [hl])
        go_wp2_with fail
        go_roundw
        case rel => exact ⟨j + 1, z, by omega, by go_num, rfl, by omega, Lib.hid (by rw [HS.out, HHt.out, HZ.out]; rfl), by trivial⟩
        case measure => simp [intOf]; omega
    · have HF : Hid ((z : Int) = (tot : Int)) := Lib.hid (by rw [← HZ.out, List.take_of_length_le (by rw [HM.out]; omega), HTot.out])
      go_wp2_with fail
      refine (cPw.out _).mono ?_
      rintro e w6 ⟨rfl, rfl⟩
      go_wp2_with fail
      rw [HF.out]
      refine (cC.out _).mono ?_
      rintro e w7 ⟨rfl, hb7⟩
      have G7 := Lib.hid (G4.out.on hb7)
      clear hb7
      obtain ⟨f1, f2, f3, f4⟩ := G7.out.open
      obtain ⟨hE, hB9⟩ := G7.out.end' (.int .i64 (x1 : Int)) (.int .i64 (x2 : Int))
      have HE := Lib.hid hE
      have HB9 := Lib.hid hB9
      clear hE hB9
      go_wp2_with fail
      generalize ((w7.setCell ⟨W.heap.size + 1, 0, none⟩ (.int .i64 (x1 : Int))).setCell ⟨W.heap.size + 1, 1, none⟩ (.int .i64 (x2 : Int))) = W9 at *
      obtain ⟨hc0, hc1⟩ := HE.out
      exact bodyPost_ret (v := .tuple #[fv (x1, x2), .bool true]) (by simp [results, Try.results18, go_sem, hc0, hc1, fv]) rfl ⟨rfl, HB9.out⟩

end Go.Proofs.Ytibdfhhbkbncgab
