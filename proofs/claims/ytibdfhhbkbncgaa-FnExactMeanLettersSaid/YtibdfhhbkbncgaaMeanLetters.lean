/-
  The mean number of letters: the reference and the program answer the same.
-/
import Derived.Test.YtibdfhhbkbncgaaDrawn
import Derived.Test.YtibdfhhbkbncgaaMnLetters
import Derived.Test.YtibdfhhbkbncgaaCutS
import Derived.Test.YtibdfhhbkbncgaaGf
import Derived.Deep.RegionHeld3
namespace Go.Proofs.Ytibdfhhbkbncgaa
open Go.RowKit
set_option linter.unusedVariables false
set_option linter.unusedSimpArgs false

theorem lettersTell (x : Txt) (hx : x.length ≤ 12) (W : World) : Calls Try.prog 39 #[.string (bx x)] W fun e w' => e = .returned (.int .i64 (x.length : Int)) ∧ Below W.heap.size W w' := by
  have hz : (bx x).size = x.length := by rw [← tx_len, tx_bx]
  go_enter Try.func39, Try.ntmps39
  go_wp2
  go_ret
  exact ⟨ret_num (by rw [← hz]), Below.refl _ _⟩

open mnLetters in
set_option maxRecDepth 1000000 in
set_option maxHeartbeats 2000000 in
theorem specMeanLetters_any (t : List Nd) (n c : Nat) (hn : n ≤ 1048576) (x : Nat × Nat) (ok : Bool) (hok : potB t = ok) (hx : ok = true → x = fra (tsum List.length (wordsOf t)) (wordsOf t).length) (h0 : ok = false → x = (0, 0)) (W : World) (a : Option Addr) (h : Nds W.heap.size W a n c t) :
    Calls Try.prog 15 #[.agg #[.slice a n c]] W fun e w' => e = .returned (.tuple #[fv x, .bool ok]) ∧ Below W.heap.size W w' := by
  have G0 := Lib.hid (Gf.start 26 h)
  have cD := Lib.hid (fun W' (G : Gf 26 1 W W' a n c t) => l9Drawn_any W.heap.size a n c t W' (Nat.le_of_lt G.size) G.nds hn)
  have cW := Lib.hid (fun W' (G : Gf 26 1 W W' a n c t) (ht : IsT t) => drawnWords_own W.heap.size a n c t W' (Nat.le_of_lt G.size) G.nds hn ht)
  have HY := Lib.hid (potB_yes (t := t))
  have hm40 := wordsOf_size t
  have HSh := Lib.hid (wordsOf_short t)
  obtain ⟨ws, hws⟩ : ∃ ws, wordsOf t = ws := ⟨_, rfl⟩
  obtain ⟨m, hm⟩ : ∃ m, ws.length = m := ⟨_, rfl⟩
  rw [hws] at HY cW HSh hm40 hx
  rw [hm] at HY cW hm40 hx
  have HM := Lib.hid hm
  rw [hok] at cD HY
  obtain ⟨x1, x2⟩ := x
  have HXx := Lib.hid hx
  have HX0 := Lib.hid h0
  have hbx := G0.out.box
  clear hws hm h hx h0 hok
  go_enter Try.func15, Try.ntmps15
  go_wp2_with fail
  obtain ⟨W1, hW1⟩ : ∃ W1, (W.alloc (.cells #[.slice a n c] 31)).alloc (.cells #[.int .i64 0, .int .i64 0] 26) = W1 := ⟨_, rfl⟩
  rw [hW1] at G0 ⊢
  clear hW1 hbx
  refine (cD.out _ G0.out).mono ?_
  rintro e w2 ⟨rfl, hb2⟩
  have G2 := Lib.hid (G0.out.on hb2)
  have hbx := G2.out.box
  obtain ⟨f1, f2, f3, f4⟩ := G2.out.open
  clear hb2
  cases ok with
  | false =>
    obtain ⟨hE, hB9⟩ := G2.out.end' (.int .i64 0) (.int .i64 0)
    have HE := Lib.hid hE
    have HB9 := Lib.hid hB9
    clear hE hB9
    go_wp2_with fail
    generalize ((w2.setCell ⟨W.heap.size + 1, 0, none⟩ (.int .i64 0)).setCell ⟨W.heap.size + 1, 1, none⟩ (.int .i64 0)) = W9 at *
    obtain ⟨hc0, hc1⟩ := HE.out
    exact bodyPost_ret (v := .tuple #[fv (0, 0), .bool false]) (by simp [results, Try.results15, go_sem, hc0, hc1, fv]) rfl ⟨by rw [HX0.out (by trivial)], HB9.out⟩
  | true =>
    obtain ⟨hit, hm0⟩ := HY.out (by trivial)
    clear f1 f2 f3 f4
    go_wp2_with fail
    refine (cW.out _ G2.out hit).mono ?_
    rintro e w3 ⟨a3, c3, rfl, hW3, hb3⟩
    have G3 := Lib.hid (G2.out.on hb3)
    have C3 := hW3.sl.cap
    have T3 := hW3.sl.top
    have HW3 := Lib.hid hW3
    clear hW3 hb3 hbx
    go_wp2_with fail
    go_loop [4, 6] (fun s i => ∃ (k q : Nat), k ≤ m ∧ i = .int .i64 k ∧ s = .int .i64 q ∧ q ≤ 12 * k ∧ Hid (tsum List.length (ws.take k) = q)) (fun _ i => m - (intOf i).toNat)
    case atStart => exact ⟨0, 0, Nat.zero_le _, rfl, rfl, by omega, Lib.hid rfl⟩
    case round =>
      obtain ⟨k, q, hk, rfl, rfl, hq, HQ⟩ := hrel
      by_cases hlk : k < m
      · obtain ⟨b, o, s, rfl, _, hs, _, hc⟩ := Wds.elem HW3.out k hlk
        have HS := Lib.hid (tsum_succ List.length hs)
        have hs12 : s.size ≤ 12 := by have := HSh.out _ (at_mem hs); rwa [tx_len] at this
        clear hs
        go_wp2
        go_round
        case rel => exact ⟨k + 1, q + s.size, by omega, by go_num, by go_num, by omega, Lib.hid (by rw [HS.out, HQ.out, tx_len])⟩
        case measure => simp [intOf]; omega
      · have HF : Hid (tsum List.length ws = q) := Lib.hid (by rw [← HQ.out, List.take_of_length_le (by rw [HM.out]; omega)])
        have cC := l9Cut_any q m w3 (by omega) (by omega) hm0
        have HXe : Hid ((x1, x2) = fra q m) := Lib.hid (by rw [← HF.out]; exact HXx.out (by trivial))
        rw [← HXe.out, fv_mk] at cC
        have CC := Lib.hid cC
        clear cC
        go_wp2_with fail
        refine CC.out.mono ?_
        rintro e w4 ⟨rfl, hb4⟩
        have G4 := Lib.hid (G3.out.on hb4)
        obtain ⟨f1, f2, f3, f4⟩ := G4.out.open
        obtain ⟨hE, hB9⟩ := G4.out.end' (.int .i64 (x1 : Int)) (.int .i64 (x2 : Int))
        have HE := Lib.hid hE
        have HB9 := Lib.hid hB9
        clear hE hB9 hb4
        go_wp2_with fail
        generalize ((w4.setCell ⟨W.heap.size + 1, 0, none⟩ (.int .i64 (x1 : Int))).setCell ⟨W.heap.size + 1, 1, none⟩ (.int .i64 (x2 : Int))) = W9 at *
        obtain ⟨hc0, hc1⟩ := HE.out
        exact bodyPost_ret (v := .tuple #[fv (x1, x2), .bool true]) (by simp [results, Try.results15, go_sem, hc0, hc1, fv]) rfl ⟨rfl, HB9.out⟩

open mnLetters in
set_option maxRecDepth 1000000 in
set_option maxHeartbeats 2000000 in
theorem implMeanLetters_any (t : List Nd) (n c : Nat) (x : Nat × Nat) (ok : Bool) (hok : potB t = ok) (hx : ok = true → x = fra (tsum List.length (wordsOf t)) (wordsOf t).length) (h0 : ok = false → x = (0, 0)) (W : World) (a : Option Addr) (h : Nds W.heap.size W a n c t) :
    Calls Try.prog 16 #[.agg #[.slice a n c]] W fun e w' => e = .returned (.tuple #[fv x, .bool ok]) ∧ Below W.heap.size W w' := by
  have G0 := Lib.hid (Gf.start 26 h)
  have cD := Lib.hid (fun W' (G : Gf 26 1 W W' a n c t) => potOf_any W.heap.size a n c t W' (Nat.le_of_lt G.size) G.nds)
  have HY := Lib.hid (potB_yes (t := t))
  have hm40 := wordsOf_size t
  have HSh := Lib.hid (wordsOf_short t)
  obtain ⟨ws, hws⟩ : ∃ ws, wordsOf t = ws := ⟨_, rfl⟩
  obtain ⟨m, hm⟩ : ∃ m, ws.length = m := ⟨_, rfl⟩
  rw [hws] at HY cD HSh hm40 hx
  rw [hm] at HY cD hm40 hx
  have HM := Lib.hid hm
  rw [hok] at cD HY
  obtain ⟨x1, x2⟩ := x
  have HXx := Lib.hid hx
  have HX0 := Lib.hid h0
  have hbx := G0.out.box
  clear hws hm h hx h0 hok
  go_enter Try.func16, Try.ntmps16
  go_wp2_with fail
  obtain ⟨W1, hW1⟩ : ∃ W1, (W.alloc (.cells #[.slice a n c] 31)).alloc (.cells #[.int .i64 0, .int .i64 0] 26) = W1 := ⟨_, rfl⟩
  rw [hW1] at G0 ⊢
  clear hW1 hbx
  refine (cD.out _ G0.out).mono ?_
  rintro e w2 ⟨aw, cw, rfl, hO2, hb2⟩
  have G2 := Lib.hid (G0.out.on hb2)
  have hO3 := own_stay hO2 ((Below.refl w2.heap.size w2).alloc (Nat.le_refl _) (.cells #[.slice a n c, .slice aw m cw] 56))
  have HG3 : Hid (Below w2.heap.size w2 (w2.alloc (.cells #[.slice a n c, .slice aw m cw] 56))) := Lib.hid ((Below.refl _ _).alloc (Nat.le_refl _) _)
  have G3 := Lib.hid (G2.out.on HG3.out)
  obtain ⟨u1, u2⟩ := pair_cells w2 (.slice a n c) (.slice aw m cw) 56
  obtain ⟨f1, f2, f3, f4⟩ := G3.out.open
  have hW3 := wds_of_own HM.out hO3 HSh.out
  have HW3 := Lib.hid hW3
  clear hb2 hO2 hO3 hW3
  cases ok with
  | false =>
    obtain ⟨hE, hB9⟩ := G3.out.end' (.int .i64 0) (.int .i64 0)
    have HE := Lib.hid hE
    have HB9 := Lib.hid hB9
    clear hE hB9
    go_wp2_with fail
    generalize (((w2.alloc (.cells #[.slice a n c, .slice aw m cw] 56)).setCell ⟨W.heap.size + 1, 0, none⟩ (.int .i64 0)).setCell ⟨W.heap.size + 1, 1, none⟩ (.int .i64 0)) = W9 at *
    obtain ⟨hc0, hc1⟩ := HE.out
    exact bodyPost_ret (v := .tuple #[fv (0, 0), .bool false]) (by simp [results, Try.results16, go_sem, hc0, hc1, fv]) rfl ⟨by rw [HX0.out (by trivial)], HB9.out⟩
  | true =>
    obtain ⟨hit, hm0⟩ := HY.out (by trivial)
    obtain ⟨W3, hW3⟩ : ∃ W3, w2.alloc (.cells #[.slice a n c, .slice aw m cw] 56) = W3 := ⟨_, rfl⟩
    have cM := mean_any a aw n c m cw ws List.length W3 (by rw [← hW3]; exact HW3.out) hm0 (by omega) HSh.out (fun x hx => by have := HSh.out x hx; omega) (fun W' x hx _ => lettersTell x (HSh.out x hx) W')
    have HXe := HXx.out (by trivial)
    rw [← HXe, fv_mk] at cM
    rw [← hW3] at cM
    have CM := Lib.hid cM
    clear cM HXe hW3 f1 f2 f3 f4
    go_wp2_with fail
    refine CM.out.mono ?_
    rintro e w4 ⟨rfl, hb4⟩
    have G4 := Lib.hid (G3.out.on hb4)
    obtain ⟨f1, f2, f3, f4⟩ := G4.out.open
    obtain ⟨hE, hB9⟩ := G4.out.end' (.int .i64 (x1 : Int)) (.int .i64 (x2 : Int))
    have HE := Lib.hid hE
    have HB9 := Lib.hid hB9
    clear hE hB9 hb4 u1 u2
    go_wp2_with fail
    generalize ((w4.setCell ⟨W.heap.size + 1, 0, none⟩ (.int .i64 (x1 : Int))).setCell ⟨W.heap.size + 1, 1, none⟩ (.int .i64 (x2 : Int))) = W9 at *
    obtain ⟨hc0, hc1⟩ := HE.out
    exact bodyPost_ret (v := .tuple #[fv (x1, x2), .bool true]) (by simp [results, Try.results16, go_sem, hc0, hc1, fv]) rfl ⟨rfl, HB9.out⟩

open mnLetters in
theorem agreeMeanLetters (t : List Nd) (n c : Nat) (hn : n ≤ 1048576) : ∃ (x : Nat × Nat) (ok : Bool),
    (∀ (W : World) (a : Option Addr), Nds W.heap.size W a n c t → Calls Try.prog 15 #[.agg #[.slice a n c]] W fun e w' => e = .returned (.tuple #[fv x, .bool ok]) ∧ Below W.heap.size W w') ∧
    (∀ (W : World) (a : Option Addr), Nds W.heap.size W a n c t → Calls Try.prog 16 #[.agg #[.slice a n c]] W fun e w' => e = .returned (.tuple #[fv x, .bool ok]) ∧ Below W.heap.size W w') := by
  refine ⟨if potB t = true then fra (tsum List.length (wordsOf t)) (wordsOf t).length else (0, 0), potB t, fun W a h => ?_, fun W a h => ?_⟩
  · exact specMeanLetters_any t n c hn _ _ rfl (fun e => if_pos e) (fun e => if_neg (by rw [e]; simp)) W a h
  · exact implMeanLetters_any t n c _ _ rfl (fun e => if_pos e) (fun e => if_neg (by rw [e]; simp)) W a h

end Go.Proofs.Ytibdfhhbkbncgaa
