/-
  The mean number of letters of the shortest beginnings of their own: the reference and the program answer the same.
-/
import Derived.Test.YtibdfhhbkbncgaaDrawn
import Derived.Test.YtibdfhhbkbncgaaMnUnique
import Derived.Test.YtibdfhhbkbncgaaUQ
import Derived.Test.YtibdfhhbkbncgaaCutS
import Derived.Test.YtibdfhhbkbncgaaGf
import Derived.Deep.RegionHeld3
namespace Go.Proofs.Ytibdfhhbkbncgaa
open Go.RowKit
set_option linter.unusedVariables false
set_option linter.unusedSimpArgs false

/-- how many letters the shortest beginning of a word has that is its own -/
noncomputable def uqn (ws : List Txt) (x : Txt) : Nat := (cap.firstAt_ex (fun i => (undr (x.take i) ws).length = 1) x.length).choose
theorem uqn_at (ws : List Txt) (x : Txt) : cap.UniqAt ws x (uqn ws x) := (cap.firstAt_ex (fun i => (undr (x.take i) ws).length = 1) x.length).choose_spec
theorem uqn_le (ws : List Txt) (x : Txt) : uqn ws x ≤ x.length := (uqn_at ws x).1

theorem uniqueTell (t : List Nd) (a aw : Option Addr) (n c m cw : Nat) (hn : n ≤ 1048576) (x : Txt) (hit : IsT t) (hx : x ∈ wordsOf t) (W : World) (h : Nds W.heap.size W a n c t) : Calls Try.prog 46 #[.agg #[.slice a n c, .slice aw m cw], .string (bx x)] W fun e w' => e = .returned (.int .i64 (uqn (wordsOf t) x : Int)) ∧ Below W.heap.size W w' := by
  have hx12 := wordsOf_short t x hx
  have hzx : (bx x).size = x.length := by rw [← tx_len, tx_bx]
  have hF : cap.UniqFacts t (bx x) ((bx x).extract 0 (uqn (wordsOf t) x)) true := by
    refine ⟨?_, fun _ => ⟨uqn (wordsOf t) x, by rw [tx_bx]; exact uqn_at _ _, rfl⟩, fun e => by cases e⟩
    obtain ⟨ps, hv⟩ := hit
    have hw : IsW x := by
      have := hx
      rw [wordsOf_eq hv] at this
      exact hv.wordsW x this
    unfold hasB
    rw [trieB_iff.2 ⟨ps, hv⟩, okW_iff.2 hw]
    simp [tx_bx, hx]
  have HB1 : Hid (Below W.heap.size W (W.alloc (.cells #[.slice a n c, .slice aw m cw] 56))) := Lib.hid ((Below.refl _ _).alloc (Nat.le_refl _) _)
  obtain ⟨u1, u2⟩ := pair_cells W (.slice a n c) (.slice aw m cw) 56
  have cU := cap.implUnique t n c (bx x) hn (by rw [hzx]; omega) _ true hF (W.alloc (.cells #[.slice a n c, .slice aw m cw] 56)) a ((h.keep HB1.out).mono HB1.out.size)
  have hu := uqn_le (wordsOf t) x
  have hsz : ((bx x).extract 0 (uqn (wordsOf t) x)).size = uqn (wordsOf t) x := by rw [ByteArray.size_extract, hzx]; omega
  obtain ⟨z, hz⟩ : ∃ z, (bx x).extract 0 (uqn (wordsOf t) x) = z := ⟨_, rfl⟩
  rw [hz] at cU hsz
  obtain ⟨y, hy⟩ : ∃ y, uqn (wordsOf t) x = y := ⟨_, rfl⟩
  rw [hy] at hsz hu ⊢
  have CU := Lib.hid cU
  have HSZ := Lib.hid hsz
  clear cU hF hz hy hsz
  go_enter Try.func46, Try.ntmps46
  go_wp2_with fail
  refine CU.out.mono ?_
  rintro e w2 ⟨rfl, hb2⟩
  go_wp2_with fail
  go_ret
  exact ⟨ret_num (by rw [HSZ.out]), HB1.out.trans (hb2.mono HB1.out.size)⟩

open mnUnique in
set_option maxRecDepth 1000000 in
set_option maxHeartbeats 2000000 in
theorem specMeanUnique_any (t : List Nd) (n c : Nat) (hn : n ≤ 1048576) (x : Nat × Nat) (ok : Bool) (hok : potB t = ok) (hx : ok = true → x = fra (tsum (uqn (wordsOf t)) (wordsOf t)) (wordsOf t).length) (h0 : ok = false → x = (0, 0)) (W : World) (a : Option Addr) (h : Nds W.heap.size W a n c t) :
    Calls Try.prog 19 #[.agg #[.slice a n c]] W fun e w' => e = .returned (.tuple #[fv x, .bool ok]) ∧ Below W.heap.size W w' := by
  have G0 := Lib.hid (Gf.start 26 h)
  have cD := Lib.hid (fun W' (G : Gf 26 1 W W' a n c t) => l9Drawn_any W.heap.size a n c t W' (Nat.le_of_lt G.size) G.nds hn)
  have cW := Lib.hid (fun W' (G : Gf 26 1 W W' a n c t) (ht : IsT t) => drawnWords_own W.heap.size a n c t W' (Nat.le_of_lt G.size) G.nds hn ht)
  have HY := Lib.hid (potB_yes (t := t))
  have hm40 := wordsOf_size t
  have HSh := Lib.hid (wordsOf_short t)
  obtain ⟨ws, hws⟩ : ∃ ws, wordsOf t = ws := ⟨_, rfl⟩
  obtain ⟨m, hm⟩ : ∃ m, ws.length = m := ⟨_, rfl⟩
  rw [hws] at HY cW HSh hm40 hx
  rw [hm] at HY cW hm40 hx
  have HM := Lib.hid hm
  rw [hok] at cD HY
  obtain ⟨x1, x2⟩ := x
  have HXx := Lib.hid hx
  have HX0 := Lib.hid h0
  have hbx := G0.out.box
  clear hws hm h hx h0 hok
  go_enter Try.func19, Try.ntmps19
  go_wp2_with fail
  obtain ⟨W1, hW1⟩ : ∃ W1, (W.alloc (.cells #[.slice a n c] 31)).alloc (.cells #[.int .i64 0, .int .i64 0] 26) = W1 := ⟨_, rfl⟩
  rw [hW1] at G0 ⊢
  clear hW1 hbx
  refine (cD.out _ G0.out).mono ?_
  rintro e w2 ⟨rfl, hb2⟩
  have G2 := Lib.hid (G0.out.on hb2)
  have hbx := G2.out.box
  obtain ⟨f1, f2, f3, f4⟩ := G2.out.open
  clear hb2
  cases ok with
  | false =>
    obtain ⟨hE, hB9⟩ := G2.out.end' (.int .i64 0) (.int .i64 0)
    have HE := Lib.hid hE
    have HB9 := Lib.hid hB9
    clear hE hB9
    go_wp2_with fail
    generalize ((w2.setCell ⟨W.heap.size + 1, 0, none⟩ (.int .i64 0)).setCell ⟨W.heap.size + 1, 1, none⟩ (.int .i64 0)) = W9 at *
    obtain ⟨hc0, hc1⟩ := HE.out
    exact bodyPost_ret (v := .tuple #[fv (0, 0), .bool false]) (by simp [results, Try.results19, go_sem, hc0, hc1, fv]) rfl ⟨by rw [HX0.out (by trivial)], HB9.out⟩
  | true =>
    obtain ⟨hit, hm0⟩ := HY.out (by trivial)
    clear f1 f2 f3 f4
    go_wp2_with fail
    refine (cW.out _ G2.out hit).mono ?_
    rintro e w3 ⟨a3, c3, rfl, hW3, hb3⟩
    have G3 := Lib.hid (G2.out.on hb3)
    have C3 := hW3.sl.cap
    have T3 := hW3.sl.top
    have HW3 := Lib.hid hW3
    clear hW3 hb3 hbx
    go_wp2_with fail
    have cQ := Lib.hid (fun (W' : World) (x : ByteArray) (hb : Below w3.heap.size w3 W') (hx : tx x ∈ ws) => cap.l3Unique_any w3.heap.size a3 m c3 (uqn ws (tx x)) ws x W' hb.size (HW3.out.keep hb) HSh.out hm40 (by have := HSh.out _ hx; rwa [tx_len] at this) (uqn_at ws (tx x)))
    go_loopw [4, 6] (fun s i wr => ∃ (k q : Nat), k ≤ m ∧ i = .int .i64 k ∧ s = .int .i64 q ∧ q ≤ 12 * k ∧ Hid (tsum (uqn ws) (ws.take k) = q) ∧ Hid (Below w3.heap.size w3 wr)) (fun _ i _ => m - (intOf i).toNat)
    case atStart => exact ⟨0, 0, Nat.zero_le _, rfl, rfl, by omega, Lib.hid rfl, Lib.hid (Below.refl _ _)⟩
    case round =>
      obtain ⟨k, q, hk, rfl, rfl, hq, HQ, HBw⟩ := hrel
      by_cases hlk : k < m
      · obtain ⟨b, o, s, rfl, _, hs, _, hc⟩ := Wds.elem (HW3.out.keep HBw.out) k hlk
        have HS := Lib.hid (tsum_succ (uqn ws) hs)
        have hs12 : s.size ≤ 12 := by have := HSh.out _ (at_mem hs); rwa [tx_len] at this
        have hu := uqn_le ws (tx s)
        rw [tx_len] at hu
        have cQ1 := cQ.out wr s HBw.out (at_mem hs)
        have hsz : (s.extract 0 (uqn ws (tx s))).size = uqn ws (tx s) := by rw [ByteArray.size_extract]; omega
        obtain ⟨z, hz⟩ : ∃ z, s.extract 0 (uqn ws (tx s)) = z := ⟨_, rfl⟩
        rw [hz] at cQ1 hsz
        obtain ⟨y, hy⟩ : ∃ y, uqn ws (tx s) = y := ⟨_, rfl⟩
        rw [hy] at hsz hu HS
        have CQ1 := Lib.hid cQ1
        have HSZ := Lib.hid hsz
        have hsz' : (z.size : Int) = (y : Int) := by rw [hsz]
        have hz12 : z.size ≤ 12 := by omega
        clear hs cQ1 hz hy hsz
        have hi0 : (0 : Int) ≤ (k : Int) := by omega
        have hi1 : (k : Int) < (m : Int) := by omega
        go_wp2_with fail
        refine CQ1.out.mono ?_
        rintro e w4 ⟨rfl, hb4⟩
        have HB4 := Lib.hid (HBw.out.trans (hb4.mono HBw.out.size))
        clear hb4
        go_wp2_with fail
        go_roundw
        case rel => exact ⟨k + 1, q + z.size, by omega, by go_num, by go_num, by omega, Lib.hid (by rw [HS.out, HQ.out, HSZ.out]), HB4⟩
        case measure => simp [intOf]; omega
      · have HF : Hid (tsum (uqn ws) ws = q) := Lib.hid (by rw [← HQ.out, List.take_of_length_le (by rw [HM.out]; omega)])
        have G3 := Lib.hid (G3.out.on HBw.out)
        have cC := l9Cut_any q m wr (by omega) (by omega) hm0
        have HXe : Hid ((x1, x2) = fra q m) := Lib.hid (by rw [← HF.out]; exact HXx.out (by trivial))
        rw [← HXe.out, fv_mk] at cC
        have CC := Lib.hid cC
        clear cC
        go_wp2_with fail
        refine CC.out.mono ?_
        rintro e w4 ⟨rfl, hb4⟩
        have G4 := Lib.hid (G3.out.on hb4)
        obtain ⟨f1, f2, f3, f4⟩ := G4.out.open
        obtain ⟨hE, hB9⟩ := G4.out.end' (.int .i64 (x1 : Int)) (.int .i64 (x2 : Int))
        have HE := Lib.hid hE
        have HB9 := Lib.hid hB9
        clear hE hB9 hb4
        go_wp2_with fail
        generalize ((w4.setCell ⟨W.heap.size + 1, 0, none⟩ (.int .i64 (x1 : Int))).setCell ⟨W.heap.size + 1, 1, none⟩ (.int .i64 (x2 : Int))) = W9 at *
        obtain ⟨hc0, hc1⟩ := HE.out
        exact bodyPost_ret (v := .tuple #[fv (x1, x2), .bool true]) (by simp [results, Try.results19, go_sem, hc0, hc1, fv]) rfl ⟨rfl, HB9.out⟩

open mnUnique in
set_option maxRecDepth 1000000 in
set_option maxHeartbeats 2000000 in
theorem implMeanUnique_any (t : List Nd) (n c : Nat) (hn : n ≤ 1048576) (x : Nat × Nat) (ok : Bool) (hok : potB t = ok) (hx : ok = true → x = fra (tsum (uqn (wordsOf t)) (wordsOf t)) (wordsOf t).length) (h0 : ok = false → x = (0, 0)) (W : World) (a : Option Addr) (h : Nds W.heap.size W a n c t) :
    Calls Try.prog 20 #[.agg #[.slice a n c]] W fun e w' => e = .returned (.tuple #[fv x, .bool ok]) ∧ Below W.heap.size W w' := by
  have G0 := Lib.hid (Gf.start 26 h)
  have cD := Lib.hid (fun W' (G : Gf 26 1 W W' a n c t) => potOf_any W.heap.size a n c t W' (Nat.le_of_lt G.size) G.nds)
  have HY := Lib.hid (potB_yes (t := t))
  have hm40 := wordsOf_size t
  have HSh := Lib.hid (wordsOf_short t)
  obtain ⟨ws, hws⟩ : ∃ ws, wordsOf t = ws := ⟨_, rfl⟩
  obtain ⟨m, hm⟩ : ∃ m, ws.length = m := ⟨_, rfl⟩
  rw [hws] at HY cD HSh hm40 hx
  rw [hm] at HY cD hm40 hx
  have HM := Lib.hid hm
  rw [hok] at cD HY
  obtain ⟨x1, x2⟩ := x
  have HXx := Lib.hid hx
  have HX0 := Lib.hid h0
  have hbx := G0.out.box
  have HWs := Lib.hid hws
  clear hws hm h hx h0 hok
  go_enter Try.func20, Try.ntmps20
  go_wp2_with fail
  obtain ⟨W1, hW1⟩ : ∃ W1, (W.alloc (.cells #[.slice a n c] 31)).alloc (.cells #[.int .i64 0, .int .i64 0] 26) = W1 := ⟨_, rfl⟩
  rw [hW1] at G0 ⊢
  clear hW1 hbx
  refine (cD.out _ G0.out).mono ?_
  rintro e w2 ⟨aw, cw, rfl, hO2, hb2⟩
  have G2 := Lib.hid (G0.out.on hb2)
  have hO3 := own_stay hO2 ((Below.refl w2.heap.size w2).alloc (Nat.le_refl _) (.cells #[.slice a n c, .slice aw m cw] 56))
  have HG3 : Hid (Below w2.heap.size w2 (w2.alloc (.cells #[.slice a n c, .slice aw m cw] 56))) := Lib.hid ((Below.refl _ _).alloc (Nat.le_refl _) _)
  have G3 := Lib.hid (G2.out.on HG3.out)
  obtain ⟨u1, u2⟩ := pair_cells w2 (.slice a n c) (.slice aw m cw) 56
  obtain ⟨f1, f2, f3, f4⟩ := G3.out.open
  have hW3 := wds_of_own HM.out hO3 HSh.out
  have HW3 := Lib.hid hW3
  clear hb2 hO2 hO3 hW3
  cases ok with
  | false =>
    obtain ⟨hE, hB9⟩ := G3.out.end' (.int .i64 0) (.int .i64 0)
    have HE := Lib.hid hE
    have HB9 := Lib.hid hB9
    clear hE hB9
    go_wp2_with fail
    generalize (((w2.alloc (.cells #[.slice a n c, .slice aw m cw] 56)).setCell ⟨W.heap.size + 1, 0, none⟩ (.int .i64 0)).setCell ⟨W.heap.size + 1, 1, none⟩ (.int .i64 0)) = W9 at *
    obtain ⟨hc0, hc1⟩ := HE.out
    exact bodyPost_ret (v := .tuple #[fv (0, 0), .bool false]) (by simp [results, Try.results20, go_sem, hc0, hc1, fv]) rfl ⟨by rw [HX0.out (by trivial)], HB9.out⟩
  | true =>
    obtain ⟨hit, hm0⟩ := HY.out (by trivial)
    obtain ⟨W3, hW3⟩ : ∃ W3, w2.alloc (.cells #[.slice a n c, .slice aw m cw] 56) = W3 := ⟨_, rfl⟩
    have cM := mean_any a aw n c m cw ws (uqn ws) W3 (by rw [← hW3]; exact HW3.out) hm0 (by omega) HSh.out (fun x hx => by have := HSh.out x hx; have := uqn_le ws x; omega) (fun W' x hx hb => by have := uniqueTell t a aw n c m cw hn x hit (by rw [HWs.out]; exact hx) W' (((G3.out.nds.mono (Nat.le_of_lt G3.out.size)).keep (by rw [hW3]; exact hb)).mono (by rw [hW3]; exact hb.size)); rwa [HWs.out] at this)
    have HXe := HXx.out (by trivial)
    rw [← HXe, fv_mk] at cM
    rw [← hW3] at cM
    have CM := Lib.hid cM
    clear cM HXe hW3 f1 f2 f3 f4
    go_wp2_with fail
    refine CM.out.mono ?_
    rintro e w4 ⟨rfl, hb4⟩
    have G4 := Lib.hid (G3.out.on hb4)
    obtain ⟨f1, f2, f3, f4⟩ := G4.out.open
    obtain ⟨hE, hB9⟩ := G4.out.end' (.int .i64 (x1 : Int)) (.int .i64 (x2 : Int))
    have HE := Lib.hid hE
    have HB9 := Lib.hid hB9
    clear hE hB9 hb4 u1 u2
    go_wp2_with fail
    generalize ((w4.setCell ⟨W.heap.size + 1, 0, none⟩ (.int .i64 (x1 : Int))).setCell ⟨W.heap.size + 1, 1, none⟩ (.int .i64 (x2 : Int))) = W9 at *
    obtain ⟨hc0, hc1⟩ := HE.out
    exact bodyPost_ret (v := .tuple #[fv (x1, x2), .bool true]) (by simp [results, Try.results20, go_sem, hc0, hc1, fv]) rfl ⟨rfl, HB9.out⟩

open mnUnique in
theorem agreeMeanUnique (t : List Nd) (n c : Nat) (hn : n ≤ 1048576) : ∃ (x : Nat × Nat) (ok : Bool),
    (∀ (W : World) (a : Option Addr), Nds W.heap.size W a n c t → Calls Try.prog 19 #[.agg #[.slice a n c]] W fun e w' => e = .returned (.tuple #[fv x, .bool ok]) ∧ Below W.heap.size W w') ∧
    (∀ (W : World) (a : Option Addr), Nds W.heap.size W a n c t → Calls Try.prog 20 #[.agg #[.slice a n c]] W fun e w' => e = .returned (.tuple #[fv x, .bool ok]) ∧ Below W.heap.size W w') := by
  refine ⟨if potB t = true then fra (tsum (uqn (wordsOf t)) (wordsOf t)) (wordsOf t).length else (0, 0), potB t, fun W a h => ?_, fun W a h => ?_⟩
  · exact specMeanUnique_any t n c hn _ _ rfl (fun e => if_pos e) (fun e => if_neg (by rw [e]; simp)) W a h
  · exact implMeanUnique_any t n c hn _ _ rfl (fun e => if_pos e) (fun e => if_neg (by rw [e]; simp)) W a h

end Go.Proofs.Ytibdfhhbkbncgaa
