/-
  The chance that a word that is drawn is under a node: the reference and the program answer the same.
-/
import Derived.Test.YtibdfhhbkbncgaaDrawn
import Derived.Test.YtibdfhhbkbncgaaUnderI
import Derived.Test.YtibdfhhbkbncgaaCutS
import Derived.Test.YtibdfhhbkbncgaaGf
namespace Go.Proofs.Ytibdfhhbkbncgaa
open Go.RowKit
set_option linter.unusedVariables false
set_option linter.unusedSimpArgs false

set_option maxRecDepth 1000000 in
set_option maxHeartbeats 2000000 in
theorem specChanceUnder_no (t : List Nd) (n c : Nat) (x0 : Int) (hn : n ≤ 1048576) (hr : ¬ (potB t = true ∧ 0 ≤ x0 ∧ x0 < n)) (W : World) (a : Option Addr) (h : Nds W.heap.size W a n c t) :
    Calls Try.prog 10 #[.agg #[.slice a n c], .int .i64 x0] W fun e w' => e = .returned (.tuple #[fv (0, 0), .bool false]) ∧ Below W.heap.size W w' := by
  have G0 := Lib.hid (Gf.start 26 h)
  have cD := Lib.hid (fun W' (G : Gf 26 1 W W' a n c t) => l9Drawn_any W.heap.size a n c t W' (Nat.le_of_lt G.size) G.nds hn)
  have cGd := Lib.hid (fun (hp : potB t = true) W' (G : Gf 26 1 W W' a n c t) => cap.l2Good_any t n c x0 hn false ⟨fun h => (by cases h), fun h => absurd ⟨hp, h.2⟩ hr⟩ W' W.heap.size (Nat.le_of_lt G.size) a G.nds)
  obtain ⟨q, hq⟩ : ∃ q, potB t = q := ⟨_, rfl⟩
  rw [hq] at cD cGd
  have hbx := G0.out.box
  clear hq hr h
  go_enter Try.func10, Try.ntmps10
  go_wp2_with fail
  obtain ⟨W1, hW1⟩ : ∃ W1, (W.alloc (.cells #[.slice a n c] 31)).alloc (.cells #[.int .i64 0, .int .i64 0] 26) = W1 := ⟨_, rfl⟩
  rw [hW1] at G0 ⊢
  clear hW1 hbx
  refine (cD.out _ G0.out).mono ?_
  rintro e w2 ⟨rfl, hb2⟩
  have G2 := Lib.hid (G0.out.on hb2)
  have hbx := G2.out.box
  clear hb2
  cases q with
  | false =>
    obtain ⟨f1, f2, f3, f4⟩ := G2.out.open
    obtain ⟨hE, hB9⟩ := G2.out.end' (.int .i64 0) (.int .i64 0)
    have HE := Lib.hid hE
    have HB9 := Lib.hid hB9
    clear hE hB9
    go_wp2_with fail
    generalize ((w2.setCell ⟨W.heap.size + 1, 0, none⟩ (.int .i64 0)).setCell ⟨W.heap.size + 1, 1, none⟩ (.int .i64 0)) = W9 at *
    obtain ⟨hc0, hc1⟩ := HE.out
    exact bodyPost_ret (v := .tuple #[fv (0, 0), .bool false]) (by simp [results, Try.results10, go_sem, hc0, hc1, fv]) rfl ⟨rfl, HB9.out⟩
  | true =>
    go_wp2_with fail
    refine (cGd.out (by trivial) _ G2.out).mono ?_
    rintro e w3 ⟨rfl, hb3⟩
    have G3 := Lib.hid (G2.out.on hb3)
    obtain ⟨f1, f2, f3, f4⟩ := G3.out.open
    clear hb3 hbx
    obtain ⟨hE, hB9⟩ := G3.out.end' (.int .i64 0) (.int .i64 0)
    have HE := Lib.hid hE
    have HB9 := Lib.hid hB9
    clear hE hB9
    go_wp2_with fail
    generalize ((w3.setCell ⟨W.heap.size + 1, 0, none⟩ (.int .i64 0)).setCell ⟨W.heap.size + 1, 1, none⟩ (.int .i64 0)) = W9 at *
    obtain ⟨hc0, hc1⟩ := HE.out
    exact bodyPost_ret (v := .tuple #[fv (0, 0), .bool false]) (by simp [results, Try.results10, go_sem, hc0, hc1, fv]) rfl ⟨rfl, HB9.out⟩

set_option maxRecDepth 1000000 in
set_option maxHeartbeats 2000000 in
theorem specChanceUnder_yes (t : List Nd) (ps : List Txt) (n c i : Nat) (y : Txt) (hn : n ≤ 1048576) (hv : Valid t ps) (hp : potB t = true) (hi : i < n) (hy : ps[i]? = some y) (x : Nat × Nat) (hx : x = fra (undr y (wordsOf t)).length (wordsOf t).length) (W : World) (a : Option Addr) (h : Nds W.heap.size W a n c t) :
    Calls Try.prog 10 #[.agg #[.slice a n c], .int .i64 (i : Int)] W fun e w' => e = .returned (.tuple #[fv x, .bool true]) ∧ Below W.heap.size W w' := by
  have G0 := Lib.hid (Gf.start 26 h)
  have cD := Lib.hid (fun W' (G : Gf 26 1 W W' a n c t) => l9Drawn_any W.heap.size a n c t W' (Nat.le_of_lt G.size) G.nds hn)
  have cGd := Lib.hid (fun W' (G : Gf 26 1 W W' a n c t) => cap.l2Good_any t n c (i : Int) hn true ⟨fun _ => ⟨⟨ps, hv⟩, by omega, by omega⟩, fun _ => rfl⟩ W' W.heap.size (Nat.le_of_lt G.size) a G.nds)
  have cW := Lib.hid (fun W' (G : Gf 26 1 W W' a n c t) => drawnWords_own W.heap.size a n c t W' (Nat.le_of_lt G.size) G.nds hn ⟨ps, hv⟩)
  have cP := Lib.hid (fun W' (G : Gf 26 1 W W' a n c t) => l2Prefix_any W.heap.size a n c i t W' (Nat.le_of_lt G.size) G.nds hi)
  have HPr : Hid (∀ s, PreOf t i s → tx s = y) := Lib.hid (fun s hs => hs ps hv.tells hv.short y hy)
  obtain ⟨_, hm0⟩ := potB_yes hp
  have hm40 := wordsOf_size t
  have HSh := Lib.hid (wordsOf_short t)
  rw [hp] at cD
  obtain ⟨ws, hws⟩ : ∃ ws, wordsOf t = ws := ⟨_, rfl⟩
  obtain ⟨m, hm⟩ : ∃ m, ws.length = m := ⟨_, rfl⟩
  obtain ⟨q, hq⟩ : ∃ q, (undr y ws).length = q := ⟨_, rfl⟩
  have hqm : q ≤ ws.length := by rw [← hq]; exact undr_le _ _
  rw [hws] at cW HSh hm40 hx hm0
  rw [hm] at cW hm40 hx hm0 hqm
  rw [hq] at hx
  have HQ := Lib.hid hq
  obtain ⟨x1, x2⟩ := x
  have cC := Lib.hid (fun W' => l9Cut_any q m W' (by omega) (by omega) hm0)
  rw [← hx, fv_mk] at cC
  have hbx := G0.out.box
  clear hws hm hq h hx hv hp hy
  go_enter Try.func10, Try.ntmps10
  go_wp2_with fail
  obtain ⟨W1, hW1⟩ : ∃ W1, (W.alloc (.cells #[.slice a n c] 31)).alloc (.cells #[.int .i64 0, .int .i64 0] 26) = W1 := ⟨_, rfl⟩
  rw [hW1] at G0 ⊢
  clear hW1 hbx
  refine (cD.out _ G0.out).mono ?_
  rintro e w2 ⟨rfl, hb2⟩
  have G2 := Lib.hid (G0.out.on hb2)
  have hbx := G2.out.box
  clear hb2
  go_wp2_with fail
  refine (cGd.out _ G2.out).mono ?_
  rintro e w3 ⟨rfl, hb3⟩
  have G3 := Lib.hid (G2.out.on hb3)
  have hbx3 := G3.out.box
  clear hb3 hbx
  go_wp2_with fail
  refine (cW.out _ G3.out).mono ?_
  rintro e w4 ⟨a4, c4, rfl, hW4, hb4⟩
  have G4 := Lib.hid (G3.out.on hb4)
  have HW4 := Lib.hid hW4
  have hbx4 := G4.out.box
  clear hb4 hbx3 hW4
  go_wp2_with fail
  refine (cP.out _ G4.out).mono ?_
  rintro e w5 ⟨s, rfl, hs13, hpre, hb5⟩
  have HS := Lib.hid (HPr.out s hpre)
  have G5 := Lib.hid (G4.out.on hb5)
  have cU := l3Under_any w4.heap.size a4 m c4 ws s w5 hb5.size (HW4.out.keep hb5) HSh.out hm40 (by omega)
  rw [HS.out, HQ.out] at cU
  have CU := Lib.hid cU
  clear hb5 hbx4 hpre cU
  go_wp2_with fail
  refine CU.out.mono ?_
  rintro e w6 ⟨v, rfl, hO6, hb6⟩
  obtain ⟨a6, c6, rfl⟩ := own_slice hO6
  have G6 := Lib.hid (G5.out.on hb6)
  clear hb6 hO6
  go_wp2_with fail
  refine (cC.out _).mono ?_
  rintro e w7 ⟨rfl, hb7⟩
  have G7 := Lib.hid (G6.out.on hb7)
  clear hb7
  obtain ⟨f1, f2, f3, f4⟩ := G7.out.open
  obtain ⟨hE, hB9⟩ := G7.out.end' (.int .i64 (x1 : Int)) (.int .i64 (x2 : Int))
  have HE := Lib.hid hE
  have HB9 := Lib.hid hB9
  clear hE hB9
  go_wp2_with fail
  generalize ((w7.setCell ⟨W.heap.size + 1, 0, none⟩ (.int .i64 (x1 : Int))).setCell ⟨W.heap.size + 1, 1, none⟩ (.int .i64 (x2 : Int))) = W9 at *
  obtain ⟨hc0, hc1⟩ := HE.out
  exact bodyPost_ret (v := .tuple #[fv (x1, x2), .bool true]) (by simp [results, Try.results10, go_sem, hc0, hc1, fv]) rfl ⟨rfl, HB9.out⟩

set_option maxRecDepth 1000000 in
set_option maxHeartbeats 2000000 in
theorem implChanceUnder_no (t : List Nd) (n c : Nat) (x0 : Int) (hn : n ≤ 1048576) (hr : ¬ (potB t = true ∧ 0 ≤ x0 ∧ x0 < n)) (W : World) (a : Option Addr) (h : Nds W.heap.size W a n c t) :
    Calls Try.prog 12 #[.agg #[.slice a n c], .int .i64 x0] W fun e w' => e = .returned (.tuple #[fv (0, 0), .bool false]) ∧ Below W.heap.size W w' := by
  have G0 := Lib.hid (Gf.start 26 h)
  have cK := Lib.hid (fun W' (G : Gf 26 1 W W' a n c t) => implCountWords_any t n c W' a (G.nds.mono (Nat.le_of_lt G.size)))
  have cU : Hid (∀ W', Gf 26 1 W W' a n c t → Calls Try.prog 34 #[.agg #[.slice a n c], .int .i64 x0] W' fun e w' => ∃ (v : Int) (r : Bool), e = .returned (.tuple #[.int .i64 v, .bool r]) ∧ (r = true → IsT t ∧ 0 ≤ x0 ∧ x0 < n) ∧ Below W'.heap.size W' w') := Lib.hid (fun W' G => by
    by_cases hg : IsT t ∧ 0 ≤ x0 ∧ x0 < n
    · obtain ⟨⟨ps, hv⟩, h0, h1⟩ := hg
      obtain ⟨i, rfl⟩ : ∃ i : Nat, x0 = i := ⟨x0.toNat, by omega⟩
      obtain ⟨_, y, _, hy⟩ := hv.tells.at (show i < t.length by have := G.nds.len; omega)
      exact (implCountUnder_yes t ps n c i y hn hv (by omega) hy W' a (G.nds.mono (Nat.le_of_lt G.size))).mono fun e w' he => ⟨_, _, he.1, fun _ => ⟨⟨ps, hv⟩, h0, h1⟩, he.2⟩
    · exact (implCountUnder_no t n c x0 hn hg W' a (G.nds.mono (Nat.le_of_lt G.size))).mono fun e w' he => ⟨_, _, he.1, fun h => (by cases h), he.2⟩)
  have HPt : Hid (trieB t = true → (IsT t ∧ 0 ≤ x0 ∧ x0 < n) → (wordsOf t).length = 0) := Lib.hid (fun ht hg => by
    apply Nat.eq_zero_of_not_pos
    intro h
    exact hr ⟨by simp [potB, ht, h], hg.2⟩)
  obtain ⟨q, hq⟩ : ∃ q, trieB t = q := ⟨_, rfl⟩
  obtain ⟨m, hm⟩ : ∃ m, (wordsOf t).length = m := ⟨_, rfl⟩
  rw [hq] at cK HPt
  rw [hm] at cK HPt
  have hbx := G0.out.box
  clear hq hr h hm
  go_enter Try.func12, Try.ntmps12
  go_wp2_with fail
  obtain ⟨W1, hW1⟩ : ∃ W1, (W.alloc (.cells #[.slice a n c] 31)).alloc (.cells #[.int .i64 0, .int .i64 0] 26) = W1 := ⟨_, rfl⟩
  rw [hW1] at G0 ⊢
  clear hW1 hbx
  refine (cK.out _ G0.out).mono ?_
  rintro e w2 ⟨rfl, hb2⟩
  have G2 := Lib.hid (G0.out.on hb2)
  have hbx := G2.out.box
  clear hb2
  go_wp2_with fail
  refine (cU.out _ G2.out).mono ?_
  rintro e w3 ⟨v, r, rfl, hv3, hb3⟩
  have G3 := Lib.hid (G2.out.on hb3)
  have HV3 := Lib.hid hv3
  obtain ⟨f1, f2, f3, f4⟩ := G3.out.open
  clear hb3 hbx hv3
  cases q with
  | false =>
    obtain ⟨hE, hB9⟩ := G3.out.end' (.int .i64 0) (.int .i64 0)
    have HE := Lib.hid hE
    have HB9 := Lib.hid hB9
    clear hE hB9
    go_wp2_with fail
    generalize ((w3.setCell ⟨W.heap.size + 1, 0, none⟩ (.int .i64 0)).setCell ⟨W.heap.size + 1, 1, none⟩ (.int .i64 0)) = W9 at *
    obtain ⟨hc0, hc1⟩ := HE.out
    exact bodyPost_ret (v := .tuple #[fv (0, 0), .bool false]) (by simp [results, Try.results12, go_sem, hc0, hc1, fv]) rfl ⟨rfl, HB9.out⟩
  | true =>
    cases r with
    | false =>
      obtain ⟨hE, hB9⟩ := G3.out.end' (.int .i64 0) (.int .i64 0)
      have HE := Lib.hid hE
      have HB9 := Lib.hid hB9
      clear hE hB9
      go_wp2_with fail
      generalize ((w3.setCell ⟨W.heap.size + 1, 0, none⟩ (.int .i64 0)).setCell ⟨W.heap.size + 1, 1, none⟩ (.int .i64 0)) = W9 at *
      obtain ⟨hc0, hc1⟩ := HE.out
      exact bodyPost_ret (v := .tuple #[fv (0, 0), .bool false]) (by simp [results, Try.results12, go_sem, hc0, hc1, fv]) rfl ⟨rfl, HB9.out⟩
    | true =>
      obtain rfl : m = 0 := HPt.out (by trivial) (HV3.out (by trivial))
      obtain ⟨hE, hB9⟩ := G3.out.end' (.int .i64 0) (.int .i64 0)
      have HE := Lib.hid hE
      have HB9 := Lib.hid hB9
      clear hE hB9
      go_wp2_with fail
      generalize ((w3.setCell ⟨W.heap.size + 1, 0, none⟩ (.int .i64 0)).setCell ⟨W.heap.size + 1, 1, none⟩ (.int .i64 0)) = W9 at *
      obtain ⟨hc0, hc1⟩ := HE.out
      exact bodyPost_ret (v := .tuple #[fv (0, 0), .bool false]) (by simp [results, Try.results12, go_sem, hc0, hc1, fv]) rfl ⟨rfl, HB9.out⟩

set_option maxRecDepth 1000000 in
set_option maxHeartbeats 2000000 in
theorem implChanceUnder_yes (t : List Nd) (ps : List Txt) (n c i : Nat) (y : Txt) (hn : n ≤ 1048576) (hv : Valid t ps) (hp : potB t = true) (hi : i < n) (hy : ps[i]? = some y) (x : Nat × Nat) (hx : x = fra (undr y (wordsOf t)).length (wordsOf t).length) (W : World) (a : Option Addr) (h : Nds W.heap.size W a n c t) :
    Calls Try.prog 12 #[.agg #[.slice a n c], .int .i64 (i : Int)] W fun e w' => e = .returned (.tuple #[fv x, .bool true]) ∧ Below W.heap.size W w' := by
  have G0 := Lib.hid (Gf.start 26 h)
  have cK := Lib.hid (fun W' (G : Gf 26 1 W W' a n c t) => implCountWords_any t n c W' a (G.nds.mono (Nat.le_of_lt G.size)))
  have cU := Lib.hid (fun W' (G : Gf 26 1 W W' a n c t) => implCountUnder_yes t ps n c i y hn hv hi hy W' a (G.nds.mono (Nat.le_of_lt G.size)))
  obtain ⟨hit, hm0⟩ := potB_yes hp
  have hm40 := wordsOf_size t
  rw [trieB_iff.2 hit] at cK
  rw [← wordsOf_eq hv] at cU
  obtain ⟨ws, hws⟩ : ∃ ws, wordsOf t = ws := ⟨_, rfl⟩
  obtain ⟨m, hm⟩ : ∃ m, ws.length = m := ⟨_, rfl⟩
  obtain ⟨q, hq⟩ : ∃ q, (undr y ws).length = q := ⟨_, rfl⟩
  have hqm : q ≤ ws.length := by rw [← hq]; exact undr_le _ _
  rw [hws] at cK cU hm40 hx hm0
  rw [hm] at cK hm40 hx hm0 hqm
  rw [hq] at hx cU
  obtain ⟨x1, x2⟩ := x
  have cC := Lib.hid (fun W' => fractionOf_any q m W' (by omega) (by omega) hm0)
  rw [← hx, fv_mk] at cC
  have hmz : ((m : Int) == 0) = false := by simp; omega
  have hmz2 : ¬ m = 0 := by omega
  have hbx := G0.out.box
  clear hws hm hq h hx hv hp hy hit
  go_enter Try.func12, Try.ntmps12
  go_wp2_with fail
  obtain ⟨W1, hW1⟩ : ∃ W1, (W.alloc (.cells #[.slice a n c] 31)).alloc (.cells #[.int .i64 0, .int .i64 0] 26) = W1 := ⟨_, rfl⟩
  rw [hW1] at G0 ⊢
  clear hW1 hbx
  refine (cK.out _ G0.out).mono ?_
  rintro e w2 ⟨rfl, hb2⟩
  have G2 := Lib.hid (G0.out.on hb2)
  have hbx := G2.out.box
  clear hb2
  go_wp2_with fail
  refine (cU.out _ G2.out).mono ?_
  rintro e w3 ⟨rfl, hb3⟩
  have G3 := Lib.hid (G2.out.on hb3)
  clear hb3 hbx
  go_wp2_with fail
  refine (cC.out _).mono ?_
  rintro e w7 ⟨rfl, hb7⟩
  have G7 := Lib.hid (G3.out.on hb7)
  clear hb7
  obtain ⟨f1, f2, f3, f4⟩ := G7.out.open
  obtain ⟨hE, hB9⟩ := G7.out.end' (.int .i64 (x1 : Int)) (.int .i64 (x2 : Int))
  have HE := Lib.hid hE
  have HB9 := Lib.hid hB9
  clear hE hB9
  go_wp2_with fail
  generalize ((w7.setCell ⟨W.heap.size + 1, 0, none⟩ (.int .i64 (x1 : Int))).setCell ⟨W.heap.size + 1, 1, none⟩ (.int .i64 (x2 : Int))) = W9 at *
  obtain ⟨hc0, hc1⟩ := HE.out
  exact bodyPost_ret (v := .tuple #[fv (x1, x2), .bool true]) (by simp [results, Try.results12, go_sem, hc0, hc1, fv]) rfl ⟨rfl, HB9.out⟩

theorem agreeChanceUnder (t : List Nd) (n c : Nat) (x0 : Int) (hn : n ≤ 1048576) (hx0 : -9223372036854775808 ≤ x0 ∧ x0 ≤ 9223372036854775807) : ∃ (x : Nat × Nat) (ok : Bool),
    (∀ (W : World) (a : Option Addr), Nds W.heap.size W a n c t → Calls Try.prog 10 #[.agg #[.slice a n c], .int .i64 x0] W fun e w' => e = .returned (.tuple #[fv x, .bool ok]) ∧ Below W.heap.size W w') ∧
    (∀ (W : World) (a : Option Addr), Nds W.heap.size W a n c t → Calls Try.prog 12 #[.agg #[.slice a n c], .int .i64 x0] W fun e w' => e = .returned (.tuple #[fv x, .bool ok]) ∧ Below W.heap.size W w') := by
  by_cases hg : potB t = true ∧ 0 ≤ x0 ∧ x0 < n
  · obtain ⟨hp, h0, h1⟩ := hg
    obtain ⟨i, rfl⟩ : ∃ i : Nat, x0 = i := ⟨x0.toNat, by omega⟩
    obtain ⟨⟨ps, hv⟩, _⟩ := potB_yes hp
    by_cases hl : t.length = n
    · obtain ⟨_, y, _, hy⟩ := hv.tells.at (show i < t.length by omega)
      exact ⟨_, true, fun W a h => specChanceUnder_yes t ps n c i y hn hv hp (by omega) hy _ rfl W a h, fun W a h => implChanceUnder_yes t ps n c i y hn hv hp (by omega) hy _ rfl W a h⟩
    · exact ⟨(0, 0), true, fun W a h => absurd h.len hl, fun W a h => absurd h.len hl⟩
  · exact ⟨(0, 0), false, fun W a h => specChanceUnder_no t n c x0 hn hg W a h, fun W a h => implChanceUnder_no t n c x0 hn hg W a h⟩

end Go.Proofs.Ytibdfhhbkbncgaa
