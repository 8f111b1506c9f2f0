/-
  The chance that two words have the same start: the reference.
-/
import Derived.Test.YtibdfhhbkbncgaaDrawn
import Derived.Test.YtibdfhhbkbncgaaSst
import Derived.Test.YtibdfhhbkbncgaaCutS
import Derived.Test.YtibdfhhbkbncgaaGf
import Derived.Deep.RegionHeld3
namespace Go.Proofs.Ytibdfhhbkbncgaa
open Go.RowKit
set_option linter.unusedVariables false
set_option linter.unusedSimpArgs false

set_option maxRecDepth 1000000 in
set_option maxHeartbeats 2000000 in
theorem specSame_no (t : List Nd) (n c : Nat) (x0 : Int) (hn : n ≤ 1048576) (hr : ¬ (potB t = true ∧ 0 ≤ x0 ∧ x0 ≤ 12)) (W : World) (a : Option Addr) (h : Nds W.heap.size W a n c t) :
    Calls Try.prog 17 #[.agg #[.slice a n c], .int .i64 x0] W fun e w' => e = .returned (.tuple #[fv (0, 0), .bool false]) ∧ Below W.heap.size W w' := by
  have G0 := Lib.hid (Gf.start 26 h)
  have cD := Lib.hid (fun W' (G : Gf 26 1 W W' a n c t) => l9Drawn_any W.heap.size a n c t W' (Nat.le_of_lt G.size) G.nds hn)
  have cI := Lib.hid (fun (hp : potB t = true) W' => l1In_no (x := x0) (a := 0) (b := 12) W' (fun h => hr ⟨hp, h⟩))
  obtain ⟨q, hq⟩ : ∃ q, potB t = q := ⟨_, rfl⟩
  rw [hq] at cD cI
  have hbx := G0.out.box
  clear hq hr h
  go_enter Try.func17, Try.ntmps17
  go_wp2_with fail
  obtain ⟨W1, hW1⟩ : ∃ W1, (W.alloc (.cells #[.slice a n c] 31)).alloc (.cells #[.int .i64 0, .int .i64 0] 26) = W1 := ⟨_, rfl⟩
  rw [hW1] at G0 ⊢
  clear hW1 hbx
  refine (cD.out _ G0.out).mono ?_
  rintro e w2 ⟨rfl, hb2⟩
  have G2 := Lib.hid (G0.out.on hb2)
  have hbx := G2.out.box
  obtain ⟨f1, f2, f3, f4⟩ := G2.out.open
  clear hb2
  cases q with
  | false =>
    obtain ⟨hE, hB9⟩ := G2.out.end' (.int .i64 0) (.int .i64 0)
    have HE := Lib.hid hE
    have HB9 := Lib.hid hB9
    clear hE hB9
    go_wp2_with fail
    generalize ((w2.setCell ⟨W.heap.size + 1, 0, none⟩ (.int .i64 0)).setCell ⟨W.heap.size + 1, 1, none⟩ (.int .i64 0)) = W9 at *
    obtain ⟨hc0, hc1⟩ := HE.out
    exact bodyPost_ret (v := .tuple #[fv (0, 0), .bool false]) (by simp [results, Try.results17, go_sem, hc0, hc1, fv]) rfl ⟨rfl, HB9.out⟩
  | true =>
    go_wp2_with fail
    refine (cI.out (by trivial) _).mono ?_
    rintro e w3 ⟨rfl, rfl⟩
    obtain ⟨hE, hB9⟩ := G2.out.end' (.int .i64 0) (.int .i64 0)
    have HE := Lib.hid hE
    have HB9 := Lib.hid hB9
    clear hE hB9
    go_wp2_with fail
    generalize ((w2.setCell ⟨W.heap.size + 1, 0, none⟩ (.int .i64 0)).setCell ⟨W.heap.size + 1, 1, none⟩ (.int .i64 0)) = W9 at *
    obtain ⟨hc0, hc1⟩ := HE.out
    exact bodyPost_ret (v := .tuple #[fv (0, 0), .bool false]) (by simp [results, Try.results17, go_sem, hc0, hc1, fv]) rfl ⟨rfl, HB9.out⟩

set_option maxRecDepth 1000000 in
set_option maxHeartbeats 2000000 in
theorem specSame_yes (t : List Nd) (ps : List Txt) (n c n0 : Nat) (hn : n ≤ 1048576) (hv : Valid t ps) (hp : potB t = true) (hn0 : n0 ≤ 12) (x : Nat × Nat) (hx : x = fra (tsum (sst (wordsOf t) n0) (wordsOf t)) ((wordsOf t).length * (wordsOf t).length)) (W : World) (a : Option Addr) (h : Nds W.heap.size W a n c t) :
    Calls Try.prog 17 #[.agg #[.slice a n c], .int .i64 (n0 : Int)] W fun e w' => e = .returned (.tuple #[fv x, .bool true]) ∧ Below W.heap.size W w' := by
  have G0 := Lib.hid (Gf.start 26 h)
  have cD := Lib.hid (fun W' (G : Gf 26 1 W W' a n c t) => l9Drawn_any W.heap.size a n c t W' (Nat.le_of_lt G.size) G.nds hn)
  have cI := Lib.hid (fun W' => l1In_yes (x := (n0 : Int)) (a := 0) (b := 12) W' (by omega))
  have cW := Lib.hid (fun W' (G : Gf 26 1 W W' a n c t) => drawnWords_own W.heap.size a n c t W' (Nat.le_of_lt G.size) G.nds hn ⟨ps, hv⟩)
  have cP := Lib.hid (fun (i : Nat) (hi : i < n) W' (G : Gf 26 1 W W' a n c t) => l2Prefix_any W.heap.size a n c i t W' (Nat.le_of_lt G.size) G.nds hi)
  have HPr : Hid (∀ i s y, PreOf t i s → ps[i]? = some y → tx s = y) := Lib.hid (fun i s y hs hy => hs ps hv.tells hv.short y hy)
  have HL : Hid (ps.length = n) := Lib.hid (by rw [hv.lenEq]; exact h.len)
  have hn481 : n ≤ 481 := by have := hv.size; have := h.len; omega
  obtain ⟨_, hm0⟩ := potB_yes hp
  have hm40 := wordsOf_size t
  have HSh := Lib.hid (wordsOf_short t)
  have HSS := Lib.hid (sst_sum hv n0)
  rw [← wordsOf_eq hv] at HSS
  have hts := tsum_le (sst (wordsOf t) n0) 40 (xs := wordsOf t) (fun x _ => Nat.le_trans (sst_le _ _ _) hm40)
  rw [hp] at cD
  have C := h.cap
  obtain ⟨ws, hws⟩ : ∃ ws, wordsOf t = ws := ⟨_, rfl⟩
  obtain ⟨m, hm⟩ : ∃ m, ws.length = m := ⟨_, rfl⟩
  obtain ⟨q, hq⟩ : ∃ q, tsum (sst ws n0) ws = q := ⟨_, rfl⟩
  rw [hws] at cW HSh hm40 hx hm0 HSS hts
  rw [hm] at cW hm40 hx hm0 hts
  rw [hq] at hx HSS hts
  have hUl : ∀ p, (undr p ws).length ≤ 40 := fun p => Nat.le_trans (undr_le p ws) (by omega)
  have hq1600 : q ≤ 1600 := by omega
  have hmm : m * m ≤ 1600 := Nat.le_trans (Nat.mul_le_mul hm40 hm40) (by decide)
  have HTl : Hid (∀ k, tsum (ssq ws n0) (ps.take k) ≤ 1600) := Lib.hid (fun k => by have := tsum_take_le (ssq ws n0) ps k; rw [HSS.out] at this; omega)
  obtain ⟨x1, x2⟩ := x
  have cC := Lib.hid (fun W' => l9Cut_any q (m * m) W' (by omega) (by omega) (Nat.mul_pos hm0 hm0))
  rw [← hx, fv_mk] at cC
  have hmc : (m : Int) * (m : Int) = ((m * m : Nat) : Int) := by rw [Int.natCast_mul]
  obtain ⟨mm, hmm2⟩ : ∃ mm, m * m = mm := ⟨_, rfl⟩
  rw [hmm2] at hmc cC hmm
  have hwm : IntKind.i64.wrap ((m : Int) * (m : Int)) = (mm : Int) := by rw [hmc, IntKind.wrap_i64]; omega
  have HUl := Lib.hid hUl
  have hbx := G0.out.box
  have hnb : (0 : Int) ≤ (n0 : Int) := by omega
  clear hws hm hq h hx hv hp hUl hts hmm2
  go_enter Try.func17, Try.ntmps17
  go_wp2_with fail
  obtain ⟨W1, hW1⟩ : ∃ W1, (W.alloc (.cells #[.slice a n c] 31)).alloc (.cells #[.int .i64 0, .int .i64 0] 26) = W1 := ⟨_, rfl⟩
  rw [hW1] at G0 ⊢
  clear hW1 hbx
  refine (cD.out _ G0.out).mono ?_
  rintro e w2 ⟨rfl, hb2⟩
  have G2 := Lib.hid (G0.out.on hb2)
  have hbx := G2.out.box
  clear hb2
  go_wp2_with fail
  refine (cI.out _).mono ?_
  rintro e w3 ⟨rfl, rfl⟩
  go_wp2_with fail
  refine (cW.out _ G2.out).mono ?_
  rintro e w4 ⟨a4, c4, rfl, hW4, hb4⟩
  have G4 := Lib.hid (G2.out.on hb4)
  have HW4 := Lib.hid hW4
  clear hb4 hbx hW4
  go_wp2_with fail
  go_loopw [6, 8, 9, 10] (fun s i u v wr => ∃ (k z : Nat), k ≤ n ∧ i = .int .i64 k ∧ s = .int .i64 z ∧ z ≤ 1600 ∧ Hid (tsum (ssq ws n0) (ps.take k) = z) ∧ Hid (Below w4.heap.size w4 wr)) (fun _ i _ _ _ => n - (intOf i).toNat)
  case atStart => exact ⟨0, 0, Nat.zero_le _, rfl, rfl, by omega, Lib.hid rfl, Lib.hid (Below.refl _ _)⟩
  case round =>
    obtain ⟨k, z, hk, rfl, rfl, hz, HZ, HBw⟩ := hrel
    have Gk := Lib.hid (G4.out.on HBw.out)
    have hbx := Gk.out.box
    by_cases hlk : k < n
    · obtain ⟨y, hy⟩ : ∃ y, ps[k]? = some y := ⟨_, List.getElem?_eq_getElem (by rw [HL.out]; exact hlk)⟩
      have HT := Lib.hid (tsum_succ (ssq ws n0) hy)
      have HY := Lib.hid hy
      have hz2 := HTl.out (k + 1)
      rw [HT.out, HZ.out] at hz2
      clear hy
      go_wp2_with fail
      refine (cP.out k hlk _ Gk.out).mono ?_
      rintro e w5 ⟨s, rfl, hs13, hpre, hb5⟩
      have HS := Lib.hid (HPr.out k s y hpre HY.out)
      have HB5 := Lib.hid (HBw.out.trans (hb5.mono HBw.out.size))
      have G5 := Lib.hid (Gk.out.on hb5)
      clear hb5 hpre hbx
      have HYl : Hid (y.length = s.size) := Lib.hid (by rw [← HS.out, tx_len])
      by_cases hl : s.size = n0
      · have hle : ((s.size : Int) == (n0 : Int)) = true := by simp; omega
        have hle2 : decide ((s.size : Int) = (n0 : Int)) = true := decide_eq_true (by omega)
        have hle3 : (s.size : Int) = (n0 : Int) := by omega
        have cU := l3Under_any w4.heap.size a4 m c4 ws s w5 HB5.out.size (HW4.out.keep HB5.out) HSh.out hm40 (by omega)
        rw [HS.out] at cU
        have hu := HUl.out y
        have HQs : Hid (ssq ws n0 y = (undr y ws).length * (undr y ws).length) := Lib.hid (by unfold ssq; rw [if_pos (by rw [HYl.out]; exact hl)])
        obtain ⟨r, hr⟩ : ∃ r, (undr y ws).length = r := ⟨_, rfl⟩
        rw [hr] at cU hu HQs
        rw [HQs.out] at hz2
        have CU := Lib.hid cU
        have hrr : (r : Int) * (r : Int) = ((r * r : Nat) : Int) := by rw [Int.natCast_mul]
        have hrb : r * r ≤ 1600 := Nat.le_trans (Nat.mul_le_mul hu hu) (by decide)
        obtain ⟨rr, hrr2⟩ : ∃ rr, r * r = rr := ⟨_, rfl⟩
        rw [hrr2] at hrr HQs hz2 hrb
        have hwr : IntKind.i64.wrap ((r : Int) * (r : Int)) = (rr : Int) := by rw [hrr, IntKind.wrap_i64]; omega
        clear cU hr hrr2
        go_wp2_with fail
        refine CU.out.mono ?_
        rintro e w6 ⟨v, rfl, hO6, hb6⟩
        obtain ⟨a6, c6, rfl⟩ := own_slice hO6
        have HB6 := Lib.hid (HB5.out.trans (hb6.mono HB5.out.size))
        clear hb6 hO6
        go_wp2_with fail
        go_roundw
        case rel => exact ⟨k + 1, z + rr, by omega, by go_num, by go_num, by omega, Lib.hid (by rw [HT.out, HQs.out, HZ.out]), HB6⟩
        case measure => simp [intOf]; omega
      · have hle : ((s.size : Int) == (n0 : Int)) = false := by simp; omega
        have hle2 : decide ((s.size : Int) = (n0 : Int)) = false := decide_eq_false (by omega)
        have hle3 : ¬ (s.size : Int) = (n0 : Int) := by omega
        have HQs : Hid (ssq ws n0 y = 0) := Lib.hid (by unfold ssq; rw [if_neg (by rw [HYl.out]; exact hl)])
        go_wp2_with fail
        go_roundw
        case rel => exact ⟨k + 1, z, by omega, by go_num, rfl, by omega, Lib.hid (by rw [HT.out, HQs.out, HZ.out]; rfl), HB5⟩
        case measure => simp [intOf]; omega
    · have HF : Hid ((z : Int) = (q : Int)) := Lib.hid (by rw [← HZ.out, List.take_of_length_le (by rw [HL.out]; omega), HSS.out])
      go_wp2_with fail
      rw [HF.out]
      refine (cC.out _).mono ?_
      rintro e w7 ⟨rfl, hb7⟩
      have G7 := Lib.hid (Gk.out.on hb7)
      clear hb7
      obtain ⟨f1, f2, f3, f4⟩ := G7.out.open
      obtain ⟨hE, hB9⟩ := G7.out.end' (.int .i64 (x1 : Int)) (.int .i64 (x2 : Int))
      have HE := Lib.hid hE
      have HB9 := Lib.hid hB9
      clear hE hB9
      go_wp2_with fail
      generalize ((w7.setCell ⟨W.heap.size + 1, 0, none⟩ (.int .i64 (x1 : Int))).setCell ⟨W.heap.size + 1, 1, none⟩ (.int .i64 (x2 : Int))) = W9 at *
      obtain ⟨hc0, hc1⟩ := HE.out
      exact bodyPost_ret (v := .tuple #[fv (x1, x2), .bool true]) (by simp [results, Try.results17, go_sem, hc0, hc1, fv]) rfl ⟨rfl, HB9.out⟩

end Go.Proofs.Ytibdfhhbkbncgaa
