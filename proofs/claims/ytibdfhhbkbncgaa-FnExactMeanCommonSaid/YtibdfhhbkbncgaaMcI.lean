/-
  The mean number of letters that two words have in common: the program.
-/
import Derived.Test.YtibdfhhbkbncgaaPot
import Derived.Test.YtibdfhhbkbncgaaMnCommon
import Derived.Test.YtibdfhhbkbncgaaPcom
import Derived.Test.YtibdfhhbkbncgaaComI
import Derived.Test.YtibdfhhbkbncgaaGf
import Derived.Deep.RegionHeld3
namespace Go.Proofs.Ytibdfhhbkbncgaa
open Go.RowKit
set_option linter.unusedVariables false
set_option linter.unusedSimpArgs false

set_option maxRecDepth 1000000 in
set_option maxHeartbeats 2000000 in
theorem commonTell (a aw : Option Addr) (n c m cw : Nat) (ws : List Txt) (hm40 : m ≤ 40) (HSh : ∀ x ∈ ws, x.length ≤ 12) (x : Txt) (hx : x ∈ ws) (W : World) (hW : Wds W.heap.size W aw m cw ws) : Calls Try.prog 49 #[.agg #[.slice a n c, .slice aw m cw], .string (bx x)] W fun e w' => e = .returned (.int .i64 (cmt ws x : Int)) ∧ Below W.heap.size W w' := by
  have HX12 := HSh x hx
  have hzx : (bx x).size = x.length := by rw [← tx_len, tx_bx]
  have L := Lib.hid hW.len
  have C := hW.sl.cap
  have T := hW.sl.top
  have HCm := Lib.hid (cmt_add hx)
  have HSh := Lib.hid HSh
  have HB1 : Hid (Below W.heap.size W (W.alloc (.cells #[.slice a n c, .slice aw m cw] 56))) := Lib.hid ((Below.refl _ _).alloc (Nat.le_refl _) _)
  obtain ⟨u1, u2⟩ := pair_cells W (.slice a n c) (.slice aw m cw) 56
  have HW := Lib.hid (hW.keep HB1.out)
  obtain ⟨s0, hs0⟩ : ∃ s0, bx x = s0 := ⟨_, rfl⟩
  have HTx : Hid (tx s0 = x) := Lib.hid (by rw [← hs0, tx_bx])
  rw [hs0] at hzx ⊢
  have cCm := Lib.hid (fun (s : ByteArray) (W : World) (h1 : s0.size ≤ 1000000) (h2 : s.size ≤ 1000000) => countSharedS_any s0 s W h1 h2)
  have hs12 : s0.size ≤ 12 := by omega
  clear hs0 hx hW
  go_enter Try.func49, Try.ntmps49
  go_wp2_with fail
  obtain ⟨W1, hW1⟩ : ∃ W1, W.alloc (.cells #[.slice a n c, .slice aw m cw] 56) = W1 := ⟨_, rfl⟩
  rw [hW1] at HB1 HW ⊢
  clear hW1 u1 u2
  go_loopw [5, 7, 14] (fun s u i wr => ∃ (k : Nat) (z : Int), k ≤ m ∧ i = .int .i64 k ∧ s = .int .i64 z ∧ -12 ≤ z ∧ z ≤ 12 * k ∧ Hid ((tsum (com x) (ws.take k) : Int) - x.length = z) ∧ Hid (Below W1.heap.size W1 wr)) (fun _ _ i _ => m - (intOf i).toNat)
  case atStart => exact ⟨0, -(x.length : Int), Nat.zero_le _, rfl, rfl, by omega, by omega, Lib.hid (by simp [tsum]), Lib.hid (Below.refl _ _)⟩
  case round =>
    obtain ⟨k, z, hk, rfl, rfl, hz0, hz, HZ, HBw⟩ := hrel
    by_cases hlk : k < m
    · obtain ⟨b, o, s, rfl, hbl, hs, _, hc⟩ := Wds.elem (HW.out.keep (HBw.out.mono HB1.out.size)) k hlk
      have HS := Lib.hid (tsum_succ (com x) hs)
      have hmem := at_mem hs
      have hs2 : s.size ≤ 12 := by have := HSh.out _ hmem; rwa [tx_len] at this
      have cC := cCm.out s wr (by omega) (by omega)
      have hcl := (com_le (tx s0) (tx s)).1
      rw [tx_len] at hcl
      rw [HTx.out] at cC hcl
      obtain ⟨y, hy⟩ : ∃ y, com x (tx s) = y := ⟨_, rfl⟩
      rw [hy] at cC hcl HS
      have CC := Lib.hid cC
      clear hs hmem cC hy
      have hi0 : (0 : Int) ≤ (k : Int) := by omega
      have hi1 : (k : Int) < (m : Int) := by omega
      go_wp2_with fail
      refine CC.out.mono ?_
      rintro e w4 ⟨rfl, hb4⟩
      have HB4 := Lib.hid (HBw.out.trans (hb4.mono HBw.out.size))
      clear hb4
      have hwr : IntKind.i64.wrap (z + (y : Int)) = z + (y : Int) := by rw [IntKind.wrap_i64]; omega
      go_wp2_with fail
      go_roundw
      case rel => exact ⟨k + 1, z + y, by omega, by go_num, by go_num, by omega, by omega, Lib.hid (by rw [HS.out, ← HZ.out]; push_cast; omega), HB4⟩
      case measure => simp [intOf]; omega
    · have HF : Hid (z = (cmt ws x : Int)) := Lib.hid (by
        have h1 := HZ.out
        rw [List.take_of_length_le (by rw [L.out]; omega), ← HCm.out] at h1
        push_cast at h1
        omega)
      go_wp2_with fail
      go_ret
      exact ⟨ret_num HF.out, HB1.out.trans (HBw.out.mono HB1.out.size)⟩

set_option maxRecDepth 1000000 in
set_option maxHeartbeats 4000000 in
theorem implMeanCommon_any (t : List Nd) (n c : Nat) (x : Nat × Nat) (ok : Bool) (hok : ok = (trieB t && decide (2 ≤ (wordsOf t).length))) (hx : ok = true → x = fra (pcom (wordsOf t) (wordsOf t).length) (prs (wordsOf t).length)) (h0 : ok = false → x = (0, 0)) (W : World) (a : Option Addr) (h : Nds W.heap.size W a n c t) :
    Calls Try.prog 22 #[.agg #[.slice a n c]] W fun e w' => e = .returned (.tuple #[fv x, .bool ok]) ∧ Below W.heap.size W w' := by
  have G0 := Lib.hid (Gf.start 26 h)
  have cD := Lib.hid (fun W' (G : Gf 26 1 W W' a n c t) => potOf_any W.heap.size a n c t W' (Nat.le_of_lt G.size) G.nds)
  have hm40 := wordsOf_size t
  have HSh := Lib.hid (wordsOf_short t)
  have HPo : Hid (potB t = (trieB t && decide (0 < (wordsOf t).length))) := Lib.hid rfl
  have HMp := Lib.hid (mean_pairs (wordsOf t) (wordsOf t).length rfl)
  obtain ⟨ws, hws⟩ : ∃ ws, wordsOf t = ws := ⟨_, rfl⟩
  obtain ⟨m, hm⟩ : ∃ m, ws.length = m := ⟨_, rfl⟩
  obtain ⟨q, hq⟩ : ∃ q, potB t = q := ⟨_, rfl⟩
  rw [hws] at cD HSh hm40 hx hok HPo HMp
  rw [hm] at cD hm40 hx hok HPo HMp
  rw [hq] at cD HPo
  have HM := Lib.hid hm
  obtain ⟨x1, x2⟩ := x
  have HXx := Lib.hid hx
  have HX0 := Lib.hid h0
  have HOk := Lib.hid hok
  have hbx := G0.out.box
  clear hws hm hq h hx h0 hok
  go_enter Try.func22, Try.ntmps22
  go_wp2_with fail
  obtain ⟨W1, hW1⟩ : ∃ W1, (W.alloc (.cells #[.slice a n c] 31)).alloc (.cells #[.int .i64 0, .int .i64 0] 26) = W1 := ⟨_, rfl⟩
  rw [hW1] at G0 ⊢
  clear hW1 hbx
  refine (cD.out _ G0.out).mono ?_
  rintro e w2 ⟨aw, cw, rfl, hO2, hb2⟩
  have G2 := Lib.hid (G0.out.on hb2)
  have hO3 := own_stay hO2 ((Below.refl w2.heap.size w2).alloc (Nat.le_refl _) (.cells #[.slice a n c, .slice aw m cw] 56))
  have HG3 : Hid (Below w2.heap.size w2 (w2.alloc (.cells #[.slice a n c, .slice aw m cw] 56))) := Lib.hid ((Below.refl _ _).alloc (Nat.le_refl _) _)
  have G3 := Lib.hid (G2.out.on HG3.out)
  have hpz : w2.heap.size < (w2.alloc (.cells #[.slice a n c, .slice aw m cw] 56)).heap.size := by simp
  obtain ⟨u1, u2⟩ := pair_cells w2 (.slice a n c) (.slice aw m cw) 56
  have hW3 := wds_of_own HM.out hO3 HSh.out
  have HW3 := Lib.hid hW3
  clear hb2 hO2 hO3 hW3
  cases q with
  | false =>
    have HE0 : Hid (ok = false) := Lib.hid (by
      rw [HOk.out]
      have h := HPo.out
      cases ht : trieB t with
      | false => rfl
      | true =>
        rw [ht] at h
        have : ¬ 0 < m := by simpa using h.symm
        simp; omega)
    obtain rfl : ok = false := HE0.out
    obtain ⟨f1, f2, f3, f4⟩ := G3.out.open
    obtain ⟨hE, hB9⟩ := G3.out.end' (.int .i64 0) (.int .i64 0)
    have HE := Lib.hid hE
    have HB9 := Lib.hid hB9
    clear hE hB9
    go_wp2_with fail
    generalize (((w2.alloc (.cells #[.slice a n c, .slice aw m cw] 56)).setCell ⟨W.heap.size + 1, 0, none⟩ (.int .i64 0)).setCell ⟨W.heap.size + 1, 1, none⟩ (.int .i64 0)) = W9 at *
    obtain ⟨hc0, hc1⟩ := HE.out
    exact bodyPost_ret (v := .tuple #[fv (0, 0), .bool false]) (by simp [results, Try.results22, go_sem, hc0, hc1, fv]) rfl ⟨by rw [HX0.out (by trivial)], HB9.out⟩
  | true =>
    have HT : Hid (trieB t = true ∧ 0 < m) := Lib.hid (by
      have h := HPo.out.symm
      simp only [Bool.and_eq_true, decide_eq_true_eq] at h
      exact h)
    have hm0 := HT.out.2
    by_cases h2 : 2 ≤ m
    · obtain rfl : ok = true := by rw [HOk.out, HT.out.1]; simp [h2]
      have hd : decide ((m : Int) < 2) = false := decide_eq_false (by omega)
      have hd2 : ¬ (m : Int) < 2 := by omega
      obtain ⟨W3, hW3⟩ : ∃ W3, w2.alloc (.cells #[.slice a n c, .slice aw m cw] 56) = W3 := ⟨_, rfl⟩
      rw [hW3] at HG3 G3 HW3 u1 u2 hpz
      have cM : Hid (∀ W', Below W3.heap.size W3 W' → Calls Try.prog 38 #[.agg #[.slice a n c, .slice aw m cw], .func (.func 49) #[.agg #[.slice a n c, .slice aw m cw]] #[]] W' fun e w' => e = .returned (fv (fra (tsum (cmt ws) ws) m)) ∧ Below W'.heap.size W' w') := Lib.hid (fun W' hb => mnCommon.mean_any a aw n c m cw ws (cmt ws) W' ((HW3.out.keep hb).mono hb.size) hm0 (by omega) HSh.out (fun x hx => by have h1 := cmt_le (ws := ws) (HSh.out x hx); rw [HM.out] at h1; omega) (fun W2 x hx hb2 => commonTell a aw n c m cw ws hm40 HSh.out x hx W2 (((HW3.out.keep hb).mono hb.size).keep hb2 |>.mono hb2.size)))
      obtain ⟨p1, hp1⟩ : ∃ p1, fra (tsum (cmt ws) ws) m = p1 := ⟨_, rfl⟩
      have HXe := (HMp.out h2).trans (HXx.out (by trivial)).symm
      have hle1 := fra_le1 (tsum (cmt ws) ws) m
      have hle2 := fra_le2 (tsum (cmt ws) ws) m
      have hpos := fra_den_pos (a := tsum (cmt ws) ws) hm0
      have hts := tsum_le (cmt ws) 480 (xs := ws) (fun x hx => by have h1 := cmt_le (ws := ws) (HSh.out x hx); rw [HM.out] at h1; omega)
      rw [HM.out] at hts
      rw [hp1] at cM HXe hle1 hle2 hpos
      have hmul : p1.2 * (m - 1) ≤ 40 * 40 := Nat.mul_le_mul (by omega) (by omega)
      have cDv := Lib.hid (fun W' => dividedBy_any p1 (m - 1) W' (by omega) (by omega) hpos (by omega))
      rw [HXe, fv_mk] at cDv
      obtain ⟨p1a, p1b⟩ := p1
      simp only [fv_mk] at cM cDv
      have hm1z : ((m - 1 : Nat) : Int) = (m : Int) - 1 := by omega
      rw [hm1z] at cDv
      have hw1 : IntKind.i64.wrap ((m : Int) - 1) = (m : Int) - 1 := by rw [IntKind.wrap_i64]; omega
      clear hle1 hle2 hpos hts hmul HXe hp1 hm1z
      have hsz3 : W.heap.size < W3.heap.size := G3.out.size
      have hfar : w2.heap.size ≠ W.heap.size + 1 := by have := G2.out.lt; omega
      go_wp2_with fail
      go_region_held3 (fun w' => w'.cell? ⟨w2.heap.size, 0, none⟩ = some (.slice a n c) ∧ w'.cell? ⟨w2.heap.size, 1, none⟩ = some (.slice aw m cw))
        (first
          | exact ⟨(hb6.cell (p := ⟨w2.heap.size, 0, none⟩) (Nat.lt_of_lt_of_le hpz hb5.size)).trans ((hb5.cell (p := ⟨w2.heap.size, 0, none⟩) hpz).trans u1), (hb6.cell (p := ⟨w2.heap.size, 1, none⟩) (Nat.lt_of_lt_of_le hpz hb5.size)).trans ((hb5.cell (p := ⟨w2.heap.size, 1, none⟩) hpz).trans u2)⟩
          | exact ⟨(hb5.cell (p := ⟨w2.heap.size, 0, none⟩) hpz).trans u1, (hb5.cell (p := ⟨w2.heap.size, 1, none⟩) hpz).trans u2⟩
          | exact ⟨u1, u2⟩
          | exact ⟨(far2 hfar).trans ((hb6.cell (p := ⟨w2.heap.size, 0, none⟩) (Nat.lt_of_lt_of_le hpz hb5.size)).trans ((hb5.cell (p := ⟨w2.heap.size, 0, none⟩) hpz).trans u1)), (far2 hfar).trans ((hb6.cell (p := ⟨w2.heap.size, 1, none⟩) (Nat.lt_of_lt_of_le hpz hb5.size)).trans ((hb5.cell (p := ⟨w2.heap.size, 1, none⟩) hpz).trans u2))⟩)
        (first
          | (go_at_call 38; refine (cM.out _ (by first | exact (Below.refl _ _).drew | exact Below.refl _ _)).mono ?_; rintro e w5 ⟨rfl, hb5⟩)
          | (go_at_call 44; refine (cDv.out _).mono ?_; rintro e w6 ⟨rfl, hb6⟩; have G6 := Lib.hid ((G3.out.on (by exact (Below.refl _ _).drew.trans (hb5.mono (Nat.le_refl _)))).on hb6); obtain ⟨f1, f2, f3, f4⟩ := G6.out.open))
      obtain ⟨hE, hB9⟩ := G6.out.end' (.int .i64 (x1 : Int)) (.int .i64 (x2 : Int))
      have HE := Lib.hid hE
      have HB9 := Lib.hid hB9
      clear hE hB9
      go_wp2_with fail
      generalize ((w6.setCell ⟨W.heap.size + 1, 0, none⟩ (.int .i64 (x1 : Int))).setCell ⟨W.heap.size + 1, 1, none⟩ (.int .i64 (x2 : Int))) = W9 at *
      obtain ⟨hc0, hc1⟩ := HE.out
      exact bodyPost_ret (v := .tuple #[fv (x1, x2), .bool true]) (by simp [results, Try.results22, go_sem, hc0, hc1, fv]) rfl ⟨rfl, HB9.out⟩
    · obtain rfl : ok = false := by rw [HOk.out]; simp [h2]
      have hd : decide ((m : Int) < 2) = true := decide_eq_true (by omega)
      have hd2 : (m : Int) < 2 := by omega
      obtain ⟨f1, f2, f3, f4⟩ := G3.out.open
      obtain ⟨hE, hB9⟩ := G3.out.end' (.int .i64 0) (.int .i64 0)
      have HE := Lib.hid hE
      have HB9 := Lib.hid hB9
      clear hE hB9
      go_wp2_with fail
      generalize (((w2.alloc (.cells #[.slice a n c, .slice aw m cw] 56)).setCell ⟨W.heap.size + 1, 0, none⟩ (.int .i64 0)).setCell ⟨W.heap.size + 1, 1, none⟩ (.int .i64 0)) = W9 at *
      obtain ⟨hc0, hc1⟩ := HE.out
      exact bodyPost_ret (v := .tuple #[fv (0, 0), .bool false]) (by simp [results, Try.results22, go_sem, hc0, hc1, fv]) rfl ⟨by rw [HX0.out (by trivial)], HB9.out⟩

end Go.Proofs.Ytibdfhhbkbncgaa
