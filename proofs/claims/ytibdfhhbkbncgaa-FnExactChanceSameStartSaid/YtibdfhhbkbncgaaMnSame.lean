/-
  The mean of what is told of the words of a pot, with one of the functions that tell.
-/
import Derived.Test.YtibdfhhbkbncgaaFrD
import Derived.Test.YtibdfhhbkbncgaaTsum
import Derived.Test.YtibdfhhbkbncgaaPutW
import Derived.Test.YtibdfhhbkbncgaaGvT
namespace Go.Proofs.Ytibdfhhbkbncgaa.mnSame
open Go.RowKit
set_option linter.unusedVariables false

set_option maxRecDepth 1000000 in
set_option maxHeartbeats 1000000 in
theorem mean_any (q1 q2 : Nat) (a aw : Option Addr) (n c m cw : Nat) (ws : List Txt) (tell : Txt → Nat) (W : World) (hW : Wds W.heap.size W aw m cw ws) (hm0 : 0 < m) (hm : m ≤ 100) (hlen : ∀ x ∈ ws, x.length ≤ 12) (htell : ∀ x ∈ ws, tell x ≤ 100000)
    (cc : ∀ (W' : World) (x : Txt), x ∈ ws → Below W.heap.size W W' → Calls Try.prog 41 #[.string (bx x), .pointer (some ⟨q1, 0, none⟩), .pointer (some ⟨q2, 0, none⟩)] W' fun e w' => e = .returned (.int .i64 (tell x : Int)) ∧ Below W'.heap.size W' w') :
    Calls Try.prog 38 #[.agg #[.slice a n c, .slice aw m cw], .func (.func 41) #[] #[.pointer (some ⟨q1, 0, none⟩), .pointer (some ⟨q2, 0, none⟩)]] W fun e w' => e = .returned (fv (fra (tsum tell ws) m)) ∧ Below W.heap.size W w' := by
  have L := Lib.hid hW.len
  have C := hW.sl.cap
  have T := hW.sl.top
  have HCc := Lib.hid cc
  have HTl := Lib.hid htell
  have HLn := Lib.hid hlen
  clear cc htell hlen
  obtain ⟨total, htt⟩ : ∃ total, tsum tell ws = total := ⟨_, rfl⟩
  have HTT := Lib.hid htt
  rw [htt]
  clear htt
  have cF := Lib.hid (fun W h1 => fractionOf_any total m W h1 (by omega) hm0)
  obtain ⟨q, hq⟩ : ∃ q, fra total m = q := ⟨_, rfl⟩
  obtain ⟨q1, q2⟩ := q
  rw [hq] at cF ⊢
  rw [fv_mk] at cF
  clear hq
  have HB1 : Hid (Below W.heap.size W ((W.alloc (.cells #[.slice a n c, .slice aw m cw] 56)).alloc (.cells #[.int .i64 0, .int .i64 0] 52))) := Lib.hid (((Below.refl _ _).alloc (Nat.le_refl _) _).alloc (by simp) _)
  obtain ⟨u1, u2⟩ := pair_cells W (.slice a n c) (.slice aw m cw) 56
  have hb2 : Below (W.alloc (.cells #[.slice a n c, .slice aw m cw] 56)).heap.size (W.alloc (.cells #[.slice a n c, .slice aw m cw] 56)) ((W.alloc (.cells #[.slice a n c, .slice aw m cw] 56)).alloc (.cells #[.int .i64 0, .int .i64 0] 52)) := (Below.refl _ _).alloc (Nat.le_refl _) _
  have HU1 := Lib.hid ((hb2.cell (p := ⟨W.heap.size, 0, none⟩) (by simp)).trans u1)
  have HU2 := Lib.hid ((hb2.cell (p := ⟨W.heap.size, 1, none⟩) (by simp)).trans u2)
  have HW1 : Hid (((W.alloc (.cells #[.slice a n c, .slice aw m cw] 56)).alloc (.cells #[.int .i64 0, .int .i64 0] 52)).heap[W.heap.size + 1]? = some (.cells #[.int .i64 0, .int .i64 0] 52)) := Lib.hid (by
    have := heap_alloc_new (W.alloc (.cells #[.slice a n c, .slice aw m cw] 56)) (.cells #[.int .i64 0, .int .i64 0] 52)
    simpa using this)
  have hsz : W.heap.size + 1 < ((W.alloc (.cells #[.slice a n c, .slice aw m cw] 56)).alloc (.cells #[.int .i64 0, .int .i64 0] 52)).heap.size := by simp
  have HWd := Lib.hid hW
  have hbx := HU2.out
  clear hW u1 u2 hb2
  go_enter Try.func38, Try.ntmps38
  go_wp2_with fail
  obtain ⟨W1, hW1⟩ : ∃ W1, (W.alloc (.cells #[.slice a n c, .slice aw m cw] 56)).alloc (.cells #[.int .i64 0, .int .i64 0] 52) = W1 := ⟨_, rfl⟩
  rw [hW1] at HB1 HU1 HU2 HW1 hsz ⊢
  clear hW1 hbx
  go_loopw [5, 7, 11] (fun s u i wr => ∃ (k z : Nat), k ≤ m ∧ i = .int .i64 k ∧ s = .int .i64 z ∧ z ≤ 100000 * k ∧ Hid (tsum tell (ws.take k) = z) ∧ Hid (Below W1.heap.size W1 wr)) (fun _ _ i _ => m - (intOf i).toNat)
  case atStart => exact ⟨0, 0, Nat.zero_le _, rfl, rfl, by omega, Lib.hid rfl, Lib.hid (Below.refl _ _)⟩
  case round =>
    obtain ⟨k, z, hk, rfl, rfl, hz, HZ, HBw⟩ := hrel
    by_cases hlk : k < m
    · obtain ⟨b, o, s, rfl, hbl, hs, _, hc⟩ := Wds.elem (HWd.out.keep (HB1.out.trans (HBw.out.mono HB1.out.size))) k hlk
      have HS := Lib.hid (tsum_succ tell hs)
      have hmem := at_mem hs
      have ht := HTl.out _ hmem
      have cC := HCc.out wr (tx s) hmem (HB1.out.trans (HBw.out.mono HB1.out.size))
      rw [bx_tx] at cC
      obtain ⟨y, hy⟩ : ∃ y, tell (tx s) = y := ⟨_, rfl⟩
      rw [hy] at cC ht HS
      have CC := Lib.hid cC
      clear hs hmem cC hy
      have hi0 : (0 : Int) ≤ (k : Int) := by omega
      have hi1 : (k : Int) < (m : Int) := by omega
      go_wp2_with fail
      refine CC.out.mono ?_
      rintro e w4 ⟨rfl, hb4⟩
      have HB4 := Lib.hid (HBw.out.trans (hb4.mono HBw.out.size))
      clear hb4
      go_wp2_with fail
      go_roundw
      case rel => exact ⟨k + 1, z + y, by omega, by go_num, by go_num, by omega, Lib.hid (by rw [HS.out, HZ.out]), HB4⟩
      case measure => simp [intOf]; omega
    · have HF : Hid (z = total) := Lib.hid (by rw [← HZ.out, List.take_of_length_le (by rw [L.out]; omega)]; exact HTT.out)
      have hbx := (HBw.out.cell (p := ⟨W.heap.size, 1, none⟩) (Nat.lt_of_lt_of_le (Nat.lt_succ_self _) (Nat.le_of_lt hsz))).trans HU2.out
      have hzt : total ≤ 9000000000000000000 := by have := HF.out; omega
      go_wp2_with fail
      rw [show (z : Int) = (total : Int) by rw [HF.out]]
      refine (cF.out _ hzt).mono ?_
      rintro e w5 ⟨rfl, hb5⟩
      have hh := ((HBw.out.trans (hb5.mono HBw.out.size)).block (W.heap.size + 1) hsz).trans HW1.out
      have HB5 := Lib.hid (HB1.out.trans ((HBw.out.trans (hb5.mono HBw.out.size)).mono HB1.out.size))
      obtain ⟨f1, f2, f3, f4⟩ := frozen_new2 hh
      clear hb5 hbx
      go_wp2_with fail
      have hb := pair_below (v1 := .int .i64 (q1 : Int)) (v2 := .int .i64 (q2 : Int)) HB5.out (Nat.le_succ W.heap.size)
      obtain ⟨hc0, hc1⟩ := pair_set (a' := .int .i64 (q1 : Int)) (b' := .int .i64 (q2 : Int)) hh
      generalize ((w5.setCell ⟨W.heap.size + 1, 0, none⟩ (.int .i64 (q1 : Int))).setCell ⟨W.heap.size + 1, 1, none⟩ (.int .i64 (q2 : Int))) = W9 at *
      refine bodyPost_ret (v := fv (q1, q2)) (by simp [results, Try.results38, go_sem, hc0, hc1, fv]) rfl ⟨rfl, hb⟩

end Go.Proofs.Ytibdfhhbkbncgaa.mnSame
