/-
  The words under a node: the program's helper.
-/
import Derived.Test.YthjafoacnfgjhacBel
import Derived.Test.YthjafoacnfgjhacPrefixAt
import Derived.Test.YthjafoacnfgjhacBehU
namespace Go.Proofs.Ythjafoacnfgjhac
open Go.RowKit
set_option linter.unusedVariables false

set_option maxRecDepth 1000000 in
set_option maxHeartbeats 1000000 in
theorem wordsBelow_any (B : Nat) (a : Option Addr) (n c i : Nat) (t : List Nd) (ps : List Txt) (w : World) (hB : B ≤ w.heap.size) (h : Nds B w a n c t) (hv : Valid t ps) (hin : i < n) :
    Calls Try.prog 83 #[.agg #[.slice a n c], .int .i64 (i : Int)] w fun e w' => ∃ v b, e = .returned v ∧ Behind t ps i b ∧ w'.ownsRow w.heap.size 9 1 v (midw t ps i b).length ((midw t ps i b).map (fun x => Value.string (bx x))) ∧ Below w.heap.size w w' := by
  have L := Lib.hid h.len
  have C := h.cap
  have T := h.top
  have hn : n ≤ 481 := by have := hv.size; have := h.len; omega
  have H := Lib.hid h
  have HB := Lib.hid hB
  have HV := Lib.hid hv
  clear h hB hv
  obtain ⟨i0, hi, hz0, hz1, hz2⟩ := info_parts infoS
  have HB1 : Hid (Below w.heap.size w (w.alloc (.cells #[.slice a n c] 38))) := Lib.hid ((Below.refl _ _).alloc (Nat.le_refl _) _)
  have hbx : (w.alloc (.cells #[.slice a n c] 38)).cell? ⟨w.heap.size, 0, none⟩ = some (.slice a n c) := by simp
  have hlt : w.heap.size < (w.alloc (.cells #[.slice a n c] 38)).heap.size := by simp
  obtain ⟨W1, hW1⟩ : ∃ W1, (w.alloc (.cells #[.slice a n c] 38)).alloc (.cells #[] 9) = W1 := ⟨_, rfl⟩
  have HW1 := Lib.hid hW1
  clear hW1
  have cU : Hid (∀ W, Below w.heap.size w W → Calls Try.prog 98 #[.agg #[.slice a n c], .int .i64 (i : Int)] W fun e w' => ∃ b : Nat, e = .returned (.int .i64 (b : Int)) ∧ Behind t ps i b ∧ Below W.heap.size W w') := Lib.hid (fun W hW => behindUnder_any B a n c i t ps W (Nat.le_trans HB.out hW.size) (H.out.keep (hW.mono HB.out)) (by omega) HV.out.tells hin)
  have hown0 := World.ownsRow_lit (base := w.heap.size + 1) (e := 9) (size := 1) (w.alloc (.cells #[.slice a n c] 38)) #[] 0 (by simp) (by unfold maxLen; omega) rfl
  have HO0 := Lib.hid hown0
  clear hown0
  go_enter Try.func83, Try.ntmps83
  go_wp2_with (first
    | (go_at_call 98; refine (cU.out _ (by exact (HB1.out.alloc HB1.out.size _))).mono ?_; rintro en w3 ⟨b3, rfl, hBh, hb3⟩; have HBh := Lib.hid hBh; have HO3 := Lib.hid (own_stay HO0.out hb3); have hbx3 := (hb3.cell (p := ⟨w.heap.size, 0, none⟩) (by simp; omega)).trans ((World.cell?_alloc_lt _ _ _ hlt).trans hbx); have HB3 := Lib.hid ((HB1.out.alloc HB1.out.size _).trans (hb3.mono (by simp; omega))); have hs3 := hb3.size; simp only [World.size_alloc] at hs3; clear hBh hb3 hbx))
  have hib := HBh.out.lt
  have hbn : b3 ≤ n := by have := HBh.out.le; rw [L.out] at this; exact this
  go_loopw [5, 1] (fun o q wr => ∃ (k : Nat) (v : Value) (rs : List Txt), i ≤ k ∧ k ≤ b3 ∧ q = .int .i64 k ∧ v = o ∧ rs.length ≤ k ∧ Hid (wr.ownsRow (w.heap.size + 1) 9 1 v rs.length (rs.map (fun x => Value.string (bx x)))) ∧ Hid (rs = midw t ps i k) ∧ Hid (Below w.heap.size w wr) ∧ wr.cell? ⟨w.heap.size, 0, none⟩ = some (.slice a n c) ∧ w.heap.size < wr.heap.size) (fun _ q _ => b3 - (intOf q).toNat)
  case atStart => exact ⟨i, _, [], Nat.le_refl _, by omega, rfl, rfl, Nat.zero_le _, Lib.hid (by simpa using HO3.out), Lib.hid (midw_same t ps i).symm, HB3, hbx3, by omega⟩
  case round =>
    clear HO0 HO3 hbx3
    obtain ⟨k, v, rs, hik, hk, rfl, rfl, hrs, HO, HR, HBw, hbox, hsz⟩ := hrel
    by_cases hltk : k < b3
    · obtain ⟨b, o, l, p, e, rfl, hbB, hd, hl, hp, hc1, hc2, hc3⟩ := (H.out.keep (HBw.out.mono HB.out)).elem k (by omega)
      have HBs := HBw.out.size
      have hkn : (k : Int) < (n : Int) := by omega
      obtain ⟨_, x, _, hx⟩ := HV.out.tells.at (show k < t.length by rw [L.out]; omega)
      have HX := Lib.hid hx
      have HS := Lib.hid (midw_succ HV.out.lenEq hik hd hx)
      clear hx hd
      cases e with
      | false =>
        go_wp2
        go_roundw
        case rel => exact ⟨k + 1, _, rs, by omega, by omega, by go_num, rfl, by omega, HO, Lib.hid (by rw [HS.out, HR.out]; simp), HBw, hbox, hsz⟩
        case measure => simp [intOf]; omega
      | true =>
        have cP := Lib.hid (prefixAt_any B (some ⟨b, o, none⟩) n c k t.length t ps x wr (Nat.le_trans HB.out HBw.out.size) (H.out.keep (HBw.out.mono HB.out)) HV.out.tells HX.out (HV.out.short x (at_mem HX.out)))
        go_wp2_with (first
          | (go_at_call 60; refine cP.out.mono ?_; rintro e w1 ⟨rfl, hb1⟩; have HO1 := Lib.hid (own_stay HO.out hb1); have HB1' := Lib.hid hb1; have hz1s := hb1.size; clear hb1)
          | (at_builtin; refine wpList_append_sl rfl _ _ 53 rfl (w.heap.size + 1) 9 i0 (.string ByteArray.empty) 16 Try.underlying53 hi hz0 hz1 hz2 rfl _ _ _ rfl (HO1.out.alloc _) rfl (sl_new _ _ _) (by simp [Value.oneCell']) (by unfold maxLen; omega) (by omega) (by simp; omega) ?_; intro v2 w2' hO2 hG2))
        have HBf : Below w.heap.size w w2' := (HBw.out.trans (HB1'.out.mono HBw.out.size)).trans (((Below.refl _ w1).alloc (by omega) _).trans (below_grown (HO1.out.alloc _) (by omega) (by simp; omega) hG2))
        have hcell : w2'.cell? ⟨w.heap.size, 0, none⟩ = some (.slice (some ⟨b, o, none⟩) n c) := by
          rw [hG2.cell_far ⟨w.heap.size, 0, none⟩ (by simp; omega) (fun e => by have := (own_ge HO1.out (g := w.heap.size) e.symm).1; omega), World.cell?_alloc_lt _ _ _ (by simp; omega), HB1'.out.cell (p := ⟨w.heap.size, 0, none⟩) (by simp; omega)]
          exact hbox
        have hsz2 := hG2.size
        simp only [World.size_alloc] at hsz2
        go_roundw
        case rel => exact ⟨k + 1, v2, rs ++ [x], by omega, by omega, by go_num, rfl, by simp; omega, Lib.hid (by simpa using hO2), Lib.hid (by rw [HS.out, HR.out]; simp), Lib.hid HBf, hcell, by omega⟩
        case measure => simp [intOf]; omega
    · have e : k = b3 := by omega
      subst e
      go_wp2
      go_ret
      exact ⟨_, k, rfl, HBh.out, by rw [← HR.out]; exact own_down HO.out (by omega), HBw.out⟩

end Go.Proofs.Ythjafoacnfgjhac
