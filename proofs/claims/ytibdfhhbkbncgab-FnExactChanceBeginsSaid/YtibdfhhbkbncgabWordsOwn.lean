/-
  The reference's words as a row that the call owns.
-/
import Derived.Test.YtibdfhhbkbncgabWordsN
namespace Go.Proofs.Ytibdfhhbkbncgab
open Go.RowKit
set_option linter.unusedVariables false

set_option maxRecDepth 1000000 in
set_option maxHeartbeats 1000000 in
theorem l2Words_own (B : Nat) (a : Option Addr) (n c : Nat) (t : List Nd) (w : World) (hB : B ≤ w.heap.size) (h : Nds B w a n c t) (hn : n ≤ 1048576) :
    Calls Try.prog 33 #[.agg #[.slice a n c]] w fun e w' => ∃ v rs, e = .returned v ∧ w'.ownsRow w.heap.size 9 1 v rs.length (rs.map (fun x => Value.string (bx x))) ∧ (∀ ps, Valid t ps → rs = wds t ps) ∧ Below w.heap.size w w' := by
  have L := Lib.hid h.len
  have C := h.cap
  have T := h.top
  have H := Lib.hid h
  have HB := Lib.hid hB
  clear h hB
  obtain ⟨i0, hi, hz0, hz1, hz2⟩ := info_parts infoS
  have hown0 := World.ownsRow_lit (base := w.heap.size + 1) (e := 9) (size := 1) (w.alloc (.cells #[.slice a n c] 31)) #[] 0 (by simp) (by unfold maxLen; omega) rfl
  have HO0 := Lib.hid hown0
  clear hown0
  go_enter Try.func33, Try.ntmps33
  go_wp2
  go_loopw [3, 4] (fun o i wr => ∃ (k : Nat) (v : Value) (rs : List Txt), k ≤ n ∧ i = .int .i64 k ∧ v = o ∧ rs.length ≤ k ∧ Hid (wr.ownsRow (w.heap.size + 1) 9 1 v rs.length (rs.map (fun x => Value.string (bx x)))) ∧ Hid (∀ x ∈ rs, x.length ≤ 13) ∧ Hid (RawOf t k rs) ∧ Hid (Below w.heap.size w wr) ∧ wr.cell? ⟨w.heap.size, 0, none⟩ = some (.slice a n c) ∧ w.heap.size < wr.heap.size) (fun _ i _ => n - (intOf i).toNat)
  case atStart => exact ⟨0, _, [], Nat.zero_le _, rfl, rfl, Nat.le_refl _, Lib.hid (by simpa using HO0.out), Lib.hid (by simp), Lib.hid (fun ps h1 h2 => by simp [wds]), Lib.hid (((Below.refl _ _).alloc (Nat.le_refl _) _).alloc (by simp) _), by simp, by simp; omega⟩
  case round =>
    clear HO0
    obtain ⟨k, v, rs, hk, rfl, rfl, hrs, HO, HX, HR, HBw, hbox, hsz⟩ := hrel
    by_cases hlt : k < n
    · obtain ⟨b, o, l, p, e, rfl, hbB, hd, hl, hp, hc1, hc2, hc3⟩ := (H.out.keep (HBw.out.mono HB.out)).elem k hlt
      have HD := Lib.hid hd
      clear hd
      cases e with
      | false =>
        have HR2 := Lib.hid (HR.out.skip HD.out rfl)
        go_wp2
        go_roundw
        case rel => exact ⟨k + 1, v, rs, by omega, by go_num, rfl, by omega, HO, HX, HR2, HBw, hbox, hsz⟩
        case measure => simp [intOf]; omega
      | true =>
        have cP := Lib.hid (l2Prefix_any B (some ⟨b, o, none⟩) n c k t wr (Nat.le_trans HB.out HBw.out.size) (H.out.keep (HBw.out.mono HB.out)) hlt)
        have HBs := HBw.out.size
        go_wp2_with (first
          | (go_at_call 58; refine cP.out.mono ?_; rintro e w1 ⟨s, rfl, hs13, hpre, hb1⟩; have HO1 := Lib.hid (own_stay HO.out hb1); have HPre := Lib.hid hpre; have HB1 := Lib.hid hb1; have hz1s := hb1.size; clear hpre hb1)
          | (at_builtin; refine wpList_append_sl rfl _ _ 47 rfl (w.heap.size + 1) 9 i0 (.string ByteArray.empty) 16 Try.underlying47 hi hz0 hz1 hz2 rfl _ _ _ rfl (HO1.out.alloc _) rfl (sl_new _ _ _) (by simp [Value.oneCell']) (by unfold maxLen; omega) (by omega) (by simp; omega) ?_; intro v2 w2 hO2 hG2))
        have HB2 : Below w.heap.size w w2 := (HBw.out.trans (HB1.out.mono HBw.out.size)).trans (((Below.refl _ w1).alloc (by omega) _).trans (below_grown (HO1.out.alloc _) (by omega) (by simp; omega) hG2))
        have hcell : w2.cell? ⟨w.heap.size, 0, none⟩ = some (.slice (some ⟨b, o, none⟩) n c) := by
          rw [hG2.cell_far ⟨w.heap.size, 0, none⟩ (by simp; omega) (fun e => by have := (own_ge HO1.out (g := w.heap.size) e.symm).1; omega), World.cell?_alloc_lt _ _ _ (by simp; omega), HB1.out.cell (p := ⟨w.heap.size, 0, none⟩) hsz]
          exact hbox
        have hsz2 := hG2.size
        simp only [World.size_alloc] at hsz2
        go_roundw
        case rel => exact ⟨k + 1, v2, rs ++ [tx s], by omega, by go_num, rfl, by simp; omega, Lib.hid (by simpa [bx_tx] using hO2), Lib.hid (by intro x hx; rcases List.mem_append.1 hx with hx | hx; exact HX.out x hx; rw [List.mem_singleton] at hx; rw [hx, tx_len]; exact hs13), Lib.hid (HR.out.succ HD.out rfl HPre.out), Lib.hid HB2, hcell, by omega⟩
        case measure => simp [intOf]; omega
    · have HN : Hid (∀ ps, Valid t ps → rs = wds t ps) := Lib.hid (fun ps hv => HR.out.all (by have := L.out; omega) hv)
      go_wp2
      go_ret
      exact ⟨_, rs, rfl, own_down HO.out (by omega), HN.out, HBw.out⟩

end Go.Proofs.Ytibdfhhbkbncgab
