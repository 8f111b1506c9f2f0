/-
  The reference's kids of a node; rows of numbers.
-/
import Derived.Test.YtfehfjnmkaifbabNumsL
namespace Go.Proofs.Ytfehfjnmkaifbab
open Go.RowKit
set_option linter.unusedVariables false

set_option maxRecDepth 1000000 in
set_option maxHeartbeats 1000000 in
theorem l2Kids_any (B : Nat) (a : Option Addr) (n c i : Nat) (t : List Nd) (w : World) (hB : B ≤ w.heap.size) (h : Nds B w a n c t) (hn : n ≤ 1000) (hi : i < n) :
    Calls Try.prog 46 #[.agg #[.slice a n c], .int .i64 (i : Int)] w fun e w' => ∃ v, e = .returned v ∧ w'.ownsRow w.heap.size 3 1 v (kidsTo t i n).length (nums (kidsTo t i n)) ∧ Below w.heap.size w w' := by
  have L := Lib.hid h.len
  have C := h.cap
  have T := h.top
  have H := Lib.hid h
  have HB := Lib.hid hB
  clear h hB
  obtain ⟨i0, hii, hz0, hz1, hz2⟩ := info_parts infoI
  have hown0 := World.ownsRow_lit (base := w.heap.size + 1) (e := 3) (size := 1) (w.alloc (.cells #[.slice a n c] 30)) #[] 0 (by simp) (by unfold maxLen; omega) rfl
  have HO0 := Lib.hid hown0
  clear hown0
  go_enter Try.func46, Try.ntmps46
  go_wp2
  go_loopw [5, 6] (fun o q wr => ∃ (k m : Nat) (v : Value), i < k ∧ k ≤ n ∧ m ≤ k ∧ q = .int .i64 k ∧ v = o ∧ Hid ((kidsTo t i k).length = m) ∧ Hid (wr.ownsRow (w.heap.size + 1) 3 1 v m (nums (kidsTo t i k))) ∧ Hid (Below w.heap.size w wr) ∧ wr.cell? ⟨w.heap.size, 0, none⟩ = some (.slice a n c) ∧ w.heap.size < wr.heap.size) (fun _ q _ => n - (intOf q).toNat)
  case atStart => exact ⟨i + 1, 0, _, by omega, by omega, by omega, by go_num, rfl, Lib.hid (by rw [kidsTo_low]; rfl), Lib.hid (by rw [kidsTo_low]; simpa [nums] using HO0.out), Lib.hid (((Below.refl _ _).alloc (Nat.le_refl _) _).alloc (by simp) _), by simp, by simp; omega⟩
  case round =>
    clear HO0
    obtain ⟨k, m, v, hik, hkn, hmk, rfl, rfl, HM, HO, HBw, hbox, hsz⟩ := hrel
    by_cases hlt : k < n
    · obtain ⟨b, o, l, p, e, rfl, hbB, hd, hl, hp, hc1, hc2, hc3⟩ := (H.out.keep (HBw.out.mono HB.out)).elem k hlt
      have hBw := HBw.out.size
      by_cases hpi : p = (i : Int)
      · have hb1 : (p == (i : Int)) = true := by simp [hpi]
        have HKT := Lib.hid (kidsTo_hit hd hik hpi)
        clear hpi hd
        go_wp2_with (first
          | (at_builtin; refine wpList_append_sl rfl _ _ 73 rfl (w.heap.size + 1) 3 i0 (.int .i64 0) 8 Try.underlying73 hii hz0 hz1 hz2 rfl _ _ _ rfl (HO.out.alloc _) rfl (sl_new _ _ _) (by simp [Value.oneCell']) (by unfold maxLen; omega) (by omega) (by simp; omega) ?_; intro v2 w2 hO2 hG2; have HO2 := Lib.hid hO2; have HB2 : Hid (Below w.heap.size w w2) := Lib.hid (HBw.out.trans (((Below.refl _ wr).alloc (by omega) _).trans (below_grown (HO.out.alloc _) (by omega) (by simp; omega) hG2))); have hcell : w2.cell? ⟨w.heap.size, 0, none⟩ = some (.slice (some ⟨b, o, none⟩) n c) := (hG2.cell_far ⟨w.heap.size, 0, none⟩ (by simp; omega) (fun e => by have := (own_ge HO.out (g := w.heap.size) e.symm).1; omega)).trans ((World.cell?_alloc_lt _ _ _ (by simp; omega)).trans hbox); have hsz2 := hG2.size; simp only [World.size_alloc] at hsz2; clear hO2 hG2))
        go_roundw
        case rel => exact ⟨k + 1, m + 1, v2, by omega, by omega, by omega, by go_num, rfl, Lib.hid (by rw [HKT.out, List.length_append, HM.out]; rfl), Lib.hid (by rw [HKT.out]; simpa [nums] using HO2.out), HB2, hcell, by omega⟩
        case measure => simp [intOf]; omega
      · have hb1 : (p == (i : Int)) = false := by simp [hpi]
        have HKT := Lib.hid (kidsTo_miss (i := i) hd (fun h => hpi h.2))
        clear hpi hd
        go_wp2
        go_roundw
        case rel => exact ⟨k + 1, m, _, by omega, by omega, by omega, by go_num, rfl, Lib.hid (by rw [HKT.out]; exact HM.out), Lib.hid (by rw [HKT.out]; exact HO.out), HBw, hbox, hsz⟩
        case measure => simp [intOf]; omega
    · have e : k = n := by omega
      subst e
      go_wp2
      go_ret
      exact ⟨_, rfl, by rw [HM.out]; exact own_down HO.out (by omega), HBw.out⟩

end Go.Proofs.Ytfehfjnmkaifbab
