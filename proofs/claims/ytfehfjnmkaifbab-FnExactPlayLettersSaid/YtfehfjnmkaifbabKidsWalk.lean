/-
  The program's walk over the kids of a node.
-/
import Derived.Test.YtfehfjnmkaifbabIsTrie
import Derived.Test.YtfehfjnmkaifbabKids
import Derived.Test.YtfehfjnmkaifbabInfoI
import Derived.Test.YtfehfjnmkaifbabBehU
namespace Go.Proofs.Ytfehfjnmkaifbab
open Go.RowKit
set_option linter.unusedVariables false


set_option maxRecDepth 1000000 in
set_option maxHeartbeats 1000000 in
theorem kidsAt_any (B : Nat) (a : Option Addr) (n c i : Nat) (t : List Nd) (ps : List Txt) (w : World) (hB : B ≤ w.heap.size) (h : Nds B w a n c t) (hn : n ≤ 1000) (ht : Tells t t.length ps) (hi : i < n) :
    Calls Try.prog 73 #[.agg #[.slice a n c], .int .i64 (i : Int)] w fun e w' => ∃ v, e = .returned v ∧ w'.ownsRow w.heap.size 3 1 v (kidsTo t i n).length (nums (kidsTo t i n)) ∧ Below w.heap.size w w' := by
  have L := Lib.hid h.len
  have C := h.cap
  have T := h.top
  have H := Lib.hid h
  have HB := Lib.hid hB
  have HT := Lib.hid ht
  clear h hB ht
  obtain ⟨i0, hii, hz0, hz1, hz2⟩ := info_parts infoI
  have hown0 := World.ownsRow_lit (base := w.heap.size + 1) (e := 3) (size := 1) (w.alloc (.cells #[.slice a n c] 30)) #[] 0 (by simp) (by unfold maxLen; omega) rfl
  have HO0 := Lib.hid hown0
  clear hown0
  go_enter Try.func73, Try.ntmps73
  go_wp2
  go_loopw [5, 6] (fun o q wr => ∃ (k m : Nat) (v : Value), i < k ∧ k ≤ n ∧ m ≤ k ∧ q = .int .i64 k ∧ v = o ∧ Hid ((kidsTo t i k).length = m) ∧ Hid (wr.ownsRow (w.heap.size + 1) 3 1 v m (nums (kidsTo t i k))) ∧ Hid (KidAt t ps i k) ∧ Hid (Below w.heap.size w wr) ∧ wr.cell? ⟨w.heap.size, 0, none⟩ = some (.slice a n c) ∧ w.heap.size < wr.heap.size) (fun _ q _ => n - (intOf q).toNat)
  case atStart => exact ⟨i + 1, 0, _, by omega, by omega, by omega, by go_num, rfl, Lib.hid (by rw [kidsTo_low]; rfl), Lib.hid (by rw [kidsTo_low]; simpa [nums] using HO0.out), Lib.hid (kidAt_first HT.out i), Lib.hid (((Below.refl _ _).alloc (Nat.le_refl _) _).alloc (by simp) _), by simp, by simp; omega⟩
  case round =>
    clear HO0
    obtain ⟨k, m, v, hik, hkn, hmk, rfl, rfl, HM, HO, HK, HBw, hbox, hsz⟩ := hrel
    by_cases hlt : k < n
    · obtain ⟨b, o, l, p, e, rfl, hbB, hd, hl, hp, hc1, hc2, hc3⟩ := (H.out.keep (HBw.out.mono HB.out)).elem k hlt
      have HD := Lib.hid hd
      clear hd
      by_cases hpi : p = (i : Int)
      · have hb1 : (p == (i : Int)) = true := by simp [hpi]
        have HPi := Lib.hid hpi
        clear hpi
        have hBw := HBw.out.size
        have cU : Hid (∀ W, Below w.heap.size w W → Calls Try.prog 84 #[.agg #[.slice (some ⟨b, o, none⟩) n c], .int .i64 (k : Int)] W fun e w' => ∃ b : Nat, e = .returned (.int .i64 (b : Int)) ∧ Behind t ps k b ∧ Below W.heap.size W w') := Lib.hid (fun W hW => behindUnder_any B _ n c k t ps W (Nat.le_trans HB.out hW.size) (H.out.keep (hW.mono HB.out)) hn HT.out hlt)
        go_wp2_with (first
          | (at_builtin; refine wpList_append_sl rfl _ _ 73 rfl (w.heap.size + 1) 3 i0 (.int .i64 0) 8 Try.underlying73 hii hz0 hz1 hz2 rfl _ _ _ rfl (HO.out.alloc _) rfl (sl_new _ _ _) (by simp [Value.oneCell']) (by unfold maxLen; omega) (by omega) (by simp; omega) ?_; intro v2 w2 hO2 hG2; have HO2 := Lib.hid hO2; have HB2 : Hid (Below w.heap.size w w2) := Lib.hid (HBw.out.trans (((Below.refl _ wr).alloc (by omega) _).trans (below_grown (HO.out.alloc _) (by omega) (by simp; omega) hG2))); have hcell : w2.cell? ⟨w.heap.size, 0, none⟩ = some (.slice (some ⟨b, o, none⟩) n c) := (hG2.cell_far ⟨w.heap.size, 0, none⟩ (by simp; omega) (fun e => by have := (own_ge HO.out (g := w.heap.size) e.symm).1; omega)).trans ((World.cell?_alloc_lt _ _ _ (by simp; omega)).trans hbox); have hsz2 := hG2.size; simp only [World.size_alloc] at hsz2; clear hO2 hG2)
          | (go_at_call 84; refine (cU.out _ HB2.out).mono ?_; rintro en w3 ⟨b3, rfl, hBh, hb3⟩; have HBh := Lib.hid hBh; have HB3 := Lib.hid hb3; clear hBh hb3))
        have hkb := HBh.out.lt
        have hbn : b3 ≤ n := by have := HBh.out.le; rw [L.out] at this; exact this
        have HKT : Hid (kidsTo t i b3 = kidsTo t i k ++ [k]) := Lib.hid (by
          rw [kidsTo_skip (k + 1) b3 (by omega) (fun m d h1 h2 h3 h4 => not_kid HT.out hik HD.out HPi.out HBh.out (by omega) h2 h3 h4.2), kidsTo_hit HD.out hik HPi.out])
        go_roundw
        case rel => exact ⟨b3, m + 1, v2, by omega, hbn, by omega, rfl, rfl, Lib.hid (by rw [HKT.out, List.length_append, HM.out]; rfl), Lib.hid (by rw [HKT.out]; have := own_stay HO2.out HB3.out; simpa [nums] using this), Lib.hid (kidAt_next HT.out hik HD.out HPi.out HBh.out), Lib.hid (HB2.out.trans (HB3.out.mono HB2.out.size)), (HB3.out.cell (p := ⟨w.heap.size, 0, none⟩) (by simp; omega)).trans hcell, by have := HB3.out.size; omega⟩
        case measure => simp [intOf]; omega
      · have hb1 : (p == (i : Int)) = false := by simp [hpi]
        have HKT : Hid (kidsTo t i n = kidsTo t i k) := Lib.hid (kidsTo_skip k n (by omega) (fun m d h1 h2 h3 h4 => no_more HT.out hik HK.out HD.out hpi h1 h3 h4.2))
        clear hpi
        go_wp2
        go_ret
        exact ⟨_, rfl, by rw [HKT.out, HM.out]; exact own_down HO.out (by omega), HBw.out⟩
    · have e : k = n := by omega
      subst e
      go_wp2
      go_ret
      exact ⟨_, rfl, by rw [HM.out]; exact own_down HO.out (by omega), HBw.out⟩

end Go.Proofs.Ytfehfjnmkaifbab
