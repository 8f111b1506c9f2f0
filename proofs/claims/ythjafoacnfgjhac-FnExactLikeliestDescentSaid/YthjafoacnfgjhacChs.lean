/-
  The choices at a node: the reference's function and the program's.
-/
import Derived.Test.YthjafoacnfgjhacDsc
import Derived.Test.YthjafoacnfgjhacKidsWalk
import Derived.Test.YthjafoacnfgjhacL2Kids
import Derived.Test.YthjafoacnfgjhacGvT
namespace Go.Proofs.Ythjafoacnfgjhac
open Go.RowKit
set_option linter.unusedVariables false
set_option linter.unusedSimpArgs false

set_option maxRecDepth 1000000 in
set_option maxHeartbeats 1000000 in
theorem choicesI_any (B : Nat) (a : Option Addr) (n c i : Nat) (t : List Nd) (ps : List Txt) (w : World) (hB : B ≤ w.heap.size) (h : Nds B w a n c t) (hn : n ≤ 1000) (ht : Tells t t.length ps) (hi : i < n) :
    Calls Try.prog 62 #[.agg #[.slice a n c], .int .i64 (i : Int)] w fun e w' => e = .returned (.int .i64 (chI t i : Int)) ∧ Below w.heap.size w w' := by
  have HL := Lib.hid h.len
  have HC : Hid (chI t i = (kidsTo t i n).length + (if enI t i = true then 1 else 0)) := Lib.hid (by unfold chI; rw [HL.out])
  have hle := kidsTo_le (t := t) (i := i) n
  have G1 : Hid (Below w.heap.size w (w.alloc (.cells #[.slice a n c] 38))) := Lib.hid ((Below.refl _ _).alloc (Nat.le_refl _) _)
  have hbx : (w.alloc (.cells #[.slice a n c] 38)).cell? ⟨w.heap.size, 0, none⟩ = some (.slice a n c) := by simp
  have hlt : w.heap.size < (w.alloc (.cells #[.slice a n c] 38)).heap.size := by simp
  have cK := Lib.hid (fun W' (hb : Below w.heap.size w W') => kidsAt_any B a n c i t ps W' (Nat.le_trans hB hb.size) (h.keep (hb.mono hB)) hn ht hi)
  have HN := Lib.hid (h.keep (G1.out.mono hB))
  have C := h.cap
  obtain ⟨m, hm⟩ : ∃ m, (kidsTo t i n).length = m := ⟨_, rfl⟩
  obtain ⟨q, hq⟩ : ∃ q, chI t i = q := ⟨_, rfl⟩
  rw [hm] at HC cK hle
  rw [hq] at HC ⊢
  have HBs := Lib.hid hB
  clear hm hq h ht hB
  go_enter Try.func62, Try.ntmps62
  go_wp2_with fail
  obtain ⟨W1, hW1⟩ : ∃ W1, w.alloc (.cells #[.slice a n c] 38) = W1 := ⟨_, rfl⟩
  rw [hW1] at G1 hbx hlt HN ⊢
  clear hW1
  have HX := Lib.hid hbx
  clear hbx
  refine (cK.out _ G1.out).mono ?_
  rintro e w2 ⟨v, rfl, hO2, hb2⟩
  obtain ⟨a2, c2, rfl⟩ := own_slice hO2
  have hbx := (hb2.cell (p := ⟨w.heap.size, 0, none⟩) hlt).trans HX.out
  have HB2 := Lib.hid (G1.out.trans (hb2.mono G1.out.size))
  obtain ⟨b, o, l, p, e1, rfl, hb1, hd1, hl1, hp1, hc1, hc2, hc3⟩ := (HN.out.keep (hb2.mono (Nat.le_trans HBs.out G1.out.size))).elem i hi
  have HE : Hid (enI t i = e1) := Lib.hid (enI_at hd1)
  have hi0 : (0 : Int) ≤ (i : Int) := by omega
  have hi1 : (i : Int) < (n : Int) := by omega
  clear hd1 hO2 hb2
  cases e1 with
  | false =>
    have HF : Hid ((q : Int) = (m : Int)) := Lib.hid (by rw [HC.out, HE.out]; simp)
    go_wp2_with fail
    go_ret
    exact ⟨ret_num HF.out.symm, HB2.out⟩
  | true =>
    have HF : Hid ((q : Int) = (m : Int) + 1) := Lib.hid (by rw [HC.out, HE.out]; simp)
    go_wp2_with fail
    go_ret
    exact ⟨ret_num (by rw [HF.out]), HB2.out⟩

set_option maxRecDepth 1000000 in
set_option maxHeartbeats 1000000 in
theorem choicesS_any (B : Nat) (a : Option Addr) (n c i : Nat) (t : List Nd) (ps : List Txt) (w : World) (hB : B ≤ w.heap.size) (h : Nds B w a n c t) (hn : n ≤ 1000) (ht : Tells t t.length ps) (hi : i < n) :
    Calls Try.prog 56 #[.agg #[.slice a n c], .int .i64 (i : Int)] w fun e w' => e = .returned (.int .i64 (chI t i : Int)) ∧ Below w.heap.size w w' := by
  have HL := Lib.hid h.len
  have HC : Hid (chI t i = (kidsTo t i n).length + (if enI t i = true then 1 else 0)) := Lib.hid (by unfold chI; rw [HL.out])
  have hle := kidsTo_le (t := t) (i := i) n
  have G1 : Hid (Below w.heap.size w (w.alloc (.cells #[.slice a n c] 38))) := Lib.hid ((Below.refl _ _).alloc (Nat.le_refl _) _)
  have hbx : (w.alloc (.cells #[.slice a n c] 38)).cell? ⟨w.heap.size, 0, none⟩ = some (.slice a n c) := by simp
  have hlt : w.heap.size < (w.alloc (.cells #[.slice a n c] 38)).heap.size := by simp
  have cK := Lib.hid (fun W' (hb : Below w.heap.size w W') => l2Kids_any B a n c i t W' (Nat.le_trans hB hb.size) (h.keep (hb.mono hB)) hn hi)
  have HN := Lib.hid (h.keep (G1.out.mono hB))
  have C := h.cap
  obtain ⟨m, hm⟩ : ∃ m, (kidsTo t i n).length = m := ⟨_, rfl⟩
  obtain ⟨q, hq⟩ : ∃ q, chI t i = q := ⟨_, rfl⟩
  rw [hm] at HC cK hle
  rw [hq] at HC ⊢
  have HBs := Lib.hid hB
  clear hm hq h ht hB
  go_enter Try.func56, Try.ntmps56
  go_wp2_with fail
  obtain ⟨W1, hW1⟩ : ∃ W1, w.alloc (.cells #[.slice a n c] 38) = W1 := ⟨_, rfl⟩
  rw [hW1] at G1 hbx hlt HN ⊢
  clear hW1
  have HX := Lib.hid hbx
  clear hbx
  refine (cK.out _ G1.out).mono ?_
  rintro e w2 ⟨v, rfl, hO2, hb2⟩
  obtain ⟨a2, c2, rfl⟩ := own_slice hO2
  have hbx := (hb2.cell (p := ⟨w.heap.size, 0, none⟩) hlt).trans HX.out
  have HB2 := Lib.hid (G1.out.trans (hb2.mono G1.out.size))
  obtain ⟨b, o, l, p, e1, rfl, hb1, hd1, hl1, hp1, hc1, hc2, hc3⟩ := (HN.out.keep (hb2.mono (Nat.le_trans HBs.out G1.out.size))).elem i hi
  have HE : Hid (enI t i = e1) := Lib.hid (enI_at hd1)
  have hi0 : (0 : Int) ≤ (i : Int) := by omega
  have hi1 : (i : Int) < (n : Int) := by omega
  clear hd1 hO2 hb2
  cases e1 with
  | false =>
    have HF : Hid ((q : Int) = (m : Int)) := Lib.hid (by rw [HC.out, HE.out]; simp)
    go_wp2_with fail
    go_ret
    exact ⟨ret_num HF.out.symm, HB2.out⟩
  | true =>
    have HF : Hid ((q : Int) = (m : Int) + 1) := Lib.hid (by rw [HC.out, HE.out]; simp)
    go_wp2_with fail
    go_ret
    exact ⟨ret_num (by rw [HF.out]), HB2.out⟩

end Go.Proofs.Ythjafoacnfgjhac
