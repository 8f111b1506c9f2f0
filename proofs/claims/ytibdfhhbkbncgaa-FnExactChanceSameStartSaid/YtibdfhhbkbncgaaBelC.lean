/-
  How many words are under a node: the program's helper.
-/
import Derived.Test.YtibdfhhbkbncgaaBel
import Derived.Test.YtibdfhhbkbncgaaBehU
import Derived.Deep.RegionHeld3
namespace Go.Proofs.Ytibdfhhbkbncgaa
open Go.RowKit
set_option linter.unusedVariables false

set_option maxRecDepth 1000000 in
set_option maxHeartbeats 1000000 in
theorem countBelow_any (B : Nat) (a : Option Addr) (n c i : Nat) (t : List Nd) (ps : List Txt) (w : World) (hB : B ≤ w.heap.size) (h : Nds B w a n c t) (hv : Valid t ps) (hin : i < n) :
    Calls Try.prog 43 #[.agg #[.slice a n c], .int .i64 (i : Int)] w fun e w' => ∃ b, e = .returned (.int .i64 (ends ((t.take b).drop i) : Int)) ∧ Behind t ps i b ∧ Below w.heap.size w w' := by
  have L := Lib.hid h.len
  have C := h.cap
  have T := h.top
  have hn : n ≤ 481 := by have := hv.size; have := h.len; omega
  have HV := Lib.hid hv
  have HB1 : Hid (Below w.heap.size w (w.alloc (.cells #[.slice a n c] 31))) := Lib.hid ((Below.refl _ _).alloc (Nat.le_refl _) _)
  have hbx : (w.alloc (.cells #[.slice a n c] 31)).cell? ⟨w.heap.size, 0, none⟩ = some (.slice a n c) := by simp
  have hlt : w.heap.size < (w.alloc (.cells #[.slice a n c] 31)).heap.size := by simp
  have HN := Lib.hid ((h.mono hB).keep HB1.out)
  have cBi : Hid (∀ W, w.heap.size ≤ W.heap.size → Nds w.heap.size W a n c t → Calls Try.prog 64 #[.agg #[.slice a n c], .int .i64 (i : Int)] W fun e w' => ∃ b : Nat, e = .returned (.int .i64 (b : Int)) ∧ Behind t ps i b ∧ Below W.heap.size W w') := Lib.hid (fun W hW hN => behindUnder_any _ a n c i t ps W hW hN (by omega) HV.out.tells hin)
  clear h hB hv
  obtain ⟨b0, o0, _, _, _, e0, _, _, _, _, _, _, _⟩ := HN.out.elem i hin
  subst e0
  have hi0 : (0 : Int) ≤ (i : Int) := by omega
  have hne : ¬ c = i := by omega
  go_enter Try.func43, Try.ntmps43
  go_wp2_with fail
  go_region_held3 (fun w' => w'.cell? ⟨w.heap.size, 0, none⟩ = some (.slice (some ⟨b0, o0, none⟩) n c))
    (first
      | exact (hb4.cell (p := ⟨w.heap.size, 0, none⟩) (Nat.lt_of_lt_of_le hlt hb3.size)).trans ((hb3.cell (p := ⟨w.heap.size, 0, none⟩) hlt).trans hbx)
      | exact (hb3.cell (p := ⟨w.heap.size, 0, none⟩) hlt).trans hbx
      | exact hbx)
    (first
      | (go_at_call 64; refine (cBi.out _ (by exact HB1.out.drew.size) (by exact HN.out.keep ((Below.refl _ _).drew))).mono ?_; rintro e w3 ⟨bh, rfl, hBh, hb3⟩; have hbn : bh ≤ n := (by have h9 := hBh.le; have h8 := L.out; omega); have hib : i < bh := hBh.lt; have hbi0 : (i : Int) ≤ (bh : Int) := (by omega); have hbi1 : (bh : Int) ≤ (n : Int) := (by omega); have hbi2 : (bh : Int) ≤ (c : Int) := (by omega); obtain ⟨q, hq⟩ : ∃ q, ends ((t.take bh).drop i) = q := ⟨_, rfl⟩; have HE := Lib.hid hq; clear hq; have HBh := Lib.hid hBh; clear hBh; have N3 := Lib.hid ((HN.out.keep ((Below.refl _ _).drew.trans (hb3.mono HB1.out.drew.size))).sub (Nat.le_of_lt hib) hbn); have HB3 := Lib.hid (HB1.out.drew.trans (hb3.mono HB1.out.drew.size)))
      | (go_at_call 58; refine (countEnds_any w.heap.size _ _ _ ((t.take bh).drop i) _ (by exact HB3.out.size) (by exact N3.out) (by omega)).mono ?_; rw [HE.out]; rintro e w4 ⟨rfl, hb4⟩))
  go_wp2
  go_ret
  exact ⟨bh, ret_num (by rw [HE.out]), HBh.out, HB3.out.trans (hb4.mono HB3.out.size)⟩

end Go.Proofs.Ytibdfhhbkbncgaa
