/-
  Whether no other node is under a node: the program's isAlone.
-/
import Derived.Test.YtpneflbnipefaabBehU
import Derived.Test.YtpneflbnipefaabGvT
import Derived.Deep.RegionHeld3
namespace Go.Proofs.Ytpneflbnipefaab
open Go.RowKit
set_option linter.unusedVariables false

set_option maxRecDepth 1000000 in
set_option maxHeartbeats 1000000 in
theorem isAlone_any (B : Nat) (a : Option Addr) (n c i : Nat) (t : List Nd) (ps : List Txt) (w : World) (hB : B ≤ w.heap.size) (h : Nds B w a n c t) (hn : n ≤ 1000) (ht : Tells t t.length ps) (hi : i < n) :
    Calls Try.prog 63 #[.agg #[.slice a n c], .int .i64 (i : Int)] w fun e w' => ∃ b : Nat, e = .returned (.bool (decide (b = i + 1))) ∧ Behind t ps i b ∧ Below w.heap.size w w' := by
  have hB1 : Below w.heap.size w (w.alloc (.cells #[.slice a n c] 31)) := (Below.refl _ _).alloc (Nat.le_refl _) _
  have cU : Hid (∀ W', Below w.heap.size w W' → Calls Try.prog 59 #[.agg #[.slice a n c], .int .i64 (i : Int)] W' fun e w' => ∃ b : Nat, e = .returned (.int .i64 (b : Int)) ∧ Behind t ps i b ∧ Below W'.heap.size W' w') := Lib.hid (fun W' k => behindUnder_any B a n c i t ps W' (Nat.le_trans hB k.size) (h.keep (k.mono hB)) hn ht hi)
  have HB1 := Lib.hid hB1
  have HLn := Lib.hid h.len
  clear hB h ht hB1
  go_enter Try.func63, Try.ntmps63
  go_wp2_with fail
  refine (cU.out _ HB1.out).mono ?_
  rintro e w2 ⟨b, rfl, hb, hb2⟩
  have HF := Lib.hid (And.intro hb (HB1.out.trans (hb2.mono HB1.out.size)))
  have hbn : b ≤ 1000 := by have := hb.le; have h7 := HLn.out; rw [h7] at this; omega
  have HD : Hid (((b : Int) == (i : Int) + 1) = decide (b = i + 1)) := Lib.hid (by
    rw [Bool.eq_iff_iff]
    simp
    omega)
  clear hb hb2
  go_wp2_with fail
  go_ret
  exact ⟨b, by rw [HD.out]; rfl, HF.out.1, HF.out.2⟩

end Go.Proofs.Ytpneflbnipefaab
