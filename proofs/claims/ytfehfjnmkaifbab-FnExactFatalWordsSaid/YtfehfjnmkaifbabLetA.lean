/-
  The program's letter of a node.
-/
import Derived.Test.YtfehfjnmkaifbabNds
namespace Go.Proofs.Ytfehfjnmkaifbab
open Go.RowKit
set_option linter.unusedVariables false

set_option maxRecDepth 1000000 in
set_option maxHeartbeats 1000000 in
theorem letterAt_raw (B : Nat) (a : Option Addr) (n c k : Nat) (t : List Nd) (d0 : Nd) (w : World) (hB : B ≤ w.heap.size) (h : Nds B w a n c t) (hd0 : t[k]? = some d0) (h0 : 0 ≤ d0.l) (h25 : d0.l ≤ 25) :
    Calls Try.prog 48 #[.agg #[.slice a n c], .int .i64 (k : Int)] w fun e w' => e = .returned (.int .u8 (97 + d0.l)) ∧ Below w.heap.size w w' := by
  have C := h.cap
  have T := h.top
  have L := h.len
  have hk : k < n := by have := (List.getElem?_eq_some_iff.1 hd0).1; omega
  have HB1 : Hid (Below w.heap.size w (w.alloc (.cells #[.slice a n c] 30))) := Lib.hid ((Below.refl _ _).alloc (Nat.le_refl _) _)
  have HN := Lib.hid (h.keep (HB1.out.mono hB))
  obtain ⟨b, o, l, p, e, rfl, hbB, hd, hl, hp, hc1, hc2, hc3⟩ := HN.out.elem k hk
  rw [hd0] at hd
  cases hd
  simp only at h0 h25 hc1 ⊢
  clear hd0 hc2 hc3 h L
  go_enter Try.func48, Try.ntmps48
  go_wp2
  go_ret
  exact ⟨rfl, HB1.out⟩

end Go.Proofs.Ytfehfjnmkaifbab
