/-
  Fatal and open nodes: the reference's tests and the program's.
-/
import Derived.Test.YtfehfjnmkaifbabGame11
import Derived.Test.YtfehfjnmkaifbabGoodC
import Derived.Deep.QuietTactic
import Derived.BigQuiet
import Derived.IntWalk
namespace Go.Proofs.Ytfehfjnmkaifbab
open Go.RowKit
set_option linter.unusedVariables false

theorem tx_size {s : ByteArray} {x : Txt} (h : tx s = x) : s.size = x.length := by rw [← h, tx_len]

set_option maxRecDepth 1000000 in
set_option maxHeartbeats 1000000 in
theorem l11Fatal_any (B : Nat) (a : Option Addr) (n c i m : Nat) (t : List Nd) (ps : List Txt) (w : World) (hB : B ≤ w.heap.size) (h : Nds B w a n c t) (hv : Valid t ps) (hi : i < n) (hm : m ≤ 6) :
    Calls Try.prog 38 #[.agg #[.slice a n c], .int .i64 (i : Int), .int .i64 (m : Int)] w fun e w' => e = .returned (.bool (fatB t ps m i)) ∧ Below w.heap.size w w' := by
  have L := Lib.hid h.len
  have C := h.cap
  have T := h.top
  have HB1 : Hid (Below w.heap.size w (w.alloc (.cells #[.slice a n c] 30))) := Lib.hid ((Below.refl _ _).alloc (Nat.le_refl _) _)
  have HN := Lib.hid (h.keep (HB1.out.mono hB))
  obtain ⟨_, x, _, hx⟩ := hv.tells.at (show i < t.length by have := L.out; omega)
  obtain ⟨b, o, l, p, e, rfl, hbB, hd, hl, hp, hc1, hc2, hc3⟩ := HN.out.elem i hi
  rw [fatB_at hd hx]
  have cP := Lib.hid (l2Prefix_any B (some ⟨b, o, none⟩) n c i t _ (Nat.le_trans hB HB1.out.size) HN.out hi)
  have HP : Hid (∀ s : ByteArray, PreOf t i s → (s.size : Int) = (x.length : Int)) := Lib.hid (fun s hs => by rw [tx_size (hs ps hv.tells hv.short x hx)])
  have hx12 := hv.short x (List.mem_of_getElem? hx)
  clear hx hd hv h
  simp only at hc3 ⊢
  cases e with
  | false =>
    go_enter Try.func38, Try.ntmps38
    go_wp2
    go_ret
    exact ⟨rfl, HB1.out⟩
  | true =>
    go_enter Try.func38, Try.ntmps38
    go_wp2_with (first
      | (go_at_call 39; refine cP.out.mono ?_; rintro e2 w2 ⟨s, rfl, hs13, hP, hb2⟩; have HS := Lib.hid (HP.out s hP)))
    go_ret
    refine ⟨?_, HB1.out.trans (hb2.mono HB1.out.size)⟩
    have h9 := HS.out
    refine ret_bool ?_
    rw [Bool.true_and]
    exact decide_eq_decide.2 (by omega)

set_option maxRecDepth 1000000 in
set_option maxHeartbeats 1000000 in
theorem isFatal_any (B : Nat) (a : Option Addr) (n c i m : Nat) (t : List Nd) (ps : List Txt) (w : World) (hB : B ≤ w.heap.size) (h : Nds B w a n c t) (hv : Valid t ps) (hi : i < n) (hm : m ≤ 6) :
    Calls Try.prog 41 #[.agg #[.slice a n c, .int .i64 (m : Int)], .int .i64 (i : Int)] w fun e w' => e = .returned (.bool (fatB t ps m i)) ∧ Below w.heap.size w w' := by
  have L := Lib.hid h.len
  have C := h.cap
  have T := h.top
  have HB1 : Hid (Below w.heap.size w (w.alloc (.cells #[.slice a n c, .int .i64 (m : Int)] 69))) := Lib.hid ((Below.refl _ _).alloc (Nat.le_refl _) _)
  have HN := Lib.hid (h.keep (HB1.out.mono hB))
  obtain ⟨_, x, _, hx⟩ := hv.tells.at (show i < t.length by have := L.out; omega)
  obtain ⟨b, o, l, p, e, rfl, hbB, hd, hl, hp, hc1, hc2, hc3⟩ := HN.out.elem i hi
  rw [fatB_at hd hx]
  have cP : Hid (∀ V, Below (w.heap.size + 1) (w.alloc (.cells #[.slice (some ⟨b, o, none⟩) n c, .int .i64 (m : Int)] 69)) V → Calls Try.prog 77 #[.slice (some ⟨b, o, none⟩) n c, .int .i64 (i : Int)] V fun e w' => e = .returned (.int .i64 (x.length : Int)) ∧ V = w') := Lib.hid (fun V hb => lettersTo_any B (some ⟨b, o, none⟩) n c i t.length t ps x V (by have := hb.size; simp at this; omega) (HN.out.keep (hb.mono (by omega))) hv.tells hx)
  have hx12 := hv.short x (List.mem_of_getElem? hx)
  obtain ⟨q, hq⟩ : ∃ q, x.length = q := ⟨_, rfl⟩
  rw [hq] at cP hx12 ⊢
  clear hx hd hv h hq
  simp only at hc3 ⊢
  cases e with
  | false =>
    go_enter Try.func41, Try.ntmps41
    go_wp2
    go_quiet (fail)
    go_wp2
    go_ret
    exact ⟨rfl, below_drewN HB1.out _⟩
  | true =>
    go_enter Try.func41, Try.ntmps41
    go_wp2
    go_quiet ((go_at_call 77; exact Calls.quiet_of_same ((cP.out _ (below_drewN (Below.refl _ _) _)).mono fun _ _ h => ⟨h.1, h.2.symm⟩)))
    go_wp2
    go_ret
    exact ⟨by simp, below_drewN HB1.out _⟩

end Go.Proofs.Ytfehfjnmkaifbab
