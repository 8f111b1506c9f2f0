/-
  IsFullCode: both functions answer the same.
-/
import Derived.Test.YthjafoacnfgjhaaLens10
namespace Go.Proofs.Ythjafoacnfgjhaa
open Go.RowKit
set_option linter.unusedVariables false

/-- a code is full -/
noncomputable def fullB (ss : List ByteArray) : Bool := cdB (txl ss) && decide (fillZ (lensZ (txl ss)) = 16384)

theorem strs_each {B : Nat} {w : World} {a : Option Addr} {n c : Nat} {ss : List ByteArray} (h : Strs B w a n c ss) : ∀ s ∈ ss, s.size ≤ 9223372036854775807 := h.each

set_option maxRecDepth 1000000 in
set_option maxHeartbeats 1000000 in
theorem specIsFullCode_any (a : Option Addr) (n c : Nat) (ss : List ByteArray) (w : World) (h : Strs w.heap.size w a n c ss) :
    Calls Try.prog 22 #[.slice a n c] w fun e w' => e = .returned (.tuple #[.bool (fullB ss), .bool (cdB (txl ss))]) ∧ Below w.heap.size w w' := by
  have cC0 := l10Code_any w.heap.size a n c ss w (Nat.le_refl _) h
  have L := h.len
  have H := Lib.hid h
  by_cases hc : cdB (txl ss) = true
  · have hn : n ≤ 12 := by have := (cdB_iff.1 hc).2.1; rw [txl_len, L] at this; exact this
    have HO := Lib.hid (lensZ_ok (cdB_iff.1 hc))
    have hf : fullB ss = decide (fillZ (lensZ (txl ss)) = 16384) := by unfold fullB; rw [hc]; simp
    rw [hc] at cC0
    rw [hc, hf]
    have cC := Lib.hid cC0
    obtain ⟨q, hq⟩ : ∃ q, fillZ (lensZ (txl ss)) = q := ⟨_, rfl⟩
    have HQ := Lib.hid hq
    rw [hq]
    obtain ⟨d, hd⟩ : ∃ d, (q == 16384) = d := ⟨_, rfl⟩
    have hd2 : decide (q = 16384) = d := by rw [← hd]; rfl
    rw [hd2]
    clear h hc hf cC0 hq L hd2
    go_enter Try.func22, Try.ntmps22
    go_wp2_with fail
    refine cC.out.mono ?_
    rintro e w1 ⟨rfl, hb1⟩
    have HB1 := Lib.hid hb1
    clear hb1
    go_wp2_with fail
    refine (l10Lengths_any w.heap.size a n c ss w1 HB1.out.size (H.out.keep HB1.out) (by omega)).mono ?_
    rintro e w2 ⟨v, rfl, hO, hb2⟩
    obtain ⟨a2, c2, rfl, hI⟩ := ints_of_own hO (lens_each H.out.each)
    have HB2 := Lib.hid (HB1.out.trans (hb2.mono HB1.out.size))
    have cF0 := l10Fill_any w2.heap.size a2 n c2 _ w2 (Nat.le_refl _) hI HO.out
    rw [HQ.out] at cF0
    have cF := Lib.hid cF0
    clear hO hb2 hI cF0
    go_wp2_with fail
    refine cF.out.mono ?_
    rintro e w' ⟨rfl, rfl⟩
    go_wp2_with fail
    go_ret2
    exact ⟨rfl, HB2.out⟩
  · have hc' : cdB (txl ss) = false := by simpa using hc
    have hf : fullB ss = false := by unfold fullB; rw [hc']; simp
    rw [hc'] at cC0
    rw [hc', hf]
    have cC := Lib.hid cC0
    clear h hc hf cC0 L hc'
    go_enter Try.func22, Try.ntmps22
    go_wp2_with fail
    refine cC.out.mono ?_
    rintro e w1 ⟨rfl, hb1⟩
    have HB1 := Lib.hid hb1
    clear hb1
    go_wp2_with fail
    go_ret2
    exact ⟨rfl, HB1.out⟩

set_option maxRecDepth 1000000 in
set_option maxHeartbeats 1000000 in
theorem implIsFullCode_any (a : Option Addr) (n c : Nat) (ss : List ByteArray) (w : World) (h : Strs w.heap.size w a n c ss) :
    Calls Try.prog 23 #[.slice a n c] w fun e w' => e = .returned (.tuple #[.bool (fullB ss), .bool (cdB (txl ss))]) ∧ Below w.heap.size w w' := by
  have cC0 := implIsCode_any w.heap.size a n c ss w (Nat.le_refl _) h
  have L := h.len
  have H := Lib.hid h
  by_cases hc : cdB (txl ss) = true
  · have hn : n ≤ 12 := by have := (cdB_iff.1 hc).2.1; rw [txl_len, L] at this; exact this
    have HO := Lib.hid (lensZ_ok (cdB_iff.1 hc))
    have hf : fullB ss = decide (fillZ (lensZ (txl ss)) = 16384) := by unfold fullB; rw [hc]; simp
    rw [hc] at cC0
    rw [hc, hf]
    have cC := Lib.hid cC0
    obtain ⟨q, hq⟩ : ∃ q, fillZ (lensZ (txl ss)) = q := ⟨_, rfl⟩
    have HQ := Lib.hid hq
    rw [hq]
    obtain ⟨d, hd⟩ : ∃ d, (q == 16384) = d := ⟨_, rfl⟩
    have hd2 : decide (q = 16384) = d := by rw [← hd]; rfl
    rw [hd2]
    clear h hc hf cC0 hq L hd2
    go_enter Try.func23, Try.ntmps23
    go_wp2_with fail
    refine cC.out.mono ?_
    rintro e w1 ⟨rfl, hb1⟩
    have HB1 := Lib.hid hb1
    clear hb1
    go_wp2_with fail
    refine (lengthsOf_any w.heap.size a n c ss w1 HB1.out.size (H.out.keep HB1.out) (by omega)).mono ?_
    rintro e w2 ⟨v, rfl, hO, hb2⟩
    obtain ⟨a2, c2, rfl, hI⟩ := ints_of_own hO (lens_each H.out.each)
    have HB2 := Lib.hid (HB1.out.trans (hb2.mono HB1.out.size))
    have cF0 := fillOfAll_any w2.heap.size a2 n c2 _ w2 (Nat.le_refl _) hI HO.out
    rw [HQ.out] at cF0
    have cF := Lib.hid cF0
    clear hO hb2 hI cF0
    go_wp2_with fail
    refine cF.out.mono ?_
    rintro e w' ⟨rfl, rfl⟩
    go_wp2_with fail
    go_ret2
    exact ⟨rfl, HB2.out⟩
  · have hc' : cdB (txl ss) = false := by simpa using hc
    have hf : fullB ss = false := by unfold fullB; rw [hc']; simp
    rw [hc'] at cC0
    rw [hc', hf]
    have cC := Lib.hid cC0
    clear h hc hf cC0 L hc'
    go_enter Try.func23, Try.ntmps23
    go_wp2_with fail
    refine cC.out.mono ?_
    rintro e w1 ⟨rfl, hb1⟩
    have HB1 := Lib.hid hb1
    clear hb1
    go_wp2_with fail
    go_ret2
    exact ⟨rfl, HB1.out⟩

theorem agreeIsFullCode (l : List ByteArray) (hl : l.length + (l.map (·.size)).sum ≤ 1048576) : ∃ (v ok : Bool),
    (∀ (W : World) (a : Option Addr) (n c : Nat), Strs W.heap.size W a n c l → Calls Try.prog 22 #[.slice a n c] W fun e w' => e = .returned (.tuple #[.bool v, .bool ok]) ∧ Below W.heap.size W w') ∧
    (∀ (W : World) (a : Option Addr) (n c : Nat), Strs W.heap.size W a n c l → Calls Try.prog 23 #[.slice a n c] W fun e w' => e = .returned (.tuple #[.bool v, .bool ok]) ∧ Below W.heap.size W w') :=
  ⟨fullB l, cdB (txl l), fun W a n c h => specIsFullCode_any a n c l W h, fun W a n c h => implIsFullCode_any a n c l W h⟩

end Go.Proofs.Ythjafoacnfgjhaa
