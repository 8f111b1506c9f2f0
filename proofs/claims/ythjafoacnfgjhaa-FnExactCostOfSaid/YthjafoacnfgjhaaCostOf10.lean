/-
  CostOf: both functions answer the same.
-/
import Derived.Test.YthjafoacnfgjhaaLens10
import Derived.Test.YthjafoacnfgjhaaMin10
namespace Go.Proofs.Ythjafoacnfgjhaa
open Go.RowKit
set_option linter.unusedVariables false

theorem areWeights_any (B : Nat) (a : Option Addr) (n c : Nat) (l : List Int) (w : World) (hB : B ≤ w.heap.size) (h : Ints B w a n c l) :
    Calls Try.prog 38 #[.slice a n c] w fun e w' => e = .returned (.bool (nOk l 999)) ∧ w = w' := by
  have cA := Lib.hid (areOfSymbols_any B a n c l 999 w hB h)
  clear h
  go_enter Try.func38, Try.ntmps38
  go_wp2_with fail
  refine cA.out.mono ?_
  rintro e w' ⟨rfl, rfl⟩
  go_wp2_with fail
  go_ret
  exact ⟨rfl, rfl⟩

/-- what CostOf answers -/
noncomputable def costOk (ss : List ByteArray) (m : List Int) : Bool := cdB (txl ss) && nOk m 999 && decide (m.length = ss.length)
noncomputable def costV (ss : List ByteArray) (m : List Int) : Int := if costOk ss m = true then costZ (lensZ (txl ss)) m else 0

set_option maxRecDepth 1000000 in
set_option maxHeartbeats 1000000 in
theorem specCostOf_any (a a' : Option Addr) (n c n' c' : Nat) (ss : List ByteArray) (m : List Int) (w : World) (h : Strs w.heap.size w a n c ss) (h' : Ints w.heap.size w a' n' c' m) :
    Calls Try.prog 24 #[.slice a n c, .slice a' n' c'] w fun e w' => e = .returned (.tuple #[.int .i64 (costV ss m), .bool (costOk ss m)]) ∧ Below w.heap.size w w' := by
  have cC0 := l10Code_any w.heap.size a n c ss w (Nat.le_refl _) h
  have L := h.len
  have L' := h'.len
  have C := h.sl.cap
  have T := h.sl.top
  have C' := h'.sl.cap
  have T' := h'.sl.top
  have H := Lib.hid h
  have H' := Lib.hid h'
  clear h h'
  by_cases hok : costOk ss m = true
  · have hv : costV ss m = costZ (lensZ (txl ss)) m := by unfold costV; rw [if_pos hok]
    have hp := hok
    unfold costOk at hp
    simp only [Bool.and_eq_true, decide_eq_true_eq] at hp
    obtain ⟨⟨hc, hm⟩, hlen⟩ := hp
    have hnn : n' = n := by omega
    have hn : n ≤ 12 := by have := (cdB_iff.1 hc).2.1; rw [txl_len, L] at this; exact this
    have HO := Lib.hid (lensZ_ok (cdB_iff.1 hc))
    have HM := Lib.hid hm
    subst hnn
    rw [hc] at cC0
    rw [hok, hv]
    have cC := Lib.hid cC0
    have hne : ((n' : Int) != (n' : Int)) = false := by simp
    obtain ⟨q, hq⟩ : ∃ q, costZ (lensZ (txl ss)) m = q := ⟨_, rfl⟩
    have HQ := Lib.hid hq
    rw [hq]
    clear hc hm hok hv cC0 hq L L' hlen
    go_enter Try.func24, Try.ntmps24
    go_wp2_with fail
    refine cC.out.mono ?_
    rintro e w1 ⟨rfl, hb1⟩
    have HB1 := Lib.hid hb1
    have cN0 := l10Numbers_any w.heap.size a' n' c' m 999 w1 HB1.out.size (H'.out.keep HB1.out)
    rw [HM.out] at cN0
    have cN := Lib.hid cN0
    clear hb1 cN0
    go_wp2_with fail
    refine cN.out.mono ?_
    rintro e w1' ⟨rfl, rfl⟩
    go_wp2_with fail
    refine (l10Lengths_any w.heap.size a n' c ss w1 HB1.out.size (H.out.keep HB1.out) (by omega)).mono ?_
    rintro e w2 ⟨v, rfl, hO, hb2⟩
    obtain ⟨a2, c2, rfl, hI⟩ := ints_of_own hO (lens_each H.out.each)
    have HB2 := Lib.hid (HB1.out.trans (hb2.mono HB1.out.size))
    have cF0 := l10Cost_any w2.heap.size a2 a' n' c2 c' _ m w2 (Nat.le_refl _) hI ((H'.out.keep HB2.out).mono HB2.out.size) HO.out HM.out
    rw [HQ.out] at cF0
    have cF := Lib.hid cF0
    clear hO hb2 hI cF0
    go_wp2_with fail
    refine cF.out.mono ?_
    rintro e w3 ⟨rfl, hb3⟩
    have HB3 := Lib.hid (HB2.out.trans (hb3.mono HB2.out.size))
    clear hb3
    go_wp2_with fail
    go_ret2
    exact ⟨rfl, HB3.out⟩
  · have hok' : costOk ss m = false := by simpa using hok
    have hv : costV ss m = 0 := by unfold costV; rw [if_neg hok]
    rw [hok', hv]
    by_cases hc : cdB (txl ss) = true
    · rw [hc] at cC0
      have cC := Lib.hid cC0
      by_cases hm : nOk m 999 = true
      · have hnn : ¬ n' = n := by
          intro e
          apply hok
          unfold costOk
          rw [hc, hm]
          simp
          omega
        have hne : ((n' : Int) != (n : Int)) = true := by simp; omega
        have HM := Lib.hid hm
        clear hok hok' hv hc hm cC0 hnn L L'
        go_enter Try.func24, Try.ntmps24
        go_wp2_with fail
        refine cC.out.mono ?_
        rintro e w1 ⟨rfl, hb1⟩
        have HB1 := Lib.hid hb1
        have cN0 := l10Numbers_any w.heap.size a' n' c' m 999 w1 HB1.out.size (H'.out.keep HB1.out)
        rw [HM.out] at cN0
        have cN := Lib.hid cN0
        clear hb1 cN0
        go_wp2_with fail
        refine cN.out.mono ?_
        rintro e w1' ⟨rfl, rfl⟩
        go_wp2_with fail
        go_ret2
        exact ⟨rfl, HB1.out⟩
      · have hm' : nOk m 999 = false := by simpa using hm
        have HM := Lib.hid hm'
        clear hok hok' hv hc hm hm' cC0 L L'
        go_enter Try.func24, Try.ntmps24
        go_wp2_with fail
        refine cC.out.mono ?_
        rintro e w1 ⟨rfl, hb1⟩
        have HB1 := Lib.hid hb1
        have cN0 := l10Numbers_any w.heap.size a' n' c' m 999 w1 HB1.out.size (H'.out.keep HB1.out)
        rw [HM.out] at cN0
        have cN := Lib.hid cN0
        clear hb1 cN0
        go_wp2_with fail
        refine cN.out.mono ?_
        rintro e w1' ⟨rfl, rfl⟩
        go_wp2_with fail
        go_ret2
        exact ⟨rfl, HB1.out⟩
    · have hc' : cdB (txl ss) = false := by simpa using hc
      rw [hc'] at cC0
      have cC := Lib.hid cC0
      clear hok hok' hv hc hc' cC0 L L'
      go_enter Try.func24, Try.ntmps24
      go_wp2_with fail
      refine cC.out.mono ?_
      rintro e w1 ⟨rfl, hb1⟩
      have HB1 := Lib.hid hb1
      clear hb1
      go_wp2_with fail
      go_ret2
      exact ⟨rfl, HB1.out⟩

set_option maxRecDepth 1000000 in
set_option maxHeartbeats 1000000 in
theorem implCostOf_any (a a' : Option Addr) (n c n' c' : Nat) (ss : List ByteArray) (m : List Int) (w : World) (h : Strs w.heap.size w a n c ss) (h' : Ints w.heap.size w a' n' c' m) :
    Calls Try.prog 25 #[.slice a n c, .slice a' n' c'] w fun e w' => e = .returned (.tuple #[.int .i64 (costV ss m), .bool (costOk ss m)]) ∧ Below w.heap.size w w' := by
  have cC0 := implIsCode_any w.heap.size a n c ss w (Nat.le_refl _) h
  have L := h.len
  have L' := h'.len
  have C := h.sl.cap
  have T := h.sl.top
  have C' := h'.sl.cap
  have T' := h'.sl.top
  have H := Lib.hid h
  have H' := Lib.hid h'
  clear h h'
  by_cases hok : costOk ss m = true
  · have hv : costV ss m = costZ (lensZ (txl ss)) m := by unfold costV; rw [if_pos hok]
    have hp := hok
    unfold costOk at hp
    simp only [Bool.and_eq_true, decide_eq_true_eq] at hp
    obtain ⟨⟨hc, hm⟩, hlen⟩ := hp
    have hnn : n' = n := by omega
    have hn : n ≤ 12 := by have := (cdB_iff.1 hc).2.1; rw [txl_len, L] at this; exact this
    have HO := Lib.hid (lensZ_ok (cdB_iff.1 hc))
    have HM := Lib.hid hm
    subst hnn
    rw [hc] at cC0
    rw [hok, hv]
    have cC := Lib.hid cC0
    have hne : ((n' : Int) != (n' : Int)) = false := by simp
    obtain ⟨q, hq⟩ : ∃ q, costZ (lensZ (txl ss)) m = q := ⟨_, rfl⟩
    have HQ := Lib.hid hq
    rw [hq]
    clear hc hm hok hv cC0 hq L L' hlen
    go_enter Try.func25, Try.ntmps25
    go_wp2_with fail
    refine cC.out.mono ?_
    rintro e w1 ⟨rfl, hb1⟩
    have HB1 := Lib.hid hb1
    have cN0 := areWeights_any w.heap.size a' n' c' m w1 HB1.out.size (H'.out.keep HB1.out)
    rw [HM.out] at cN0
    have cN := Lib.hid cN0
    clear hb1 cN0
    go_wp2_with fail
    refine cN.out.mono ?_
    rintro e w1' ⟨rfl, rfl⟩
    go_wp2_with fail
    refine (lengthsOf_any w.heap.size a n' c ss w1 HB1.out.size (H.out.keep HB1.out) (by omega)).mono ?_
    rintro e w2 ⟨v, rfl, hO, hb2⟩
    obtain ⟨a2, c2, rfl, hI⟩ := ints_of_own hO (lens_each H.out.each)
    have HB2 := Lib.hid (HB1.out.trans (hb2.mono HB1.out.size))
    have cF0 := costOfLengths_any w2.heap.size a2 a' n' c2 c' _ m w2 (Nat.le_refl _) hI ((H'.out.keep HB2.out).mono HB2.out.size) HO.out HM.out
    rw [HQ.out] at cF0
    have cF := Lib.hid cF0
    clear hO hb2 hI cF0
    go_wp2_with fail
    refine cF.out.mono ?_
    rintro e w3 ⟨rfl, hb3⟩
    have HB3 := Lib.hid (HB2.out.trans (hb3.mono HB2.out.size))
    clear hb3
    go_wp2_with fail
    go_ret2
    exact ⟨rfl, HB3.out⟩
  · have hok' : costOk ss m = false := by simpa using hok
    have hv : costV ss m = 0 := by unfold costV; rw [if_neg hok]
    rw [hok', hv]
    by_cases hc : cdB (txl ss) = true
    · rw [hc] at cC0
      have cC := Lib.hid cC0
      by_cases hm : nOk m 999 = true
      · have hnn : ¬ n' = n := by
          intro e
          apply hok
          unfold costOk
          rw [hc, hm]
          simp
          omega
        have hne : ((n : Int) != (n' : Int)) = true := by simp; omega
        have HM := Lib.hid hm
        clear hok hok' hv hc hm cC0 hnn L L'
        go_enter Try.func25, Try.ntmps25
        go_wp2_with fail
        refine cC.out.mono ?_
        rintro e w1 ⟨rfl, hb1⟩
        have HB1 := Lib.hid hb1
        have cN0 := areWeights_any w.heap.size a' n' c' m w1 HB1.out.size (H'.out.keep HB1.out)
        rw [HM.out] at cN0
        have cN := Lib.hid cN0
        clear hb1 cN0
        go_wp2_with fail
        refine cN.out.mono ?_
        rintro e w1' ⟨rfl, rfl⟩
        go_wp2_with fail
        go_ret2
        exact ⟨rfl, HB1.out⟩
      · have hm' : nOk m 999 = false := by simpa using hm
        have HM := Lib.hid hm'
        clear hok hok' hv hc hm hm' cC0 L L'
        go_enter Try.func25, Try.ntmps25
        go_wp2_with fail
        refine cC.out.mono ?_
        rintro e w1 ⟨rfl, hb1⟩
        have HB1 := Lib.hid hb1
        have cN0 := areWeights_any w.heap.size a' n' c' m w1 HB1.out.size (H'.out.keep HB1.out)
        rw [HM.out] at cN0
        have cN := Lib.hid cN0
        clear hb1 cN0
        go_wp2_with fail
        refine cN.out.mono ?_
        rintro e w1' ⟨rfl, rfl⟩
        go_wp2_with fail
        go_ret2
        exact ⟨rfl, HB1.out⟩
    · have hc' : cdB (txl ss) = false := by simpa using hc
      rw [hc'] at cC0
      have cC := Lib.hid cC0
      clear hok hok' hv hc hc' cC0 L L'
      go_enter Try.func25, Try.ntmps25
      go_wp2_with fail
      refine cC.out.mono ?_
      rintro e w1 ⟨rfl, hb1⟩
      have HB1 := Lib.hid hb1
      clear hb1
      go_wp2_with fail
      go_ret2
      exact ⟨rfl, HB1.out⟩

theorem agreeCostOf (l : List ByteArray) (m : List Int) (hl : l.length + (l.map (·.size)).sum ≤ 1048576) (hm : m.length ≤ 1048576) : ∃ (v : Int) (ok : Bool),
    (∀ (W : World) (a : Option Addr) (n c : Nat), Strs W.heap.size W a n c l → ∀ (a' : Option Addr) (n' c' : Nat), Ints W.heap.size W a' n' c' m → Calls Try.prog 24 #[.slice a n c, .slice a' n' c'] W fun e w' => e = .returned (.tuple #[.int .i64 v, .bool ok]) ∧ Below W.heap.size W w') ∧
    (∀ (W : World) (a : Option Addr) (n c : Nat), Strs W.heap.size W a n c l → ∀ (a' : Option Addr) (n' c' : Nat), Ints W.heap.size W a' n' c' m → Calls Try.prog 25 #[.slice a n c, .slice a' n' c'] W fun e w' => e = .returned (.tuple #[.int .i64 v, .bool ok]) ∧ Below W.heap.size W w') :=
  ⟨costV l m, costOk l m, fun W a n c h a' n' c' h' => specCostOf_any a a' n c n' c' l m W h h', fun W a n c h a' n' c' h' => implCostOf_any a a' n c n' c' l m W h h'⟩

end Go.Proofs.Ythjafoacnfgjhaa
