/-
  The program's way of putting a word in below a twig.
-/
import Derived.Test.YtmgieahachphmaaKidBy
import Derived.Lib.OthersKept
namespace Go.Proofs.Ytmgieahachphmaa
open Go.RowKit
set_option linter.unusedVariables false

theorem tx_take1 {s : ByteArray} {k : Nat} (h : k < s.size) : (tx s).take (k + 1) = (tx s).take k ++ [s[k]] := by
  rw [List.take_succ_eq_append_getElem (by rw [tx_len]; exact h)]
  rfl

def PutPost (base : Nat) (w : World) (ps : List Txt) (en : Txt → Bool) (A : Txt → Nat) (x : Txt) (e : Ending) (w' : World) : Prop :=
  ∃ ps' A', e = .returned (.bool (!en x)) ∧ Twigs base w' ps' (fun z => decide (z = x) || en z) A' ∧ Asc ps' ∧ (∀ y, y ∈ ps' ↔ y ∈ ps ∨ y <+: x) ∧ A' [] = A [] ∧ Below base w w' ∧ Stays ps A ps' A' w w'

set_option maxRecDepth 1000000 in
set_option maxHeartbeats 1000000 in
theorem putTwig_any (base : Nat) (w : World) (ps : List Txt) (en : Txt → Bool) (A : Txt → Nat) (h : Twigs base w ps en A) (hbase : base ≤ w.heap.size) (ha : Asc ps) (s : ByteArray) (hs : okW s = true) (hen : ∀ z, z ∉ ps → en z = false) :
    Calls Try.prog 49 #[.pointer (some ⟨A [], 0, none⟩), .string s] w (PutPost base w ps en A (tx s)) := by
  have H := Lib.hid h
  have HBs := Lib.hid hbase
  have HEn := Lib.hid hen
  have HA := Lib.hid ha
  have HW := Lib.hid (okW_iff.1 hs)
  have hs12 : s.size ≤ 12 := by have := HW.out.1; rwa [tx_len] at this
  have HSp : Hid (Spare ps A w.heap.size) := Lib.hid (fun z hz => by have := h.lt hz; omega)
  clear h hbase hen ha hs
  go_enter Try.func49, Try.ntmps49
  go_wp2
  go_loopw [0] (fun g wr => ∃ (k : Nat) (psk : List Txt) (Ak : Txt → Nat), k ≤ s.size ∧ g = .pointer (some ⟨Ak ((tx s).take k), 0, none⟩) ∧ Hid (Twigs base wr psk en Ak) ∧ Hid (Asc psk) ∧ Hid (∀ y, y ∈ psk ↔ y ∈ ps ∨ ∃ q, q ≤ k ∧ y = (tx s).take q) ∧ Hid (Ak [] = A []) ∧ Hid (Below base w wr) ∧ Hid (Stays ps A psk Ak w wr) ∧ Hid (wr.heap[w.heap.size]? = some (.stringIter s k)) ∧ Hid (Spare psk Ak w.heap.size) ∧ w.heap.size < wr.heap.size) (fun _ wr => s.size - wr.iterPos w.heap.size)
  case atStart =>
    refine ⟨0, ps, A, Nat.zero_le _, by rw [List.take_zero], Lib.hid (H.out.keep fun x hx => ?_), HA, Lib.hid (fun y => ?_), Lib.hid rfl, Lib.hid ((Below.refl _ _).alloc HBs.out _), Lib.hid (fun k hk hs => ⟨Deep.blk_alloc_lt _ _ _ hk, hs⟩), Lib.hid (World.iter_heap w s 0), HSp, by simp [World.iter]⟩
    · exact Deep.blk_alloc_lt _ _ _ (H.out.lt hx)
    · constructor
      · exact .inl
      · rintro (h | ⟨q, hq, e⟩)
        · exact h
        · obtain rfl : q = 0 := by omega
          rw [e, List.take_zero]
          exact H.out.root
  case round =>
    obtain ⟨k, psk, Ak, hk, rfl, HT, HAk, HMem, HRoot, HBw, HSt, HIt, HSk, hzw⟩ := hrel
    have hpos0 : wr.iterPos w.heap.size = k := by simp [World.iterPos, HIt.out]
    have HP0 := Lib.hid hpos0
    clear hpos0
    have HIn : Hid ((tx s).take k ∈ psk) := Lib.hid ((HMem.out _).2 (.inr ⟨k, Nat.le_refl _, rfl⟩))
    have HEk : Hid (∀ z, z ∉ psk → en z = false) := Lib.hid (fun z hz => HEn.out z (fun hh => hz ((HMem.out z).2 (.inl hh))))
    by_cases hlt : k < s.size
    · have hlow := HW.out.2 s[k] (by
        have : s[k] = (tx s)[k]'(by rw [tx_len]; exact hlt) := rfl
        rw [this]; exact List.getElem_mem _)
      have h128 : s[k].toNat < 128 := by omega
      have hnx := fun ty => Lib.run_next_ascii_at (P := Try.prog) wr w.heap.size s k ty HIt.out hlt h128
      have HTk := Lib.hid (tx_take1 hlt)
      obtain ⟨W1, hW1⟩ : ∃ W1, wr.iterAt w.heap.size s (k + 1) = W1 := ⟨_, rfl⟩
      have HI1 : Hid (W1.heap[w.heap.size]? = some (.stringIter s (k + 1))) := Lib.hid (by rw [← hW1]; exact Lib.iterAt_heap wr _ s k (k + 1) HIt.out)
      have HT1 : Hid (Twigs base W1 psk en Ak) := Lib.hid (by rw [← hW1]; exact HT.out.keep fun x hx => Lib.iterAt_other wr _ _ s (k + 1) (HSk.out x hx))
      have HBw1 : Hid (Below base w W1) := Lib.hid (by rw [← hW1]; exact Lib.below_iterAt HBw.out HBs.out s (k + 1))
      have HSt1 : Hid (Stays ps A psk Ak w W1) := Lib.hid (by
        rw [← hW1]
        intro j hj hs
        exact ⟨(Lib.iterAt_other wr _ j s (k + 1) (by omega)).trans (HSt.out j hj hs).1, (HSt.out j hj hs).2⟩)
      have hs1 : w.heap.size < W1.heap.size := (Array.getElem?_eq_some_iff.1 HI1.out).1
      simp only [hW1] at hnx
      clear hW1
      have cK := Lib.hid (kidBy_any base W1 psk en Ak HT1.out (by have := HBs.out; omega) HAk.out ((tx s).take k) HIn.out s[k] hlow.1 hlow.2 (HEk.out _))
      obtain ⟨cn, hcn⟩ : ∃ cn : Int, (s[k].toNat : Int) = cn := ⟨_, rfl⟩
      have hcb : 97 ≤ cn ∧ cn ≤ 122 := by omega
      rw [hcn] at cK
      simp only [hcn] at hnx
      clear hcn hlow h128
      go_wp2_with (first | (go_at_call 68; refine cK.out.mono ?_; rintro en2 w2 ⟨A2, rfl, hT2, hA2, hb2, hSt2⟩; have HT2 := Lib.hid hT2; have HA2 := Lib.hid hA2; have HB2 := Lib.hid hb2; have HSt2 := Lib.hid hSt2; clear hT2 hA2 hb2 hSt2))
      obtain ⟨hi2, hsp2⟩ := HSt2.out _ hs1 HSk.out
      have HI2 : Hid (w2.heap[w.heap.size]? = some (.stringIter s (k + 1))) := Lib.hid (hi2.trans HI1.out)
      have HS2 := Lib.hid hsp2
      have hz2 : w.heap.size < w2.heap.size := Nat.lt_of_lt_of_le hs1 HB2.out.size
      clear hi2 hsp2
      go_roundw
      case rel =>
        refine ⟨k + 1, _, A2, by omega, by rw [HTk.out], HT2, Lib.hid (asc_put _ HAk.out), Lib.hid (fun y => ?_), Lib.hid ?_, Lib.hid (HBw1.out.trans HB2.out), Lib.hid (HSt1.out.trans HSt2.out HBw1.out.size), HI2, HS2, hz2⟩
        · rw [mem_put, HMem.out, ← HTk.out]
          constructor
          · rintro ((h | ⟨q, hq, e⟩) | h)
            · exact .inl h
            · exact .inr ⟨q, by omega, e⟩
            · exact .inr ⟨k + 1, Nat.le_refl _, h⟩
          · rintro (h | ⟨q, hq, e⟩)
            · exact .inl (.inl h)
            · by_cases hqk : q ≤ k
              · exact .inl (.inr ⟨q, hqk, e⟩)
              · obtain rfl : q = k + 1 := by omega
                exact .inr e
        · rw [HA2.out _ HT1.out.root, HRoot.out]
      case measure =>
        have e1 : w2.iterPos w.heap.size = k + 1 := by simp [World.iterPos, HI2.out]
        rw [HP0.out, e1]
        omega
    · have hnx := fun ty => Lib.run_next_end_at (P := Try.prog) wr w.heap.size s k ty HIt.out hlt
      have HX : Hid ((tx s).take k = tx s) := Lib.hid (List.take_of_length_le (by rw [tx_len]; omega))
      have hin := HIn.out
      rw [HX.out] at hin
      obtain ⟨kp, np, hTB, _, _⟩ := HT.out.spot _ hin
      have hc1 := hTB.c1
      have hf1 := hTB.free 1
      rw [← HX.out] at hc1 hf1
      rw [HX.out] at hc1 hf1 ⊢
      obtain ⟨r, hr⟩ : ∃ r, en (tx s) = r := ⟨_, rfl⟩
      have HR := Lib.hid hr
      rw [hr] at hc1
      have HIn2 := Lib.hid hin
      have hlow := HT.out.low _ hin
      have HMark := Lib.hid (HT.out.mark hin)
      have HLow := Lib.hid hlow
      clear hr hin hTB hlow
      go_wp2
      go_ret
      refine ⟨psk, Ak, ret_bool (by rw [HR.out]), HMark.out, HAk.out, fun y => ?_, HRoot.out, HBw.out.setCell HLow.out _, fun j hj hs => ?_⟩
      · rw [HMem.out]
        constructor
        · rintro (h | ⟨q, _, e⟩)
          · exact .inl h
          · rw [e]; exact .inr (List.take_prefix _ _)
        · rintro (h | h)
          · exact .inl h
          · refine .inr ⟨y.length, ?_, List.prefix_iff_eq_take.1 h⟩
            have := h.length_le
            rw [tx_len] at this
            omega
      · obtain ⟨h1, h2⟩ := HSt.out j hj hs
        exact ⟨(Deep.blk_setCell_other _ _ _ _ (fun e => h2 _ HIn2.out e.symm)).trans h1, h2⟩

end Go.Proofs.Ytmgieahachphmaa
