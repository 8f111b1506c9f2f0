/-
  The program's distance of two words.
-/
import Derived.Test.YtpneflbnipefaabDist
namespace Go.Proofs.Ytpneflbnipefaab
open Go.RowKit
set_option linter.unusedVariables false

theorem lev_row (x y : Txt) (i k : Nat) : lev x y (i + 1) (k + 1) = min (min (lev x y i k + mism x y i k) (lev x y (i + 1) k + 1)) (lev x y i (k + 1) + 1) := by rw [lev_ss]; omega

set_option maxRecDepth 1000000 in
set_option maxHeartbeats 2000000 in
theorem distance_any (a b : ByteArray) (w : World) (ha : a.size ≤ 12) (hb : b.size ≤ 12) (hla : ∀ k (h : k < a.size), (a[k]'h).toNat < 128) (hlb : ∀ k (h : k < b.size), (b[k]'h).toNat < 128) :
    Calls Try.prog 54 #[.string a, .string b] w fun e w' => e = .returned (.int .i64 (lev a.data.toList b.data.toList a.size b.size : Nat)) ∧ Below w.heap.size w w' := by
  obtain ⟨nn, hnn⟩ : ∃ nn, a.size + 1 = nn := ⟨_, rfl⟩
  have HNN := Lib.hid hnn
  have HLa := Lib.hid hla
  have HLb := Lib.hid hlb
  have cF := Lib.hid (firstRow_any a nn w hnn ha)
  obtain ⟨L, hL⟩ : ∃ L, lev a.data.toList b.data.toList = L := ⟨_, rfl⟩
  have HLz : Hid ((fun i => L i 0) = (fun k => k)) := Lib.hid (by rw [← hL]; exact funext (lev_z _ _))
  have HLle : Hid (∀ i k, L i k ≤ i + k) := Lib.hid (by rw [← hL]; exact lev_le _ _)
  have HLo : Hid (∀ k, L 0 k = k) := Lib.hid (by rw [← hL]; exact lev_o _ _)
  have HLs : Hid (∀ i k (h1 : i < a.size) (h2 : k < b.size), L (i + 1) (k + 1) = min (min (L i k + (if (a[i]'h1).toNat = (b[k]'h2).toNat then 0 else 1)) (L (i + 1) k + 1)) (L i (k + 1) + 1)) := Lib.hid (fun i k h1 h2 => by
    rw [← hL, lev_row]
    by_cases e : a[i].toNat = b[k].toNat
    · rw [if_pos e, mism_eq h1 h2 e]
    · rw [if_neg e, mism_ne h1 h2 e])
  rw [hL]
  obtain ⟨v, hv⟩ : ∃ v, L a.size b.size = v := ⟨_, rfl⟩
  have HV := Lib.hid hv
  rw [hv]
  clear hnn hla hlb hL hv
  go_enter Try.func54, Try.ntmps54
  go_wp2_with fail
  refine cF.out.mono ?_
  rintro e w1 ⟨rfl, hO, hB1⟩
  have HB1 := Lib.hid hB1
  have hlt1 := own_lt hO
  have HS1 : Hid (Sl w1.heap.size w1 (some ⟨w.heap.size, 0, none⟩) nn nn (irow (fun i => L i 0) nn)) := Lib.hid (by have := Sl.of_own hO; rwa [HLz.out])
  obtain ⟨g0, hg0⟩ : ∃ g0, w.heap.size = g0 := ⟨_, rfl⟩
  have HG0 := Lib.hid hg0
  rw [hg0] at HS1 ⊢
  clear hO hB1 hg0 cF
  go_wp2_with fail
  go_loopw [5, 7] (fun r l wr => ∃ (k g : Nat), k ≤ b.size ∧ r = .slice (some ⟨g, 0, none⟩) nn nn ∧ (∃ v : Value, l = v) ∧ Hid (Sl wr.heap.size wr (some ⟨g, 0, none⟩) nn nn (irow (fun i => L i k) nn)) ∧ Hid (wr.heap[w1.heap.size]? = some (.stringIter b k)) ∧ Hid (Below w.heap.size w wr)) (fun _ _ wr => b.size - wr.iterPos w1.heap.size)
  case atStart => exact ⟨0, g0, Nat.zero_le _, rfl, ⟨_, rfl⟩, Lib.hid ((HS1.out.keep ((Below.refl _ _).alloc (Nat.le_refl _) _)).mono (by show w1.heap.size ≤ (w1.alloc _).heap.size; simp)), Lib.hid (World.iter_heap w1 b 0), Lib.hid (HB1.out.alloc HB1.out.size _)⟩
  case round =>
    clear HS1
    obtain ⟨k, g, hk, rfl, ⟨v1, rfl⟩, HS, HIt, HBw⟩ := hrel
    have hpos0 : wr.iterPos w1.heap.size = k := by simp [World.iterPos, HIt.out]
    have HP0 := Lib.hid hpos0
    clear hpos0
    by_cases hlt : k < b.size
    · have hnx := fun ty => Lib.run_next_ascii_at (P := Try.prog) wr w1.heap.size b k ty HIt.out hlt (HLb.out k hlt)
      obtain ⟨W1, hW1⟩ : ∃ W1, wr.iterAt w1.heap.size b (k + 1) = W1 := ⟨_, rfl⟩
      have HI1 : Hid (W1.heap[w1.heap.size]? = some (.stringIter b (k + 1))) := Lib.hid (by rw [← hW1]; exact Lib.iterAt_heap wr _ b k (k + 1) HIt.out)
      have HB2 : Hid (Below w.heap.size w W1) := Lib.hid (by rw [← hW1]; exact Lib.below_iterAt HBw.out HB1.out.size b (k + 1))
      have HS1 : Hid (Sl W1.heap.size W1 (some ⟨g, 0, none⟩) nn nn (irow (fun i => L i k) nn)) := Lib.hid (by
        rw [← hW1]
        exact ⟨HS.out.len, HS.out.cap, HS.out.top, fun i u hu => by
          obtain ⟨b9, o9, e9, h9, hc9⟩ := HS.out.spot i u hu
          refine ⟨b9, o9, e9, by rw [Lib.iterAt_size]; exact h9, ?_⟩
          refine (World.cell?_of_block (a := ⟨b9, o9 + i, none⟩) (Lib.iterAt_other wr _ b9 b (k + 1) ?_)).trans hc9
          rintro rfl
          have := HIt.out
          simp [World.cell?, this] at hc9⟩)
      simp only [hW1] at hnx
      clear hW1
      have hsz := (Array.getElem?_eq_some_iff.1 HI1.out).1
      have cN := Lib.hid (nextRow_any W1.heap.size (some ⟨g, 0, none⟩) nn nn (fun i => L i k) (fun i => L i (k + 1)) a b[k].toNat W1 (Nat.le_refl _) HNN.out ha HLa.out HS1.out
        (fun i hi => by have := HLle.out i k; have := HNN.out; omega) (fun i hi => by have := HLle.out i (k + 1); have := HNN.out; omega) (by show L 0 (k + 1) = L 0 k + 1; rw [HLo.out, HLo.out]) (fun i hi => HLs.out i k hi hlt))
      obtain ⟨q, hq⟩ : ∃ q, b[k].toNat = q := ⟨_, rfl⟩
      simp only [hq] at hnx
      rw [hq] at cN
      clear hq
      go_wp2_with fail
      refine cN.out.mono ?_
      rintro e w2 ⟨rfl, hO2, hb2⟩
      have HI2 : Hid (w2.heap[w1.heap.size]? = some (.stringIter b (k + 1))) := Lib.hid ((hb2.block _ hsz).trans HI1.out)
      have HS2 := Lib.hid (Sl.of_own hO2)
      have HBw2 := Lib.hid (HB2.out.trans (hb2.mono HB2.out.size))
      clear hO2 hb2 cN
      go_wp2_with fail
      go_roundw
      case rel => exact ⟨k + 1, _, by omega, rfl, ⟨_, rfl⟩, HS2, HI2, HBw2⟩
      case measure =>
        have e1 : w2.iterPos w1.heap.size = k + 1 := by simp [World.iterPos, HI2.out]
        rw [HP0.out, e1]
        omega
    · have hnx := fun ty => Lib.run_next_end_at (P := Try.prog) wr w1.heap.size b k ty HIt.out hlt
      have e : k = b.size := by omega
      subst e
      have hna : a.size < nn := by have := HNN.out; omega
      obtain ⟨b1, o1, e1, _, hcA⟩ := HS.out.spot a.size _ (irow_at _ hna)
      injection e1 with e1; injection e1 with e1 e1'; subst e1; subst e1'
      have hi0 : (0 : Int) ≤ (a.size : Int) := by omega
      have hi1 : (a.size : Int) < (nn : Int) := by omega
      have hcA2 : wr.cell? ⟨g, a.size, none⟩ = some (.int .i64 (L a.size b.size : Nat)) := by have := hcA; rwa [Nat.zero_add] at this
      clear hcA
      rw [HV.out] at hcA2
      go_wp2_with fail
      go_ret
      exact ⟨rfl, HBw.out⟩

end Go.Proofs.Ytpneflbnipefaab
