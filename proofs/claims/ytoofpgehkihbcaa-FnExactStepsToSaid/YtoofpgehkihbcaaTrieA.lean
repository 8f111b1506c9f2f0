import Derived.Test.YtoofpgehkihbcaaTwig
import Derived.Deep.LoopGhost
import Derived.Lib.OthersKept
import Derived.Test.YtoofpgehkihbcaaKids
import Derived.Test.YtoofpgehkihbcaaLimbB
import Derived.Test.YtoofpgehkihbcaaOf
import Derived.Test.YtoofpgehkihbcaaMade
import Derived.Deep.DeepCutAuto

/-
  The program's search of a kid, which is put in if it is missing.
-/
namespace Go.Proofs.Ytoofpgehkihbcaa
open Go.RowKit
set_option linter.unusedVariables false

/-- no twig -/
def Spare (ps : List Txt) (A : Txt → Nat) (k : Nat) : Prop := ∀ z ∈ ps, A z ≠ k

/-- what is no twig stays as it is, and is no twig -/
def Stays (ps : List Txt) (A : Txt → Nat) (ps' : List Txt) (A' : Txt → Nat) (w w' : World) : Prop := ∀ k, k < w.heap.size → Spare ps A k → w'.heap[k]? = w.heap[k]? ∧ Spare ps' A' k

theorem Stays.refl (ps : List Txt) (A : Txt → Nat) (w : World) : Stays ps A ps A w w := fun _ _ h => ⟨rfl, h⟩

theorem Stays.trans {ps ps1 ps2 : List Txt} {A A1 A2 : Txt → Nat} {w w1 w2 : World} (h : Stays ps A ps1 A1 w w1) (k : Stays ps1 A1 ps2 A2 w1 w2) (hz : w.heap.size ≤ w1.heap.size) : Stays ps A ps2 A2 w w2 := fun j hj hs => by
  obtain ⟨h1, h2⟩ := h j hj hs
  obtain ⟨h3, h4⟩ := k j (Nat.lt_of_lt_of_le hj hz) h2
  exact ⟨h3.trans h1, h4⟩

theorem ret_ptr {a b : Option Addr} (h : b = a) : Ending.returned (.pointer a) = .returned (.pointer b) := by rw [h]

def KidPost (base : Nat) (w : World) (ps : List Txt) (en : Txt → Bool) (A : Txt → Nat) (x : Txt) (c : UInt8) (e : Ending) (w' : World) : Prop :=
  ∃ A', e = .returned (.pointer (some ⟨A' (x ++ [c]), 0, none⟩)) ∧ Twigs base w' (put ps (x ++ [c])) en A' ∧ (∀ z ∈ ps, A' z = A z) ∧ Below base w w' ∧ Stays ps A (put ps (x ++ [c])) A' w w'

theorem lnk_block {base : Nat} {w : World} {ps : List Txt} {en : Txt → Bool} {A : Txt → Nat} (h : Twigs base w ps en A) {x : Txt} (hx : x ∈ ps) {d : Option UInt8} (hd : ∀ e, d = some e → x ++ [e] ∈ ps) : base ≤ (lnk A x d).block ∧ (lnk A x d).block < w.heap.size := by
  cases d with
  | none => exact ⟨h.low x hx, h.lt hx⟩
  | some e => exact ⟨h.low _ (hd e rfl), h.lt (hd e rfl)⟩

set_option maxRecDepth 1000000 in
set_option maxHeartbeats 1000000 in
theorem kidBy_any (base : Nat) (w : World) (ps : List Txt) (en : Txt → Bool) (A : Txt → Nat) (h : Twigs base w ps en A) (hbase : base ≤ w.heap.size) (ha : Asc ps) (x : Txt) (hx : x ∈ ps) (c : UInt8) (h97 : 97 ≤ c.toNat) (h122 : c.toNat ≤ 122)
    (hen : x ++ [c] ∉ ps → en (x ++ [c]) = false) :
    Calls Try.prog 95 #[.pointer (some ⟨A x, 0, none⟩), .int .i64 ((c.toNat : Int) - 97)] w (KidPost base w ps en A x c) := by
  have H := Lib.hid h
  have HX := Lib.hid hx
  have HBs := Lib.hid hbase
  have HEn := Lib.hid hen
  have HA := Lib.hid ha
  clear h hx hbase hen ha
  obtain ⟨q, hq⟩ : ∃ q : Int, (c.toNat : Int) - 97 = q := ⟨_, rfl⟩
  have hq0 : 0 ≤ q := by omega
  have hq1 : q ≤ 25 := by omega
  rw [hq]
  have HQ := Lib.hid hq
  clear hq
  go_enter Try.func95, Try.ntmps95
  go_wp2
  go_loopg [5] 256 (fun g s wr => ∃ (d : Option UInt8) (L : Addr), s = .pointer (some L) ∧ Hid (lnk A x d = L) ∧ Hid (∀ e, d = some e → x ++ [e] ∈ ps ∧ e.toNat < c.toNat) ∧ Hid (g = 256 - loOf d) ∧ w = wr)
  case atStart => exact ⟨none, _, rfl, Lib.hid rfl, Lib.hid (by simp), Lib.hid rfl, rfl⟩
  case round =>
    obtain ⟨d, L, rfl, HL, HD, HG, rfl⟩ := hrel
    obtain ⟨p, ⟨o, hnk, hp⟩, hcell, hfr⟩ := H.out.link HX.out (d := d) (fun e he => (HD.out e he).1)
    rw [HL.out] at hcell hfr
    have HNk := Lib.hid hnk
    have hlo : loOf d ≤ c.toNat := by
      cases d with
      | none => exact Nat.zero_le _
      | some e => exact (HD.out e rfl).2
    clear hnk
    cases o with
    | none =>
      simp only [Option.map_none] at hp
      subst hp
      have hlb := (lnk_block H.out HX.out (d := d) (fun e he => (HD.out e he).1))
      rw [HL.out] at hlb
      have HNew := Lib.hid (H.out.grow HBs.out HX.out (c := c) (HNk.out c hlo) (HEn.out (HNk.out c hlo)) (fun e he => (HD.out e he).1) hlo HNk.out (by simp) rfl)
      rw [HL.out, HQ.out] at HNew
      simp only [Option.map_none] at HNew
      have HB2 : Hid (Below base w ((w.alloc (.cells #[.int .i64 q, .bool false, .pointer none, .pointer none] 114)).setCell L (.pointer (some ⟨w.heap.size, 0, none⟩)))) := Lib.hid (((Below.refl _ _).alloc HBs.out _).setCell hlb.1 _)
      have HUp : Hid (∀ z ∈ ps, upd A (x ++ [c]) w.heap.size z = A z) := Lib.hid (fun z hz => upd_of hz (HNk.out c hlo))
      have HSt : Hid (Stays ps A (put ps (x ++ [c])) (upd A (x ++ [c]) w.heap.size) w ((w.alloc (.cells #[.int .i64 q, .bool false, .pointer none, .pointer none] 114)).setCell L (.pointer (some ⟨w.heap.size, 0, none⟩)))) := Lib.hid (fun k hk hs => ⟨by
        have hlk : k ≠ L.block := fun e => by
          rw [← HL.out] at e
          cases d with
          | none => exact hs x HX.out e.symm
          | some f => exact hs _ (HD.out f rfl).1 e.symm
        rw [Deep.blk_setCell_other _ _ _ _ hlk, Deep.blk_alloc_lt _ _ _ hk], fun z hz => by
        rcases (mem_put _ _ _).1 hz with hz | rfl
        · rw [HUp.out z hz]; exact hs z hz
        · rw [upd_self]; omega⟩)
      have hc2 : (w.alloc (.cells #[.int .i64 q, .bool false, .pointer none, .pointer none] 114)).cell? L = some (.pointer none) := (World.cell?_alloc_lt w _ L hlb.2).trans hcell
      have hf2 : (w.alloc (.cells #[.int .i64 q, .bool false, .pointer none, .pointer none] 114)).frozen? L = false := (World.frozen?_alloc_old w _ _ (by omega)).trans hfr
      have hlbn : L.block ≠ w.heap.size := by omega
      clear hlb
      go_wp2
      go_ret
      exact ⟨upd A (x ++ [c]) w.heap.size, ret_ptr (by rw [upd_self]), HNew.out, HUp.out, HB2.out, HSt.out⟩
    | some e =>
      simp only [Option.map_some] at hp
      subst hp
      have he := HNk.out.2.1
      have hc0 := H.out.first he
      rw [letOf_snoc] at hc0
      obtain ⟨r, hr⟩ : ∃ r : Int, (e.toNat : Int) - 97 = r := ⟨_, rfl⟩
      rw [hr] at hc0
      have HE := Lib.hid he
      have HR := Lib.hid hr
      have he8 := e.toNat_lt
      have hr0 : -97 ≤ r := by omega
      have hr1 : r ≤ 255 := by omega
      clear he
      rcases Int.lt_trichotomy r q with hlt | heq | hgt
      · have hlt2 : e.toNat < c.toNat := by have := HQ.out; omega
        clear hr
        go_wp2
        go_roundg (256 - loOf (some e))
        case measure =>
          have h1 := HG.out
          have h2 := HNk.out.1
          simp only [loOf] at *
          omega
        case rel => exact ⟨some e, _, rfl, Lib.hid rfl, Lib.hid (fun e' he' => by cases he'; exact ⟨HE.out, hlt2⟩), Lib.hid rfl, rfl⟩
      · obtain rfl : e = c := UInt8.toNat_inj.1 (by have := HQ.out; omega)
        clear hr
        subst heq
        have HP := Lib.hid (put_mem HA.out HE.out)
        have hne : (r != r) = false := by simp
        go_wp2
        go_ret
        exact ⟨A, rfl, by rw [HP.out]; exact H.out, fun _ _ => rfl, Below.refl _ _, by rw [HP.out]; exact Stays.refl _ _ _⟩
      · have hgt2 : c.toNat < e.toNat := by have := HQ.out; omega
        have hgt' : ∀ f, some e = some f → c.toNat < f.toNat := fun f hf => by cases hf; exact hgt2
        have hy : x ++ [c] ∉ ps := HNk.out.2.2 c hlo hgt2
        have hlb := (lnk_block H.out HX.out (d := d) (fun e he => (HD.out e he).1))
        rw [HL.out] at hlb
        have HNew := Lib.hid (H.out.grow HBs.out HX.out (c := c) hy (HEn.out hy) (fun e he => (HD.out e he).1) hlo HNk.out hgt' rfl)
        rw [HL.out, HQ.out] at HNew
        simp only [Option.map_some] at HNew
        have HB2 : Hid (Below base w ((w.alloc (.cells #[.int .i64 q, .bool false, .pointer none, .pointer (some ⟨A (x ++ [e]), 0, none⟩)] 114)).setCell L (.pointer (some ⟨w.heap.size, 0, none⟩)))) := Lib.hid (((Below.refl _ _).alloc HBs.out _).setCell hlb.1 _)
        have HUp : Hid (∀ z ∈ ps, upd A (x ++ [c]) w.heap.size z = A z) := Lib.hid (fun z hz => upd_of hz hy)
        have HSt : Hid (Stays ps A (put ps (x ++ [c])) (upd A (x ++ [c]) w.heap.size) w ((w.alloc (.cells #[.int .i64 q, .bool false, .pointer none, .pointer (some ⟨A (x ++ [e]), 0, none⟩)] 114)).setCell L (.pointer (some ⟨w.heap.size, 0, none⟩)))) := Lib.hid (fun k hk hs => ⟨by
          have hlk : k ≠ L.block := fun e => by
            rw [← HL.out] at e
            cases d with
            | none => exact hs x HX.out e.symm
            | some f => exact hs _ (HD.out f rfl).1 e.symm
          rw [Deep.blk_setCell_other _ _ _ _ hlk, Deep.blk_alloc_lt _ _ _ hk], fun z hz => by
          rcases (mem_put _ _ _).1 hz with hz | rfl
          · rw [HUp.out z hz]; exact hs z hz
          · rw [upd_self]; omega⟩)
        have hc2 : (w.alloc (.cells #[.int .i64 q, .bool false, .pointer none, .pointer (some ⟨A (x ++ [e]), 0, none⟩)] 114)).cell? L = some (.pointer (some ⟨A (x ++ [e]), 0, none⟩)) := (World.cell?_alloc_lt w _ L hlb.2).trans hcell
        have hf2 : (w.alloc (.cells #[.int .i64 q, .bool false, .pointer none, .pointer (some ⟨A (x ++ [e]), 0, none⟩)] 114)).frozen? L = false := (World.frozen?_alloc_old w _ _ (by omega)).trans hfr
        have hlbn : L.block ≠ w.heap.size := by omega
        clear hlb hr hy hgt' hlbn
        have hlt : ¬ (r < q) := by omega
        have hne : (r != q) = true := by simp; omega
        go_wp2
        go_ret
        exact ⟨upd A (x ++ [c]) w.heap.size, ret_ptr (by rw [upd_self]), HNew.out, HUp.out, HB2.out, HSt.out⟩

end Go.Proofs.Ytoofpgehkihbcaa

/-
  The program's way of putting a word in below a twig.
-/
namespace Go.Proofs.Ytoofpgehkihbcaa
open Go.RowKit
set_option linter.unusedVariables false

theorem tx_take1 {s : ByteArray} {k : Nat} (h : k < s.size) : (tx s).take (k + 1) = (tx s).take k ++ [s[k]] := by
  rw [List.take_succ_eq_append_getElem (by rw [tx_len]; exact h)]
  rfl

def PutPost (base : Nat) (w : World) (ps : List Txt) (en : Txt → Bool) (A : Txt → Nat) (x : Txt) (e : Ending) (w' : World) : Prop :=
  ∃ ps' A', e = .returned (.bool (!en x)) ∧ Twigs base w' ps' (fun z => decide (z = x) || en z) A' ∧ Asc ps' ∧ (∀ y, y ∈ ps' ↔ y ∈ ps ∨ y <+: x) ∧ A' [] = A [] ∧ Below base w w' ∧ Stays ps A ps' A' w w'

set_option maxRecDepth 1000000 in
set_option maxHeartbeats 1000000 in
theorem putTwig_any (base : Nat) (w : World) (ps : List Txt) (en : Txt → Bool) (A : Txt → Nat) (h : Twigs base w ps en A) (hbase : base ≤ w.heap.size) (ha : Asc ps) (s : ByteArray) (hs : okW s = true) (hen : ∀ z, z ∉ ps → en z = false) :
    Calls Try.prog 90 #[.pointer (some ⟨A [], 0, none⟩), .string s] w (PutPost base w ps en A (tx s)) := by
  have H := Lib.hid h
  have HBs := Lib.hid hbase
  have HEn := Lib.hid hen
  have HA := Lib.hid ha
  have HW := Lib.hid (okW_iff.1 hs)
  have hs12 : s.size ≤ 12 := by have := HW.out.1; rwa [tx_len] at this
  have HSp : Hid (Spare ps A w.heap.size) := Lib.hid (fun z hz => by have := h.lt hz; omega)
  clear h hbase hen ha hs
  go_enter Try.func90, Try.ntmps90
  go_wp2
  go_loopw [0] (fun g wr => ∃ (k : Nat) (psk : List Txt) (Ak : Txt → Nat), k ≤ s.size ∧ g = .pointer (some ⟨Ak ((tx s).take k), 0, none⟩) ∧ Hid (Twigs base wr psk en Ak) ∧ Hid (Asc psk) ∧ Hid (∀ y, y ∈ psk ↔ y ∈ ps ∨ ∃ q, q ≤ k ∧ y = (tx s).take q) ∧ Hid (Ak [] = A []) ∧ Hid (Below base w wr) ∧ Hid (Stays ps A psk Ak w wr) ∧ Hid (wr.heap[w.heap.size]? = some (.stringIter s k)) ∧ Hid (Spare psk Ak w.heap.size) ∧ w.heap.size < wr.heap.size) (fun _ wr => s.size - wr.iterPos w.heap.size)
  case atStart =>
    refine ⟨0, ps, A, Nat.zero_le _, by rw [List.take_zero], Lib.hid (H.out.keep fun x hx => ?_), HA, Lib.hid (fun y => ?_), Lib.hid rfl, Lib.hid ((Below.refl _ _).alloc HBs.out _), Lib.hid (fun k hk hs => ⟨Deep.blk_alloc_lt _ _ _ hk, hs⟩), Lib.hid (World.iter_heap w s 0), HSp, by simp [World.iter]⟩
    · exact Deep.blk_alloc_lt _ _ _ (H.out.lt hx)
    · constructor
      · exact .inl
      · rintro (h | ⟨q, hq, e⟩)
        · exact h
        · obtain rfl : q = 0 := by omega
          rw [e, List.take_zero]
          exact H.out.root
  case round =>
    obtain ⟨k, psk, Ak, hk, rfl, HT, HAk, HMem, HRoot, HBw, HSt, HIt, HSk, hzw⟩ := hrel
    have hpos0 : wr.iterPos w.heap.size = k := by simp [World.iterPos, HIt.out]
    have HP0 := Lib.hid hpos0
    clear hpos0
    have HIn : Hid ((tx s).take k ∈ psk) := Lib.hid ((HMem.out _).2 (.inr ⟨k, Nat.le_refl _, rfl⟩))
    have HEk : Hid (∀ z, z ∉ psk → en z = false) := Lib.hid (fun z hz => HEn.out z (fun hh => hz ((HMem.out z).2 (.inl hh))))
    by_cases hlt : k < s.size
    · have hlow := HW.out.2 s[k] (by
        have : s[k] = (tx s)[k]'(by rw [tx_len]; exact hlt) := rfl
        rw [this]; exact List.getElem_mem _)
      have h128 : s[k].toNat < 128 := by omega
      have hnx := fun ty => Lib.run_next_ascii_at (P := Try.prog) wr w.heap.size s k ty HIt.out hlt h128
      have HTk := Lib.hid (tx_take1 hlt)
      obtain ⟨W1, hW1⟩ : ∃ W1, wr.iterAt w.heap.size s (k + 1) = W1 := ⟨_, rfl⟩
      have HI1 : Hid (W1.heap[w.heap.size]? = some (.stringIter s (k + 1))) := Lib.hid (by rw [← hW1]; exact Lib.iterAt_heap wr _ s k (k + 1) HIt.out)
      have HT1 : Hid (Twigs base W1 psk en Ak) := Lib.hid (by rw [← hW1]; exact HT.out.keep fun x hx => Lib.iterAt_other wr _ _ s (k + 1) (HSk.out x hx))
      have HBw1 : Hid (Below base w W1) := Lib.hid (by rw [← hW1]; exact Lib.below_iterAt HBw.out HBs.out s (k + 1))
      have HSt1 : Hid (Stays ps A psk Ak w W1) := Lib.hid (by
        rw [← hW1]
        intro j hj hs
        exact ⟨(Lib.iterAt_other wr _ j s (k + 1) (by omega)).trans (HSt.out j hj hs).1, (HSt.out j hj hs).2⟩)
      have hs1 : w.heap.size < W1.heap.size := (Array.getElem?_eq_some_iff.1 HI1.out).1
      simp only [hW1] at hnx
      clear hW1
      have cK := Lib.hid (kidBy_any base W1 psk en Ak HT1.out (by have := HBs.out; omega) HAk.out ((tx s).take k) HIn.out s[k] hlow.1 hlow.2 (HEk.out _))
      obtain ⟨cn, hcn⟩ : ∃ cn : Int, (s[k].toNat : Int) = cn := ⟨_, rfl⟩
      have hcb : 97 ≤ cn ∧ cn ≤ 122 := by omega
      rw [hcn] at cK
      simp only [hcn] at hnx
      clear hcn hlow h128
      go_wp2_with (first | (go_at_call 95; refine cK.out.mono ?_; rintro en2 w2 ⟨A2, rfl, hT2, hA2, hb2, hSt2⟩; have HT2 := Lib.hid hT2; have HA2 := Lib.hid hA2; have HB2 := Lib.hid hb2; have HSt2 := Lib.hid hSt2; clear hT2 hA2 hb2 hSt2))
      obtain ⟨hi2, hsp2⟩ := HSt2.out _ hs1 HSk.out
      have HI2 : Hid (w2.heap[w.heap.size]? = some (.stringIter s (k + 1))) := Lib.hid (hi2.trans HI1.out)
      have HS2 := Lib.hid hsp2
      have hz2 : w.heap.size < w2.heap.size := Nat.lt_of_lt_of_le hs1 HB2.out.size
      clear hi2 hsp2
      go_roundw
      case rel =>
        refine ⟨k + 1, _, A2, by omega, by rw [HTk.out], HT2, Lib.hid (asc_put _ HAk.out), Lib.hid (fun y => ?_), Lib.hid ?_, Lib.hid (HBw1.out.trans HB2.out), Lib.hid (HSt1.out.trans HSt2.out HBw1.out.size), HI2, HS2, hz2⟩
        · rw [mem_put, HMem.out, ← HTk.out]
          constructor
          · rintro ((h | ⟨q, hq, e⟩) | h)
            · exact .inl h
            · exact .inr ⟨q, by omega, e⟩
            · exact .inr ⟨k + 1, Nat.le_refl _, h⟩
          · rintro (h | ⟨q, hq, e⟩)
            · exact .inl (.inl h)
            · by_cases hqk : q ≤ k
              · exact .inl (.inr ⟨q, hqk, e⟩)
              · obtain rfl : q = k + 1 := by omega
                exact .inr e
        · rw [HA2.out _ HT1.out.root, HRoot.out]
      case measure =>
        have e1 : w2.iterPos w.heap.size = k + 1 := by simp [World.iterPos, HI2.out]
        rw [HP0.out, e1]
        omega
    · have hnx := fun ty => Lib.run_next_end_at (P := Try.prog) wr w.heap.size s k ty HIt.out hlt
      have HX : Hid ((tx s).take k = tx s) := Lib.hid (List.take_of_length_le (by rw [tx_len]; omega))
      have hin := HIn.out
      rw [HX.out] at hin
      obtain ⟨kp, np, hTB, _, _⟩ := HT.out.spot _ hin
      have hc1 := hTB.c1
      have hf1 := hTB.free 1
      rw [← HX.out] at hc1 hf1
      rw [HX.out] at hc1 hf1 ⊢
      obtain ⟨r, hr⟩ : ∃ r, en (tx s) = r := ⟨_, rfl⟩
      have HR := Lib.hid hr
      rw [hr] at hc1
      have HIn2 := Lib.hid hin
      have hlow := HT.out.low _ hin
      have HMark := Lib.hid (HT.out.mark hin)
      have HLow := Lib.hid hlow
      clear hr hin hTB hlow
      go_wp2
      go_ret
      refine ⟨psk, Ak, ret_bool (by rw [HR.out]), HMark.out, HAk.out, fun y => ?_, HRoot.out, HBw.out.setCell HLow.out _, fun j hj hs => ?_⟩
      · rw [HMem.out]
        constructor
        · rintro (h | ⟨q, _, e⟩)
          · exact .inl h
          · rw [e]; exact .inr (List.take_prefix _ _)
        · rintro (h | h)
          · exact .inl h
          · refine .inr ⟨y.length, ?_, List.prefix_iff_eq_take.1 h⟩
            have := h.length_le
            rw [tx_len] at this
            omega
      · obtain ⟨h1, h2⟩ := HSt.out j hj hs
        exact ⟨(Deep.blk_setCell_other _ _ _ _ (fun e => h2 _ HIn2.out e.symm)).trans h1, h2⟩

end Go.Proofs.Ytoofpgehkihbcaa

/-
  The text of a node and how long it can be: plain mathematics.
-/
namespace Go.Proofs.Ytoofpgehkihbcaa
set_option linter.unusedVariables false

/-- each node has a place behind all that is under it -/
theorem behind_ex {t : List Nd} {ps : List Txt} (h : Tells t t.length ps) {i : Nat} (hi : i < t.length) : ∃ b, Behind t ps i b := by
  obtain ⟨_, x, _, hx⟩ := h.at hi
  have key : ∀ (f k : Nat), t.length ≤ k + f → i < k → k ≤ t.length → (∀ (m : Nat) (z : Txt), i < m → m < k → ps[m]? = some z → x <+: z) → ∃ b, Behind t ps i b := by
    intro f
    induction f with
    | zero =>
      intro k hf hik hk ha
      refine ⟨k, hik, hk, fun x' hx' m z h1 h2 h3 => ?_, fun x' y' _ hy' => ?_⟩
      · rw [hx] at hx'
        rw [← Option.some.inj hx']
        exact ha m z h1 h2 h3
      · have := (List.getElem?_eq_some_iff.1 hy').1
        have := h.len
        omega
    | succ f ih =>
      intro k hf hik hk ha
      by_cases hkl : k < t.length
      · obtain ⟨_, y, _, hy⟩ := h.at hkl
        by_cases hp : x <+: y
        · refine ih (k + 1) (by omega) (by omega) (by omega) (fun m z h1 h2 h3 => ?_)
          by_cases e : m = k
          · subst e
            rw [hy] at h3
            rw [← Option.some.inj h3]
            exact hp
          · exact ha m z h1 (by omega) h3
        · refine ⟨k, hik, hk, fun x' hx' m z h1 h2 h3 => ?_, fun x' y' hx' hy' hh => ?_⟩
          · rw [hx] at hx'
            rw [← Option.some.inj hx']
            exact ha m z h1 h2 h3
          · rw [hx] at hx'
            rw [hy] at hy'
            rw [← Option.some.inj hx', ← Option.some.inj hy'] at hh
            exact hp hh
      · exact ih k (by omega) hik hk ha
  exact key t.length (i + 1) (by omega) (by omega) (by omega) (fun m z h1 h2 => by omega)

/-- the text of a node, with so much fuel -/
def txtOf (t : List Nd) : Nat → Nat → Txt
  | 0, _ => []
  | f + 1, i => match t[i]? with
    | none => []
    | some d => (if i = 0 then [] else [UInt8.ofNat (97 + d.l).toNat]) ++ (if d.e then [46] else []) ++
        (if (kidsTo t i t.length).length = 0 then [] else [40] ++ (kidsTo t i t.length).flatMap (txtOf t f) ++ [41])

/-- the texts of the kids among the first k nodes -/
def txtKids (t : List Nd) (f i k : Nat) : Txt := (kidsTo t i k).flatMap (txtOf t f)

theorem txtKids_low (t : List Nd) (f i : Nat) : txtKids t f i (i + 1) = [] := by simp [txtKids, kidsTo_low]

theorem txt_bound {t : List Nd} {ps : List Txt} (h : Tells t t.length ps) : ∀ (f i b : Nat), Behind t ps i b → (txtOf t f i).length ≤ 4 * (b - i)
  | 0, i, b, _ => by simp [txtOf]
  | f + 1, i, b, hb => by
    have hi : i < t.length := by have := hb.lt; have := hb.le; omega
    obtain ⟨d, x, hd, hx⟩ := h.at hi
    have hib := hb.lt
    -- the kids' texts, stretch by stretch
    have key : ∀ (g k : Nat), t.length ≤ k + g → i < k → k ≤ b → KidAt t ps i k → (txtKids t f i k).length ≤ 4 * (k - i - 1) → (txtKids t f i t.length).length ≤ 4 * (b - i - 1) := by
      intro g
      induction g with
      | zero =>
        intro k hg hik hkb _ hl
        have : k = t.length := by have := hb.le; omega
        rw [this] at hl
        have := hb.le
        omega
      | succ g ih =>
        intro k hg hik hkb hK hl
        by_cases hkl : k < t.length
        · obtain ⟨dk, y, hdk, hy⟩ := h.at hkl
          by_cases hp : dk.p = (i : Int)
          · obtain ⟨b2, hb2⟩ := behind_ex h hkl
            have hkb2 := hb2.lt
            obtain ⟨c, hyc⟩ := (par_iff h hx (by omega) hdk).1 hp
            have hb2b : b2 ≤ b := by
              by_cases hle : b2 ≤ b
              · exact hle
              · exfalso
                have hbl : b < t.length := by have := hb2.le; omega
                obtain ⟨_, z, _, hz⟩ := h.at hbl
                have hkb' : k ≠ b := by
                  rintro rfl
                  exact hb.stop x _ hx hyc (List.prefix_append _ _)
                have h1 := hb2.all _ hyc b z (by omega) (by omega) hz
                exact hb.stop x z hx hz ((List.prefix_append _ _).trans h1)
            have hkids : kidsTo t i b2 = kidsTo t i k ++ [k] := by
              rw [kidsTo_skip (k + 1) b2 (by omega) (fun m d h1 h2 h3 h4 => not_kid h hik hdk hp hb2 (by omega) h2 h3 h4.2), kidsTo_hit hdk hik hp]
            have hlen : (txtKids t f i b2).length ≤ 4 * (b2 - i - 1) := by
              have e : txtKids t f i b2 = txtKids t f i k ++ txtOf t f k := by
                unfold txtKids
                rw [hkids, List.flatMap_append]
                simp
              rw [e, List.length_append]
              have := txt_bound h f k b2 hb2
              omega
            exact ih b2 (by omega) (by omega) hb2b (kidAt_next h hik hdk hp hb2) hlen
          · have hsk : kidsTo t i t.length = kidsTo t i k := kidsTo_skip k t.length (by omega) (fun m d h1 h2 h3 h4 => no_more h hik hK hdk hp h1 h3 h4.2)
            have e : txtKids t f i t.length = txtKids t f i k := by unfold txtKids; rw [hsk]
            rw [e]
            omega
        · have e : k = t.length := by have := hb.le; omega
          rw [e] at hl
          have := hb.le
          omega
    have hk := key t.length (i + 1) (by omega) (by omega) (by omega) (kidAt_first h i) (by rw [txtKids_low]; simp)
    unfold txtKids at hk
    have hL1 : ((if i = 0 then [] else [UInt8.ofNat (97 + d.l).toNat] : Txt)).length ≤ 1 := by split <;> simp
    have hL2 : ((if d.e then [46] else [] : Txt)).length ≤ 1 := by split <;> simp
    have hL3 : ((if (kidsTo t i t.length).length = 0 then [] else [40] ++ (kidsTo t i t.length).flatMap (txtOf t f) ++ [41] : Txt)).length ≤ 4 * (b - i - 1) + 2 := by
      split
      · simp
      · simp only [List.length_append, List.length_cons, List.length_nil]
        omega
    have e : txtOf t (f + 1) i = ((if i = 0 then [] else [UInt8.ofNat (97 + d.l).toNat]) ++ (if d.e then [46] else []) ++
        (if (kidsTo t i t.length).length = 0 then [] else [40] ++ (kidsTo t i t.length).flatMap (txtOf t f) ++ [41])) := by
      simp only [txtOf, hd]
    rw [e]
    simp only [List.length_append] at hL1 hL2 hL3 ⊢
    omega

/-- what stands ahead of the kids' texts -/
def headOf (d : Nd) (i : Nat) : Txt := (if i = 0 then [] else [UInt8.ofNat (97 + d.l).toNat]) ++ (if d.e then [46] else [])

theorem txtOf_leaf {t : List Nd} {f i : Nat} {d : Nd} (hd : t[i]? = some d) (hk : kidsTo t i t.length = []) : txtOf t (f + 1) i = headOf d i := by
  simp [txtOf, hd, hk, headOf]
theorem txtOf_kids {t : List Nd} {f i : Nat} {d : Nd} (hd : t[i]? = some d) (hk : kidsTo t i t.length ≠ []) : txtOf t (f + 1) i = headOf d i ++ [40] ++ (kidsTo t i t.length).flatMap (txtOf t f) ++ [41] := by
  have h0 : ¬ (kidsTo t i t.length).length = 0 := fun h => hk (List.eq_nil_of_length_eq_zero h)
  simp [txtOf, hd, h0, headOf]

/-- the beginning of a text up to the k-th kid -/
def upTo (t : List Nd) (f i : Nat) (d : Nd) (k : Nat) : Txt := headOf d i ++ [40] ++ ((kidsTo t i t.length).take k).flatMap (txtOf t f)

theorem upTo_succ {t : List Nd} {f i k j : Nat} {d : Nd} (h : (kidsTo t i t.length)[k]? = some j) : upTo t f i d (k + 1) = upTo t f i d k ++ txtOf t f j := by
  obtain ⟨hk, e⟩ := List.getElem?_eq_some_iff.1 h
  unfold upTo
  rw [List.take_succ_eq_append_getElem hk, List.flatMap_append, e]
  simp
theorem upTo_all {t : List Nd} {f i k : Nat} {d : Nd} (hd : t[i]? = some d) (hk : kidsTo t i t.length ≠ []) (h : (kidsTo t i t.length).length ≤ k) : upTo t f i d k ++ [41] = txtOf t (f + 1) i := by
  rw [txtOf_kids hd hk]
  unfold upTo
  rw [List.take_of_length_le h]
theorem upTo_len {t : List Nd} {f i k : Nat} {d : Nd} (hd : t[i]? = some d) (hk : kidsTo t i t.length ≠ []) : (upTo t f i d k).length + 1 ≤ (txtOf t (f + 1) i).length := by
  rw [txtOf_kids hd hk]
  unfold upTo
  have e := List.take_append_drop k (kidsTo t i t.length)
  have : ((kidsTo t i t.length).flatMap (txtOf t f)).length = (((kidsTo t i t.length).take k).flatMap (txtOf t f)).length + (((kidsTo t i t.length).drop k).flatMap (txtOf t f)).length := by
    rw [← List.length_append, ← List.flatMap_append, e]
  simp only [List.length_append, List.length_cons, List.length_nil]
  omega

theorem txt_short {t : List Nd} {ps : List Txt} (h : Tells t t.length ps) (hn : t.length ≤ 481) {f i : Nat} (hi : i < t.length) : (txtOf t f i).length ≤ 2000 := by
  obtain ⟨b, hb⟩ := behind_ex h hi
  have := txt_bound h f i b hb
  have := hb.le
  omega

end Go.Proofs.Ytoofpgehkihbcaa

/-
  The kids of a node one after another, told by the next letter: plain mathematics.
-/
namespace Go.Proofs.Ytoofpgehkihbcaa
set_option linter.unusedVariables false

/-- all kids with letters below lo, and what is under them, stand before k; the others from k on -/
structure KH (t : List Nd) (ps : List Txt) (i : Nat) (x : Txt) (lo k : Nat) : Prop where
  lt : i < k
  le : k ≤ t.length
  all : ∀ (m : Nat) (z : Txt), i < m → m < k → ps[m]? = some z → x <+: z
  part : ∀ (c : UInt8) (m : Nat) (z : Txt), ps[m]? = some z → x ++ [c] <+: z → (c.toNat < lo ↔ m < k)

/-- all beginnings are there -/
def Shut (ps : List Txt) : Prop := ∀ (x : Txt) (c : UInt8), x ++ [c] ∈ ps → x ∈ ps

theorem Shut.up {ps : List Txt} (h : Shut ps) : ∀ (r y : Txt), y ++ r ∈ ps → y ∈ ps := by
  intro r
  obtain ⟨n, hn⟩ : ∃ n, r.length = n := ⟨_, rfl⟩
  induction n generalizing r with
  | zero =>
    intro y hy
    obtain rfl := List.length_eq_zero_iff.1 hn
    simpa using hy
  | succ n ih =>
    intro y hy
    have hne : r ≠ [] := by rintro rfl; simp at hn
    rw [← List.dropLast_concat_getLast hne, ← List.append_assoc] at hy
    exact ih r.dropLast (by simp [hn]) y (h _ _ hy)

theorem Shut.pre {ps : List Txt} (h : Shut ps) {y z : Txt} (hp : y <+: z) (hz : z ∈ ps) : y ∈ ps := by
  obtain ⟨r, rfl⟩ := hp
  exact h.up r y hz

theorem under_kid {x z : Txt} (h : x <+: z) (hne : x ≠ z) : ∃ f, x ++ [f] <+: z := by
  obtain ⟨r, rfl⟩ := h
  cases r with
  | nil => exact absurd (by simp) hne
  | cons f r => exact ⟨f, r, by simp⟩

theorem kid_same {x z : Txt} {c f : UInt8} (h : x ++ [c] <+: z) (k : x ++ [f] <+: z) : c = f := by
  obtain ⟨r, rfl⟩ := h
  obtain ⟨q, hq⟩ := k
  rw [List.append_assoc, List.append_assoc] at hq
  have : ([f] ++ q : Txt) = [c] ++ r := List.append_cancel_left hq
  simpa using (List.cons.inj this).1.symm

section
variable {t : List Nd} {ps : List Txt} {i k lo : Nat} {x : Txt}

theorem KH.start (h : Tells t t.length ps) (hx : ps[i]? = some x) : KH t ps i x 0 (i + 1) :=
  ⟨by omega, by have := h.len; have := (List.getElem?_eq_some_iff.1 hx).1; omega, fun m z h1 h2 => by omega, fun c m z hz hp => by
    have hb : bef x z = true := bef_pre ((List.prefix_append _ _).trans hp) (by
      rintro rfl
      have := hp.length_le
      simp at this
      omega)
    have := asc_pos h.asc hx hz hb
    omega⟩

theorem KH.kid (h : Tells t t.length ps) (hs : Shut ps) (hx : ps[i]? = some x) (hk : KH t ps i x lo k) {c : UInt8} (ho : IsNk ps x lo (some c)) : ps[k]? = some (x ++ [c]) := by
  obtain ⟨h1, h2, h3⟩ := ho
  obtain ⟨m, hm⟩ := mem_at h2
  have hkm : ¬ m < k := fun hlt => by
    have := (hk.part c m _ hm (List.prefix_refl _)).2 hlt
    omega
  rcases Nat.lt_or_eq_of_le (Nat.le_of_not_lt hkm) with hlt | rfl
  · exfalso
    have hkl : k < ps.length := by have := (List.getElem?_eq_some_iff.1 hm).1; omega
    obtain ⟨z, hz⟩ : ∃ z, ps[k]? = some z := ⟨_, List.getElem?_eq_getElem hkl⟩
    have b1 := asc_lt h.asc hx hz hk.lt
    have b2 := asc_lt h.asc hz hm hlt
    have hp := pre_between b1 b2 (List.prefix_append _ _)
    obtain ⟨f, hf⟩ := under_kid hp (bef_ne b1)
    have hfl : ¬ f.toNat < lo := fun hh => by
      have := (hk.part f k z hz hf).1 hh
      omega
    have hfm := hs.pre hf (at_mem hz)
    have hfc : ¬ f.toNat < c.toNat := fun hh => h3 f (by omega) hh hfm
    by_cases e : f = c
    · subst e
      by_cases e2 : x ++ [f] = z
      · rw [e2, bef_irrefl] at b2; cases b2
      · have := bef_pre hf e2
        rw [bef_asymm this] at b2
        cases b2
    · have hcf : c.toNat < f.toNat := by
        have : c.toNat ≠ f.toNat := fun hh => e (UInt8.toNat_inj.1 hh).symm
        omega
      obtain ⟨r, rfl⟩ := hf
      rw [List.append_assoc, bef_app] at b2
      have hne : ¬ f = c := e
      simp only [List.singleton_append, bef, if_neg hne, decide_eq_true_eq, UInt8.lt_iff_toNat_lt] at b2
      omega
  · exact hm

theorem KH.next (h : Tells t t.length ps) (hs : Shut ps) (hx : ps[i]? = some x) (hk : KH t ps i x lo k) {c : UInt8} (ho : IsNk ps x lo (some c)) {b : Nat} (hb : Behind t ps k b) : KH t ps i x (c.toNat + 1) b := by
  have hkc := hk.kid h hs hx ho
  obtain ⟨h1, h2, h3⟩ := ho
  have hlt := hk.lt
  have hkb := hb.lt
  refine ⟨by omega, hb.le, fun m z m1 m2 hz => ?_, fun f m z hz hf => ?_⟩
  · rcases Nat.lt_or_ge m k with hm | hm
    · exact hk.all m z m1 hm hz
    · exact (List.prefix_append _ _).trans ((hb.iff h hkc hz).2 ⟨hm, m2⟩)
  · have hp := hk.part f m z hz hf
    have hi := hb.iff h hkc hz
    have hfm := hs.pre hf (at_mem hz)
    by_cases hfl : f.toNat < lo
    · have := hp.1 hfl
      omega
    · have hfc : ¬ f.toNat < c.toNat := fun hh => h3 f (by omega) hh hfm
      by_cases e : f = c
      · subst e
        have := hi.1 hf
        omega
      · have : c.toNat ≠ f.toNat := fun hh => e (UInt8.toNat_inj.1 hh).symm
        constructor
        · intro; omega
        · intro hmb
          exact absurd (kid_same ((hi).2 ⟨by omega, hmb⟩) hf).symm e

theorem KH.stop (h : Tells t t.length ps) (hs : Shut ps) (hx : ps[i]? = some x) (hk : KH t ps i x lo k) (ho : IsNk ps x lo none) : Behind t ps i k :=
  ⟨hk.lt, hk.le, fun x' hx' m z m1 m2 hz => by
    rw [hx] at hx'
    rw [← Option.some.inj hx']
    exact hk.all m z m1 m2 hz, fun x' y' hx' hy' hp => by
    rw [hx] at hx'
    rw [← Option.some.inj hx'] at hp
    have b1 := asc_lt h.asc hx hy' hk.lt
    obtain ⟨f, hf⟩ := under_kid hp (bef_ne b1)
    have hfl : ¬ f.toNat < lo := fun hh => by
      have := (hk.part f k y' hy' hf).1 hh
      omega
    exact ho f (by omega) (hs.pre hf (at_mem hy'))⟩

end

end Go.Proofs.Ytoofpgehkihbcaa

/-
  The program's numbering of the twigs: the nodes are appended in the order of their texts.
-/
namespace Go.Proofs.Ytoofpgehkihbcaa
open Go.RowKit
set_option linter.unusedVariables false

/-- the nodes say what the twigs hold -/
def Match (t : List Nd) (ps : List Txt) (en : Txt → Bool) : Prop := ∀ (i : Nat) (x : Txt) (d : Nd), ps[i]? = some x → t[i]? = some d → d.l = letOf x ∧ d.e = en x

def NumPost (bT : Nat) (w : World) (v : Value) (t : List Nd) (ps : List Txt) (i : Nat) (e : Ending) (w' : World) : Prop :=
  ∃ b v', e = .returned v' ∧ Behind t ps i b ∧ w'.ownsRow bT 84 3 v' b (ndc (t.take b)) ∧ Grew w w' v v'

set_option maxRecDepth 1000000 in
set_option maxHeartbeats 2000000 in
theorem number_any (base bT : Nat) (ps : List Txt) (en : Txt → Bool) (A : Txt → Nat) (t : List Nd) (hT : Tells t t.length ps) (hM : Match t ps en) (hn : t.length ≤ 481) (hlow : ∀ x ∈ ps, A x < bT) :
    ∀ (f i : Nat) (x : Txt) (d : Nd) (v : Value) (w : World), t.length ≤ i + f → ps[i]? = some x → t[i]? = some d → bT ≤ w.heap.size → w.ownsRow bT 84 3 v i (ndc (t.take i)) → Twigs base w ps en A →
    Calls Try.prog 91 #[.pointer (some ⟨A x, 0, none⟩), v, .int .i64 d.p] w (NumPost bT w v t ps i)
  | 0, i, x, d, v, w, hf, hx, hd, _, _, _ => by
    have := (List.getElem?_eq_some_iff.1 hd).1
    omega
  | f + 1, i, x, d, v, w, hf, hx, hd, hbT, hown, htw => by
    have ih := Lib.hid (number_any base bT ps en A t hT hM hn hlow f)
    have HT := Lib.hid hT
    have hi := (List.getElem?_eq_some_iff.1 hd).1
    have hi481 : i < 481 := by omega
    have HX := Lib.hid hx
    have HD := Lib.hid hd
    have HB := Lib.hid hbT
    have HTw := Lib.hid htw
    have HLow := Lib.hid hlow
    have HN := Lib.hid hn
    have HF := Lib.hid hf
    have HS : Hid (Shut ps) := Lib.hid htw.closed
    obtain ⟨hml, hme⟩ := hM i x d hx hd
    obtain ⟨kp, np, hTB, hk0, _⟩ := htw.spot x (at_mem hx)
    have hc0 := hTB.c0
    have hc1 := hTB.c1
    have hc2 := hTB.c2
    rw [← hml] at hc0
    rw [← hme] at hc1
    have HK0 := Lib.hid hk0
    obtain ⟨a, c, rfl⟩ := own_slice hown
    have HO := Lib.hid hown
    have HRow : Hid (ndc (t.take i) ++ [.int .i64 d.l, .int .i64 d.p, .bool d.e] = ndc (t.take (i + 1))) := Lib.hid (by rw [take_mk hd, ndc_app]; rfl)
    obtain ⟨i0, hii, hz0, hz1, hz2⟩ := info_parts infoN
    have hltA : A x < w.heap.size := htw.lt (at_mem hx)
    have hneA : some (A x) ≠ Value.ownBlock (.slice a i c) := fun he => by
      have h1 := (hown.lt _ he.symm).1
      have h2 := hlow x (at_mem hx)
      omega
    clear hT hx hd hbT hown htw hml hme hTB hk0 hM hlow hn hf hi
    go_enter Try.func91, Try.ntmps91
    go_wp2
    go_region_held3 (fun w' => w'.cell? ⟨A x, 0, none⟩ = some (.int .i64 d.l) ∧ w'.cell? ⟨A x, 1, none⟩ = some (.bool d.e))
      (first
        | exact ⟨(hGr.cell ⟨A x, 0, none⟩ hltA hneA).trans hc0, (hGr.cell ⟨A x, 1, none⟩ hltA hneA).trans hc1⟩
        | exact ⟨(World.cell?_alloc_lt _ _ _ hltA).trans hc0, (World.cell?_alloc_lt _ _ _ hltA).trans hc1⟩
        | exact ⟨hc0, hc1⟩)
      (first
        | (refine step_append_row (by rfl) _ _ 42 (by rfl) bT 84 i0 (.agg #[.int .i64 0, .int .i64 0, .bool false]) 3 24 Try.underlying42 hii hz0 hz1 hz2 (by rfl) (by decide) _ _ _ (by rfl) (by exact HO.out.alloc _) ⟨_, 0, none⟩ 1 1 [.int .i64 d.l, .int .i64 d.p, .bool d.e] (by rfl) (by rfl) (by exact news_at (cs := #[.int .i64 d.l, .int .i64 d.p, .bool d.e]) (by rfl)) (by simp [Value.oneCell']) (by unfold maxLen; omega) (by omega) (by have := HB.out; simp; omega) ?_; intro v2 w2 hO2 hG2 hat2; have hGr : Grew w w2 (.slice a i c) v2 := Grew.app (o := .cells #[.int .i64 d.l, .int .i64 d.p, .bool d.e] 84) ⟨hG2.os, hG2.tape, hG2.output, hG2.size, hG2.block⟩ hat2; clear hG2 hat2))
    have HO2 : Hid (w2.ownsRow bT 84 3 v2 (i + 1) (ndc (t.take (i + 1)))) := Lib.hid (by rw [← HRow.out]; exact hO2)
    have HG2 := Lib.hid hGr
    have hc2' := (hGr.cell ⟨A x, 2, none⟩ hltA hneA).trans hc2
    have hB2 := (hGr.to HO.out HB.out)
    have HTw2 : Hid (Twigs base w2 ps en A) := Lib.hid (HTw.out.keep fun z hz => hB2.block _ (HLow.out z hz))
    have HB2 : Hid (bT ≤ w2.heap.size) := Lib.hid (Nat.le_trans HB.out hGr.grown.size)
    clear hO2 hGr hc0 hc1 hc2 hB2
    go_wp2
    clear hc2'
    go_loopg [1, 8] (t.length - (i + 1)) (fun g s1 s8 wr => ∃ (lo k : Nat) (v' : Value) (p : Option Addr), s8 = .pointer p ∧ v' = s1 ∧ Hid (g = t.length - k) ∧ Hid (LinkIs ps A x lo p) ∧ Hid (KH t ps i x lo k) ∧ Hid (wr.ownsRow bT 84 3 v' k (ndc (t.take k))) ∧ Hid (Grew w wr (.slice a i c) v') ∧ Hid (Twigs base wr ps en A) ∧ Hid (bT ≤ wr.heap.size))
    case atStart => exact ⟨0, i + 1, v2, kp, rfl, rfl, Lib.hid rfl, HK0, Lib.hid (KH.start HT.out HX.out), HO2, HG2, HTw2, HB2⟩
    case round =>
      obtain ⟨lo, k, v', p, rfl, rfl, HGk, HL, HKH, HOk, HGr, HTk, HBk⟩ := hrel
      obtain ⟨o, hnk, rfl⟩ := HL.out
      have HNk := Lib.hid hnk
      clear hnk
      cases o with
      | none =>
        have HBh := Lib.hid (HKH.out.stop HT.out HS.out HX.out HNk.out)
        simp only [Option.map_none]
        go_wp2
        go_ret
        exact ⟨k, _, rfl, HBh.out, HOk.out, HGr.out⟩
      | some c2 =>
        have hkc := HKH.out.kid HT.out HS.out HX.out HNk.out
        have hik := HKH.out.lt
        have hkl : k < t.length := by have := HT.out.len; have := (List.getElem?_eq_some_iff.1 hkc).1; omega
        obtain ⟨dk, _, hdk, _⟩ := HT.out.at hkl
        have hpk := (par_iff HT.out HX.out (by omega) hdk).2 ⟨c2, hkc⟩
        have HKc := Lib.hid hkc
        have cN := ih.out k (x ++ [c2]) dk v' wr (by have := HF.out; omega) hkc hdk HBk.out HOk.out HTk.out
        rw [hpk] at cN
        have HCN := Lib.hid cN
        clear cN hkc hdk hpk
        simp only [Option.map_some]
        go_wp2_with (go_at_call 91; refine HCN.out.mono ?_; rintro en3 w3 ⟨b, v3, rfl, hb3, hO3, hG3⟩; have HB3 := Lib.hid hb3; have HO3 := Lib.hid hO3; have HG3 := Lib.hid hG3; have HTw3 : Hid (Twigs base w3 ps en A) := Lib.hid (HTk.out.keep fun z hz => (hG3.to HOk.out HBk.out).block _ (HLow.out z hz)); clear hb3 hO3 hG3; obtain ⟨k3, n3, hTB3, _, hN3⟩ := HTw3.out.spot _ (at_mem HKc.out); have hc3 := hTB3.c3; have HN3 := Lib.hid hN3; clear hN3 hTB3)
        have hkb := HB3.out.lt
        go_roundg (t.length - b)
        case measure => rw [HGk.out]; omega
        case rel => exact ⟨c2.toNat + 1, b, v3, n3, rfl, rfl, Lib.hid rfl, Lib.hid (HN3.out x c2 rfl), Lib.hid (HKH.out.next HT.out HS.out HX.out HNk.out HB3.out), HO3, Lib.hid (HGr.out.trans HG3.out), HTw3, Lib.hid (Nat.le_trans HBk.out HG3.out.grown.size)⟩

end Go.Proofs.Ytoofpgehkihbcaa

/-
  The program's trie of a list of texts.
-/
namespace Go.Proofs.Ytoofpgehkihbcaa
open Go.RowKit
set_option linter.unusedVariables false

/-- a trie that the call owns, and whether there is one -/
def TrieRes (w : World) (t : List Nd) (ok : Bool) (e : Ending) (w' : World) : Prop :=
  ∃ v, e = .returned (.tuple #[.agg #[v], .bool ok]) ∧ w'.ownsRow w.heap.size 84 3 v t.length (ndc t) ∧ Below w.heap.size w w'

theorem made_match {xs : List Txt} : Match (made (setOf xs)) (pres (setOf xs)) (fun z => decide (z ∈ xs)) := by
  intro i x d hx hd
  unfold made at hd
  rw [mkT_at hx] at hd
  obtain rfl := Option.some.inj hd
  constructor
  · unfold mkN letOf
    split <;> rfl
  · rw [mkN_e]
    exact decide_eq_decide.2 mem_setOf

theorem behind_root {t : List Nd} {ps : List Txt} (h : Tells t t.length ps) {b : Nat} (hb : Behind t ps 0 b) : b = t.length := by
  have h1 := hb.le
  by_cases hlt : b < t.length
  · obtain ⟨_, y, _, hy⟩ := h.at hlt
    exact absurd List.nil_prefix (hb.stop [] y h.nil hy)
  · omega

theorem root_p {t : List Nd} {k : Nat} {ps : List Txt} (h : Tells t k ps) : ∃ d, t[0]? = some d ∧ d.p = -1 := by
  obtain ⟨e, he⟩ := h.root
  exact ⟨_, he, rfl⟩

set_option maxRecDepth 1000000 in
set_option maxHeartbeats 2000000 in
theorem implTrieOf_any (B : Nat) (a : Option Addr) (n c : Nat) (xs : List Txt) (w : World) (hB : B ≤ w.heap.size) (h : Wds B w a n c xs) :
    Calls Try.prog 77 #[.slice a n c] w (TrieRes w (tofT xs) (setOk xs)) := by
  have L := Lib.hid h.len
  have C := h.sl.cap
  have T := h.sl.top
  have H := Lib.hid h
  have HB := Lib.hid hB
  clear h hB
  have HBx0 := Lib.hid (Boxed.new w 44 (.slice none 0 0))
  have HB0 : Hid (Below w.heap.size w (w.alloc (.cells #[.slice none 0 0] 44))) := Lib.hid ((Below.refl _ _).alloc (Nat.le_refl _) _)
  have HZ0 : Hid ((w.alloc (.cells #[.slice none 0 0] 44)).heap.size = w.heap.size + 1) := Lib.hid (by simp)
  obtain ⟨ok, hok⟩ : ∃ ok, setOk xs = ok := ⟨_, rfl⟩
  obtain ⟨tt, htt⟩ : ∃ tt, tofT xs = tt := ⟨_, rfl⟩
  rw [hok, htt]
  have HOK := Lib.hid hok
  have HTT := Lib.hid htt
  clear hok htt
  go_enter Try.func77, Try.ntmps77
  go_upto_region 1 with fail
  obtain ⟨W1, hW1⟩ : ∃ W1, w.alloc (.cells #[.slice none 0 0] 44) = W1 := ⟨_, rfl⟩
  rw [hW1] at HBx0 HB0 HZ0 ⊢
  clear hW1
  have HTw0 := Lib.hid (Twigs.start (base := w.heap.size + 1) W1 (by have := HZ0.out; omega) (fun z => decide (z ∈ xs.take 0)) (by simp))
  have HB1 : Hid (Below (w.heap.size + 1) W1 (W1.alloc (.cells #[.int .i64 (-1), .bool false, .pointer none, .pointer none] 114))) := Lib.hid ((Below.refl _ _).alloc (by have := HZ0.out; omega) _)
  go_wp2
  go_loopw [5, 12] (fun q i wr => ∃ (k : Nat) (ps : List Txt) (A : Txt → Nat), k ≤ n ∧ i = .int .i64 k ∧ q = .int .i64 ((setOf (xs.take k)).length : Int) ∧ (setOf (xs.take k)).length ≤ 40 ∧ Hid (A [] = W1.heap.size) ∧ Hid (Twigs (w.heap.size + 1) wr ps (fun z => decide (z ∈ xs.take k)) A) ∧ Hid (Asc ps) ∧ Hid (∀ y, y ∈ ps ↔ y = [] ∨ ∃ v ∈ xs.take k, y <+: v) ∧ Hid (∀ x ∈ xs.take k, IsW x) ∧ Hid (Below (w.heap.size + 1) W1 wr)) (fun _ i _ => n - (intOf i).toNat)
  case atStart => exact ⟨0, [[]], _, Nat.zero_le _, rfl, rfl, by show (setOf []).length ≤ 40; simp [setOf], Lib.hid rfl, HTw0, Lib.hid (by simp), Lib.hid (fun y => by simp), Lib.hid (by simp), HB1⟩
  case round =>
    obtain ⟨k, ps, A, hk, rfl, rfl, h40, HRt, HTw, HAs, HMem, HI, HBw⟩ := hrel
    have HBox := Lib.hid (box_under HBx0.out HBw.out (by omega))
    have HBwr : Hid (Below w.heap.size w wr) := Lib.hid (HB0.out.trans (HBw.out.mono (by omega)))
    have hrc := HBox.out.cell
    have hrf := HBox.out.frozen
    have hzr : w.heap.size + 1 ≤ wr.heap.size := by have := HBw.out.size; have := HZ0.out; omega
    obtain ⟨m, hm⟩ : ∃ m, (setOf (xs.take k)).length = m := ⟨_, rfl⟩
    have HM := Lib.hid hm
    rw [hm] at h40 ⊢
    clear hm
    by_cases hlt : k < n
    · obtain ⟨b, o, t, rfl, hbB, ht, htz, hc⟩ := Wds.elem (xs := xs) (H.out.keep (HBwr.out.mono HB.out)) k hlt
      have HT := Lib.hid ht
      have cW := Lib.hid (implIsWord_any t wr htz)
      obtain ⟨r, hr⟩ : ∃ r, okW t = r := ⟨_, rfl⟩
      have HR := Lib.hid hr
      rw [hr] at cW
      clear ht hr
      cases r with
      | false =>
        have HOk : Hid (setOk xs = false) := Lib.hid (setOk_bad HT.out (fun hw => by have := okW_iff.2 hw; rw [HR.out] at this; cases this))
        obtain rfl : ok = false := HOK.out.symm.trans HOk.out
        obtain rfl : tt = [] := HTT.out.symm.trans (tofT_no HOk.out)
        clear hrc hrf
        go_wp2_with (go_at_call 34; refine cW.out.mono ?_; rintro en w2 ⟨rfl, hb2⟩; have hrc := (box_stay HBox.out hb2).cell; have hrf := (box_stay HBox.out hb2).frozen; have HB2 := Lib.hid (HBwr.out.trans (hb2.mono (by omega))); clear hb2)
        refine bodyPost_ret (v := .tuple #[.agg #[.slice none 0 0], .bool false]) (by simp [results, Try.results77, go_sem, hrc]) rfl ⟨_, rfl, World.ownsRow_nil _ _ _ _, HB2.out.setCell (Nat.le_refl _) _⟩
      | true =>
        obtain ⟨r2, hr2⟩ : ∃ r2, decide (tx t ∈ xs.take k) = r2 := ⟨_, rfl⟩
        have HR2 := Lib.hid hr2
        have HSu := Lib.hid (setOf_succ HT.out)
        have HTk : Hid (xs.take (k + 1) = xs.take k ++ [tx t]) := Lib.hid (by
          obtain ⟨hkl, e⟩ := List.getElem?_eq_some_iff.1 HT.out
          rw [List.take_succ_eq_append_getElem hkl, e])
        have HI2 : Hid (∀ x ∈ xs.take (k + 1), IsW x) := Lib.hid (fun x hx => by
          rw [HTk.out] at hx
          rcases List.mem_append.1 hx with hx | hx
          · exact HI.out x hx
          · rw [List.mem_singleton.1 hx]; exact okW_iff.1 HR.out)
        have cP : Hid (∀ W, Below wr.heap.size wr W → Calls Try.prog 90 #[.pointer (some ⟨W1.heap.size, 0, none⟩), .string t] W fun e w' => ∃ ps' A', e = .returned (.bool (!r2)) ∧ Twigs (w.heap.size + 1) w' ps' (fun z => decide (z ∈ xs.take (k + 1))) A' ∧ Asc ps' ∧ (∀ y, y ∈ ps' ↔ y = [] ∨ ∃ v ∈ xs.take (k + 1), y <+: v) ∧ A' [] = W1.heap.size ∧ Below (w.heap.size + 1) W w') := Lib.hid (fun W hW => by
          have c0 := putTwig_any (w.heap.size + 1) W ps _ A (HTw.out.below (Nat.le_refl _) hW) (by have := hW.size; omega) HAs.out t HR.out (fun z hz => decide_eq_false (fun hm => hz ((HMem.out z).2 (.inr ⟨z, hm, List.prefix_refl _⟩))))
          rw [HRt.out] at c0
          refine c0.mono ?_
          rintro e w' ⟨ps', A', rfl, h1, h2, h3, h4, h5, _⟩
          refine ⟨ps', A', by simp only [hr2], h1.enEq (fun z _ => ?_), h2, fun y => ?_, h4.trans HRt.out, h5⟩
          · rw [HTk.out, Bool.eq_iff_iff]
            simp only [Bool.or_eq_true, decide_eq_true_eq, List.mem_append, List.mem_singleton]
            exact ⟨fun h => h.elim .inr .inl, fun h => h.elim .inr .inl⟩
          · rw [h3, HMem.out, HTk.out]
            constructor
            · rintro ((h | ⟨v, hv, hp⟩) | h)
              · exact .inl h
              · exact .inr ⟨v, List.mem_append_left _ hv, hp⟩
              · exact .inr ⟨tx t, by simp, h⟩
            · rintro (h | ⟨v, hv, hp⟩)
              · exact .inl (.inl h)
              · rcases List.mem_append.1 hv with hv | hv
                · exact .inl (.inr ⟨v, hv, hp⟩)
                · rw [List.mem_singleton] at hv
                  rw [hv] at hp
                  exact .inr hp)
        clear hr2
        cases r2 with
        | true =>
          have HM2 : Hid ((setOf (xs.take (k + 1))).length = m) := Lib.hid (by
            rw [HSu.out, put_mem (setOf_asc _) (mem_setOf.2 (by simpa using HR2.out)), HM.out])
          clear hrc hrf
          go_wp2_with (first
            | (go_at_call 34; refine cW.out.mono ?_; rintro en w2 ⟨rfl, hb2⟩; have HB2 := Lib.hid hb2; clear hb2)
            | (go_at_call 90; refine (cP.out _ HB2.out).mono ?_; rintro en3 w3 ⟨ps3, A3, rfl, hT3, hA3, hM3, hR3, hb3⟩; have HT3 := Lib.hid hT3; have HA3 := Lib.hid hA3; have HM3 := Lib.hid hM3; have HR3 := Lib.hid hR3; have HB3 := Lib.hid (HBw.out.trans ((HB2.out.mono hzr).trans hb3)); clear hT3 hA3 hM3 hR3 hb3))
          go_roundw
          case rel => exact ⟨k + 1, ps3, A3, by omega, by go_num, by rw [HM2.out], by rw [HM2.out]; exact h40, HR3, HT3, HA3, HM3, HI2, HB3⟩
          case measure => simp [intOf]; omega
        | false =>
          have HM2 : Hid ((setOf (xs.take (k + 1))).length = m + 1) := Lib.hid (by
            rw [HSu.out, put_len_new (fun hh => by have h1 := HR2.out; simp only [decide_eq_false_iff_not] at h1; exact h1 (mem_setOf.1 hh)), HM.out])
          clear hrc hrf
          by_cases hmany : m + 1 ≤ 40
          · go_wp2_with (first
              | (go_at_call 34; refine cW.out.mono ?_; rintro en w2 ⟨rfl, hb2⟩; have HB2 := Lib.hid hb2; clear hb2)
              | (go_at_call 90; refine (cP.out _ HB2.out).mono ?_; rintro en3 w3 ⟨ps3, A3, rfl, hT3, hA3, hM3, hR3, hb3⟩; have HT3 := Lib.hid hT3; have HA3 := Lib.hid hA3; have HM3 := Lib.hid hM3; have HR3 := Lib.hid hR3; have HB3 := Lib.hid (HBw.out.trans ((HB2.out.mono hzr).trans hb3)); clear hT3 hA3 hM3 hR3 hb3))
            go_roundw
            case rel => exact ⟨k + 1, ps3, A3, by omega, by go_num, by rw [HM2.out]; go_num, by rw [HM2.out]; exact hmany, HR3, HT3, HA3, HM3, HI2, HB3⟩
            case measure => simp [intOf]; omega
          · have HOk : Hid (setOk xs = false) := Lib.hid (setOk_many (k := k + 1) (by rw [HM2.out]; omega))
            obtain rfl : ok = false := HOK.out.symm.trans HOk.out
            obtain rfl : tt = [] := HTT.out.symm.trans (tofT_no HOk.out)
            go_wp2_with (first
              | (go_at_call 34; refine cW.out.mono ?_; rintro en w2 ⟨rfl, hb2⟩; have HB2 := Lib.hid hb2; clear hb2)
              | (go_at_call 90; refine (cP.out _ HB2.out).mono ?_; rintro en3 w3 ⟨ps3, A3, rfl, hT3, hA3, hM3, hR3, hb3⟩; have HB3 := Lib.hid (HBw.out.trans ((HB2.out.mono hzr).trans hb3)); clear hT3 hA3 hM3 hR3 hb3; have hrc := (box_under HBx0.out HB3.out (by omega)).cell; have hrf := (box_under HBx0.out HB3.out (by omega)).frozen))
            refine bodyPost_ret (v := .tuple #[.agg #[.slice none 0 0], .bool false]) (by simp [results, Try.results77, go_sem, hrc]) rfl ⟨_, rfl, World.ownsRow_nil _ _ _ _, (HB0.out.trans (HB3.out.mono (by omega))).setCell (Nat.le_refl _) _⟩
    · obtain rfl : k = n := by omega
      have hx : xs.take k = xs := List.take_of_length_le (by have := L.out; omega)
      rw [hx] at HTw HMem HI HM
      clear hx
      have HOk : Hid (setOk xs = true) := Lib.hid (by rw [setOk_all HI.out]; exact decide_eq_true (by rw [HM.out]; exact h40))
      obtain rfl : ok = true := HOK.out.symm.trans HOk.out
      obtain rfl : tt = made (setOf xs) := HTT.out.symm.trans (tofT_yes HOk.out)
      have HP : Hid (ps = pres (setOf xs)) := Lib.hid (Pre.uniq (ws := setOf xs) ⟨HAs.out, fun y => by
        rw [HMem.out]
        constructor
        · rintro (h | ⟨v, hv, hp⟩)
          · exact .inl h
          · exact .inr ⟨v, mem_setOf.2 hv, hp⟩
        · rintro (h | ⟨v, hv, hp⟩)
          · exact .inl h
          · exact .inr ⟨v, mem_setOf.1 hv, hp⟩⟩ (pres_pre _))
      have hval := made_valid (setOf_asc xs) (setOk_words HOk.out).1 (setOk_words HOk.out).2
      rw [HP.out] at HTw
      obtain ⟨d, hd, hdp⟩ := root_p hval.tells
      have cN := number_any (w.heap.size + 1) wr.heap.size (pres (setOf xs)) _ A (made (setOf xs)) hval.tells made_match hval.size (fun x hx => HTw.out.lt hx) (made (setOf xs)).length 0 [] d (.slice none 0 0) wr (by omega) hval.tells.nil hd (Nat.le_refl _) (by simpa [ndc] using World.ownsRow_nil wr wr.heap.size 84 3) HTw.out
      rw [HRt.out, hdp] at cN
      have HCN := Lib.hid cN
      have HV := Lib.hid hval
      clear cN hval hd hdp hrc hrf
      go_wp2_with (go_at_call 91; refine HCN.out.mono ?_; rintro en w2 ⟨b2, v2, rfl, hbh, hO2, hG2⟩; obtain rfl := behind_root HV.out.tells hbh; rw [List.take_length] at hO2; have hb2 := hG2.to (World.ownsRow_nil wr wr.heap.size 84 3) (Nat.le_refl _); obtain ⟨a2, c2, rfl⟩ := own_slice hO2; have HO2 := Lib.hid hO2; have HB2 := Lib.hid hb2; clear hbh hG2 hb2 hO2; have hrc := (box_stay HBox.out HB2.out).cell; have hrf := (box_stay HBox.out HB2.out).frozen)
      refine bodyPost_ret (v := .tuple #[.agg #[.slice a2 (made (setOf xs)).length c2], .bool true]) (by simp [results, Try.results77, go_sem, hrc]) rfl ⟨_, rfl, ?_, (HBwr.out.trans (HB2.out.mono (by omega))).setCell (Nat.le_refl _) _⟩
      exact (own_down HO2.out (by omega)).kept (grownBy_setCell' w2 w.heap.size _) (.inr ((box_stay HBox.out HB2.out).not_row (by decide) HO2.out).symm)

end Go.Proofs.Ytoofpgehkihbcaa
