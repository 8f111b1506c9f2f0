/-
  DecodeText: both functions answer the same.
-/
import Derived.Test.YthjafoacnfgjhabDecD10
import Derived.Test.YthjafoacnfgjhabEncJ10
namespace Go.Proofs.Ythjafoacnfgjhab
open Go.RowKit
set_option linter.unusedVariables false

theorem bitB_eq (s : ByteArray) : bitB s 840 = (decide (s.size ≤ 840) && sgB s) := rfl
theorem ints_zs (l : List Nat) : ints (zs l) = nums l := by simp [ints, zs, nums]
theorem msg_zs {cs : List Txt} {f : Nat} {r : Txt} (hf : f ≤ 60) : msgOk cs.length (zs (dec cs f r)) = true := by
  rw [msgOk_iff]
  refine ⟨by unfold zs; rw [List.length_map]; have := dec_len cs f r; omega, fun x hx => ?_⟩
  unfold zs at hx
  obtain ⟨i, hi, rfl⟩ := List.mem_map.1 hx
  have := dec_sym cs f r i hi
  omega

theorem dec_enc (cs : List Txt) : ∀ (f : Nat) (r : Txt), encT cs (zs (dec cs f r)) <+: r
  | 0, r => by simp [dec, zs, encT]
  | f + 1, r => by
    cases h : sym cs r with
    | none => rw [dec_none h]; simp [zs, encT]
    | some i =>
      obtain ⟨x, hi, t, rfl⟩ := sym_inv h
      rw [dec_some h hi]
      have ih := dec_enc cs f ((x ++ t).drop x.length)
      have e : encT cs (zs (i :: dec cs f ((x ++ t).drop x.length))) = x ++ encT cs (zs (dec cs f ((x ++ t).drop x.length))) := by
        simp [encT, zs, List.getD, hi]
      rw [e]
      have e2 : (x ++ t).drop x.length = t := by simp
      rw [e2] at ih ⊢
      exact (List.prefix_append_right_inj x).2 ih

set_option maxRecDepth 1000000 in
set_option maxHeartbeats 4000000 in
theorem implDecode_any (a : Option Addr) (n c : Nat) (ss : List ByteArray) (s : ByteArray) (w : World) (h : Strs w.heap.size w a n c ss) (hs0 : s.size ≤ 1048576) :
    Calls Try.prog 24 #[.slice a n c, .string s] w (DecPost w (decL ss s) (decV ss s) (decOk ss s)) := by
  have cC0 := implIsCode_any w.heap.size a n c ss w (Nat.le_refl _) h
  have L := Lib.hid h.len
  have C := h.sl.cap
  have T := h.sl.top
  have H := Lib.hid h
  clear h
  by_cases hc : cdB (txl ss) = true
  · rw [hc] at cC0
    have cC := Lib.hid cC0
    by_cases h840 : s.size ≤ 840
    · have hi840 : ¬ (840 : Int) < (s.size : Int) := by omega
      have cB0 := fun W => areSigns_any s W (by omega)
      by_cases hb : sgB s = true
      · have hok : decOk ss s = true := by unfold decOk; rw [hc, bitB_eq, hb]; simp [h840]
        have hL : decL ss s = dec (txl ss) 60 (tx s) := by unfold decL; rw [if_pos hok]
        have hV : decV ss s = ((s.size - (encT (txl ss) (zs (dec (txl ss) 60 (tx s)))).length : Nat) : Int) := by unfold decV; rw [if_pos hok]
        have HCd := Lib.hid (cdB_iff.1 hc)
        have HSh := Lib.hid (code_short hc)
        have hn12 : 1 ≤ n ∧ n ≤ 12 := by have h1 := HCd.out.1; have h2 := HCd.out.2.1; rw [txl_len, L.out] at h1 h2; exact ⟨h1, h2⟩
        have HMs : Hid (msgOk n (zs (dec (txl ss) 60 (tx s))) = true) := Lib.hid (by have := msg_zs (cs := txl ss) (f := 60) (r := tx s) (Nat.le_refl _); rwa [txl_len, L.out] at this)
        rw [hok, hL, hV]
        rw [hb] at cB0
        have cB := Lib.hid cB0
        obtain ⟨D, hD⟩ : ∃ D, dec (txl ss) 60 (tx s) = D := ⟨_, rfl⟩
        have HDe := Lib.hid hD
        rw [hD] at HMs ⊢
        have HDl : Hid (D.length ≤ 60) := Lib.hid (by rw [← hD]; exact dec_len _ _ _)
        clear cC0 cB0 hb hc hok hL hV hD
        go_enter Try.func24, Try.ntmps24
        go_wp2_with fail
        refine cC.out.mono ?_
        rintro e w1 ⟨rfl, hb1⟩
        have HB1 := Lib.hid hb1
        clear hb1
        go_wp2_with fail
        refine (cB.out _).mono ?_
        rintro e w2 ⟨rfl, hb2⟩
        have HB2 := Lib.hid (HB1.out.trans (hb2.mono HB1.out.size))
        clear hb2 HB1
        go_wp2_with fail
        refine (decode_any w2.heap.size a n c ss s (w2.alloc (.cells #[.string s] 60)) (((H.out.keep HB2.out).mono HB2.out.size).keep ((Below.refl _ _).alloc (Nat.le_refl _) _)) HCd.out (by simp) (heap_alloc_new _ _) h840).mono ?_
        rintro e w3 ⟨v, rfl, hO, hb3⟩
        rw [HDe.out] at hO
        have HB3 := Lib.hid ((HB2.out.alloc HB2.out.size _).trans (hb3.mono HB2.out.size))
        have HO := Lib.hid (own_down hO (show w.heap.size ≤ _ from Nat.le_trans HB2.out.size (by simp)))
        clear hO hb3
        obtain ⟨m, hm⟩ : ∃ m, D.length = m := ⟨_, rfl⟩
        have HMl := Lib.hid hm
        rw [hm] at HO HDl
        clear hm
        obtain ⟨a3, c3, rfl, hI⟩ := ints_of_own (l := zs D) (by rw [ints_zs]; exact HO.out) (fun z hz => by
          unfold zs at hz
          obtain ⟨i, hi, rfl⟩ := List.mem_map.1 hz
          have := (msgOk_iff.1 HMs.out).2 (i : Int) (by unfold zs; exact List.mem_map.2 ⟨i, hi, rfl⟩)
          omega)
        have hti := textOf_any w3.heap.size a a3 n c m c3 ss (zs D) w3 (Nat.le_refl _) ((H.out.keep HB3.out).mono HB3.out.size) hI HSh.out HMs.out
        obtain ⟨E, hE⟩ : ∃ E, bx (encT (txl ss) (zs D)) = E := ⟨_, rfl⟩
        have HE : Hid (E.size = (encT (txl ss) (zs D)).length) := Lib.hid (by rw [← hE, bx_size])
        rw [hE] at hti
        have cT := Lib.hid hti
        have hEs : E.size ≤ s.size := by
          rw [HE.out, ← HDe.out, ← tx_len]
          exact (dec_enc (txl ss) 60 (tx s)).length_le
        have hEi : (E.size : Int) ≤ (s.size : Int) := by omega
        clear hti hE hI
        go_wp2_with fail
        refine cT.out.mono ?_
        rintro e w4 ⟨rfl, hb4⟩
        have HB4 := Lib.hid (HB3.out.trans (hb4.mono HB3.out.size))
        have HO4 := Lib.hid (own_stay HO.out hb4)
        clear hb4
        go_wp2_with fail
        refine bodyPost_ret (v := .tuple #[.slice a3 m c3, .int .i64 ((s.size : Int) - (E.size : Int)), .bool true]) (by simp [results, Try.results24, go_sem]) rfl ⟨.slice a3 m c3, ?_, ?_, HB4.out⟩
        · rw [← HE.out]
          exact congrArg (fun z => Ending.returned (.tuple #[.slice a3 m c3, .int .i64 z, .bool true])) (by omega)
        · rw [HMl.out]
          exact HO4.out
      · have hb' : sgB s = false := by simpa using hb
        have hok : decOk ss s = false := by unfold decOk; rw [bitB_eq, hb']; simp
        have hL : decL ss s = [] := by unfold decL; rw [if_neg (by rw [hok]; decide)]
        have hV : decV ss s = 0 := by unfold decV; rw [if_neg (by rw [hok]; decide)]
        rw [hok, hL, hV]
        rw [hb'] at cB0
        have cB := Lib.hid cB0
        clear cC0 cB0 hb hb' hc hok hL hV
        go_enter Try.func24, Try.ntmps24
        go_wp2_with fail
        refine cC.out.mono ?_
        rintro e w1 ⟨rfl, hb1⟩
        have HB1 := Lib.hid hb1
        clear hb1
        go_wp2_with fail
        refine (cB.out _).mono ?_
        rintro e w2 ⟨rfl, hb2⟩
        have HB2 := Lib.hid (HB1.out.trans (hb2.mono HB1.out.size))
        clear hb2 HB1
        go_wp2_with fail
        refine bodyPost_ret (v := .tuple #[.slice none 0 0, .int .i64 0, .bool false]) (by simp [results, Try.results24, go_sem]) rfl ⟨_, rfl, ⟨rfl, .inl ⟨rfl, rfl⟩⟩, HB2.out⟩
    · have hi840 : (840 : Int) < (s.size : Int) := by omega
      have hok : decOk ss s = false := by unfold decOk; rw [bitB_eq]; simp [h840]
      have hL : decL ss s = [] := by unfold decL; rw [if_neg (by rw [hok]; decide)]
      have hV : decV ss s = 0 := by unfold decV; rw [if_neg (by rw [hok]; decide)]
      rw [hok, hL, hV]
      clear cC0 hc hok hL hV
      go_enter Try.func24, Try.ntmps24
      go_wp2_with fail
      refine cC.out.mono ?_
      rintro e w1 ⟨rfl, hb1⟩
      have HB1 := Lib.hid hb1
      clear hb1
      go_wp2_with fail
      refine bodyPost_ret (v := .tuple #[.slice none 0 0, .int .i64 0, .bool false]) (by simp [results, Try.results24, go_sem]) rfl ⟨_, rfl, ⟨rfl, .inl ⟨rfl, rfl⟩⟩, HB1.out⟩
  · have hc' : cdB (txl ss) = false := by simpa using hc
    have hok : decOk ss s = false := by unfold decOk; rw [hc']; simp
    have hL : decL ss s = [] := by unfold decL; rw [if_neg (by rw [hok]; decide)]
    have hV : decV ss s = 0 := by unfold decV; rw [if_neg (by rw [hok]; decide)]
    rw [hok, hL, hV]
    rw [hc'] at cC0
    have cC := Lib.hid cC0
    clear cC0 hc hc' hok hL hV
    go_enter Try.func24, Try.ntmps24
    go_wp2_with fail
    refine cC.out.mono ?_
    rintro e w1 ⟨rfl, hb1⟩
    have HB1 := Lib.hid hb1
    clear hb1
    go_wp2_with fail
    refine bodyPost_ret (v := .tuple #[.slice none 0 0, .int .i64 0, .bool false]) (by simp [results, Try.results24, go_sem]) rfl ⟨_, rfl, ⟨rfl, .inl ⟨rfl, rfl⟩⟩, HB1.out⟩

theorem agreeDecodeText (l : List ByteArray) (s : ByteArray) (hl : l.length + (l.map (·.size)).sum ≤ 1048576) (hs : s.size ≤ 1048576) : ∃ (v0 : Int) (ok : Bool) (L : List Nat), L.length ≤ 1000 ∧
    (∀ (W : World) (a : Option Addr) (n c : Nat), Strs W.heap.size W a n c l → Calls Try.prog 23 #[.slice a n c, .string s] W fun e w' => ∃ v, e = .returned (.tuple #[v, .int .i64 v0, .bool ok]) ∧ w'.ownsRow W.heap.size 3 1 v L.length (nums L) ∧ Below W.heap.size W w') ∧
    (∀ (W : World) (a : Option Addr) (n c : Nat), Strs W.heap.size W a n c l → Calls Try.prog 24 #[.slice a n c, .string s] W fun e w' => ∃ v, e = .returned (.tuple #[v, .int .i64 v0, .bool ok]) ∧ w'.ownsRow W.heap.size 3 1 v L.length (nums L) ∧ Below W.heap.size W w') := by
  refine ⟨decV l s, decOk l s, decL l s, ?_, fun W a n c h => specDecode_any a n c l s W h hs, fun W a n c h => implDecode_any a n c l s W h hs⟩
  unfold decL
  split
  · have := dec_len (txl l) 60 (tx s); omega
  · simp

end Go.Proofs.Ythjafoacnfgjhab
