/-
  The reference's DecodeText.
-/
import Derived.Test.YthjafoacnfgjhabDecM10
import Derived.Test.YthjafoacnfgjhabNumsB
import Derived.Maps.AppendAt
import Derived.Laws.OwnMore
namespace Go.Proofs.Ythjafoacnfgjhab
open Go.RowKit
set_option linter.unusedVariables false

def lenOf : Value → Nat | .slice _ n _ => n | _ => 0

noncomputable def decOk (ss : List ByteArray) (s : ByteArray) : Bool := cdB (txl ss) && bitB s 840
noncomputable def decL (ss : List ByteArray) (s : ByteArray) : List Nat := if decOk ss s = true then dec (txl ss) 60 (tx s) else []
noncomputable def decV (ss : List ByteArray) (s : ByteArray) : Int := if decOk ss s = true then ((s.size - (encT (txl ss) (zs (dec (txl ss) 60 (tx s)))).length : Nat) : Int) else 0

def DecPost (w : World) (L : List Nat) (v : Int) (ok : Bool) (e : Ending) (w' : World) : Prop :=
  ∃ r, e = .returned (.tuple #[r, .int .i64 v, .bool ok]) ∧ w'.ownsRow w.heap.size 3 1 r L.length (nums L) ∧ Below w.heap.size w w'

theorem tx_from10 (s : ByteArray) (k : Nat) : tx (s.extract k s.size) = (tx s).drop k := by
  rw [tx_sub]
  apply List.take_of_length_le
  rw [List.length_drop, tx_len]
  omega

set_option maxRecDepth 1000000 in
set_option maxHeartbeats 4000000 in
theorem specDecode_any (a : Option Addr) (n c : Nat) (ss : List ByteArray) (s : ByteArray) (w : World) (h : Strs w.heap.size w a n c ss) (hs0 : s.size ≤ 1048576) :
    Calls Try.prog 23 #[.slice a n c, .string s] w (DecPost w (decL ss s) (decV ss s) (decOk ss s)) := by
  have L := Lib.hid h.len
  have C := h.sl.cap
  have T := h.sl.top
  have H := Lib.hid h
  clear h
  obtain ⟨i0, hii, hz0, hz1, hz2⟩ := info_parts infoI
  have HO0 : Hid ((w.alloc (.cells #[] 3)).ownsRow w.heap.size 3 1 (.slice (some ⟨w.heap.size, 0, none⟩) 0 0) 0 []) := Lib.hid (World.ownsRow_lit w #[] 0 (Nat.le_refl _) (by unfold maxLen; omega) rfl)
  have HB0 : Hid (Below w.heap.size w (w.alloc (.cells #[] 3))) := Lib.hid ((Below.refl _ _).alloc (Nat.le_refl _) _)
  have cC0 := fun W (hb : Below w.heap.size w W) => l10Code_any w.heap.size a n c ss W hb.size (H.out.keep hb)
  by_cases hc : cdB (txl ss) = true
  · have cB0 := fun W => l10Bits_any s 840 W (by omega) (by omega)
    rw [hc] at cC0
    have cC := Lib.hid cC0
    by_cases hb : bitB s 840 = true
    · have hok : decOk ss s = true := by unfold decOk; rw [hc, hb]; rfl
      have hL : decL ss s = dec (txl ss) 60 (tx s) := by unfold decL; rw [if_pos hok]
      have hV : decV ss s = ((s.size - (encT (txl ss) (zs (dec (txl ss) 60 (tx s)))).length : Nat) : Int) := by unfold decV; rw [if_pos hok]
      have HCd := Lib.hid (cdB_iff.1 hc)
      have h840 : s.size ≤ 840 := by unfold bitB at hb; simp only [Bool.and_eq_true, decide_eq_true_eq] at hb; exact hb.1
      have hn12 : 1 ≤ n ∧ n ≤ 12 := by have h1 := HCd.out.1; have h2 := HCd.out.2.1; rw [txl_len, L.out] at h1 h2; exact ⟨h1, h2⟩
      rw [hok, hL, hV]
      rw [hb] at cB0
      have cB := Lib.hid cB0
      clear cC0 cB0 hb hc hok hL hV
      go_enter Try.func23, Try.ntmps23
      go_wp2_with fail
      refine (cC.out _ HB0.out).mono ?_
      rintro e w1 ⟨rfl, hb1⟩
      have HB1 := Lib.hid (HB0.out.trans (hb1.mono HB0.out.size))
      have HO1 := Lib.hid (own_keep HO0.out hb1)
      clear hb1
      go_wp2_with fail
      refine (cB.out _).mono ?_
      rintro e w2 ⟨rfl, hb2⟩
      have HB2 := Lib.hid (HB1.out.trans (hb2.mono HB1.out.size))
      have HO2 := Lib.hid (own_keep HO1.out hb2)
      clear hb2 HO1 HB1 HO0 HB0
      go_wp2_with fail
      go_loopw [7, 8] (fun ov av wr => ∃ (o : List Nat) (f : Nat) (r : Txt) (m g d A : Nat), ov = .slice (some ⟨g, 0, none⟩) m d ∧ av = .int .i64 (A : Int) ∧ m + f = 60 ∧ A ≤ s.size ∧ Hid (o.length = m) ∧ Hid ((encT (txl ss) (zs o)).length = A) ∧ Hid (DecAt (txl ss) (tx s) o f r) ∧ Hid (wr.ownsRow w.heap.size 3 1 (.slice (some ⟨g, 0, none⟩) m d) m (nums o)) ∧ Hid (Below w.heap.size w wr)) (fun ov _ _ => 60 - lenOf ov)
      case atStart => exact ⟨[], 60, tx s, 0, w.heap.size, 0, 0, rfl, rfl, rfl, Nat.zero_le _, Lib.hid rfl, Lib.hid rfl, Lib.hid (DecAt.start _ _), HO2, HB2⟩
      case round =>
        clear HO2 HB2
        obtain ⟨o, f, r, m, g, d, A, rfl, rfl, hmf, hA, HM, HA, HD, HO, HB⟩ := hrel
        have HR : Hid (tx (s.extract A s.size) = r) := Lib.hid (by rw [tx_from10, ← HA.out]; exact (HD.out.left).1.symm)
        have HLen : Hid (s.size = A + r.length) := Lib.hid (by have := (HD.out.left).2; rw [tx_len, HA.out] at this; exact this)
        by_cases hm : m < 60
        · have hmi : (m : Int) < 60 := by omega
          rename World => wo
          go_wp2
          go_loopw [9, 10] (fun q i wr => ∃ (k : Nat) (z : Int), k ≤ n ∧ i = .int .i64 k ∧ q = .int .i64 z ∧ Hid (SymTo (txl ss) r k z) ∧ Hid (wr.ownsRow w.heap.size 3 1 (.slice (some ⟨g, 0, none⟩) m d) m (nums o)) ∧ Hid (Below w.heap.size w wr)) (fun _ i _ => n - (intOf i).toNat)
          case atStart => exact ⟨0, -1, Nat.zero_le _, rfl, rfl, Lib.hid (SymTo.zero _ _), HO, HB⟩
          case round =>
            clear HO HB
            obtain ⟨k, z, hk, rfl, rfl, HS, HO, HB⟩ := hrel
            by_cases hlt : k < n
            · obtain ⟨b, o2, x, rfl, _, hx, hxs, hcx⟩ := (H.out.keep HB.out).elem k hlt
              have HX := Lib.hid hx
              have hk0 : (0 : Int) ≤ (k : Int) := by omega
              have hk1 : (k : Int) < (n : Int) := by omega
              have hA0 : (0 : Int) ≤ (A : Int) := by omega
              have hA1 : (A : Int) ≤ (s.size : Int) := by omega
              clear hx
              obtain ⟨t, ht⟩ := pre_bool (tx x) r
              have cP := Lib.hid (fun W => begins_any (s.extract A s.size) x t (by rw [HR.out]; exact ht) W (by rw [ByteArray.size_extract]; omega) hxs)
              cases t with
              | true =>
                have HS2 := Lib.hid (SymTo.yes (txl_at HX.out) (ht.1 rfl))
                clear ht
                go_wp2
                go_quiet ((go_at_call 43; exact Calls.quiet_of_same ((cP.out _).mono fun _ _ h => ⟨h.1, h.2.symm⟩)))
                go_wp2
                go_roundw
                case rel => exact ⟨k + 1, _, by omega, by go_num, rfl, HS2, Lib.hid (own_stay HO.out (below_drewN (Below.refl _ _) _)), Lib.hid (below_drewN HB.out _)⟩
                case measure => simp [intOf]; omega
              | false =>
                have HS2 := Lib.hid (HS.out.no (txl_at HX.out) (fun hp => by have := ht.2 hp; cases this))
                clear ht
                go_wp2
                go_quiet ((go_at_call 43; exact Calls.quiet_of_same ((cP.out _).mono fun _ _ h => ⟨h.1, h.2.symm⟩)))
                go_wp2
                go_roundw
                case rel => exact ⟨k + 1, _, by omega, by go_num, rfl, HS2, Lib.hid (own_stay HO.out (below_drewN (Below.refl _ _) _)), Lib.hid (below_drewN HB.out _)⟩
                case measure => simp [intOf]; omega
            · rcases HS.out.done HCd.out (by rw [txl_len, L.out]; omega) with ⟨hq, hsn⟩ | ⟨j, x, hq, hsj, hj, hp⟩
              · have HE : Hid (dec (txl ss) 60 (tx s) = o) := Lib.hid (HD.out.stop (.inl hsn))
                subst hq
                clear hsn
                have hsA : (0 : Int) ≤ (s.size : Int) - (A : Int) ∧ (s.size : Int) - (A : Int) ≤ 840 := by omega
                go_wp2
                refine bodyPost_ret (v := .tuple #[.slice (some ⟨g, 0, none⟩) m d, .int .i64 ((s.size : Int) - (A : Int)), .bool true]) (by simp [results, Try.results23, go_sem]) rfl ⟨.slice (some ⟨g, 0, none⟩) m d, ?_, ?_, HB.out⟩
                · rw [HE.out, HA.out]
                  exact congrArg (fun z => Ending.returned (.tuple #[.slice (some ⟨g, 0, none⟩) m d, .int .i64 z, .bool true])) (by omega)
                · rw [HE.out, HM.out]
                  exact HO.out
              · obtain ⟨f', rfl⟩ : ∃ f', f = f' + 1 := ⟨f - 1, by omega⟩
                have HD2 := Lib.hid (HD.out.step hsj hj)
                subst hq
                have hjn : j < n := by have := (List.getElem?_eq_some_iff.1 hj).1; rw [txl_len, L.out] at this; exact this
                obtain ⟨x', hx', _⟩ := txl_inv (show j < ss.length by rw [L.out]; exact hjn)
                have hxx : x = tx x' := by have := txl_at hx'; rw [hj] at this; exact Option.some.inj this
                subst hxx
                obtain ⟨b, o2, x2, rfl, _, hx2, hxs, hcx⟩ := (H.out.keep HB.out).elem j hjn
                rw [hx'] at hx2
                cases hx2
                have HA2 : Hid ((encT (txl ss) (zs (o ++ [j]))).length = A + x'.size) := Lib.hid (by rw [encT_snoc hj, List.length_append, HA.out, tx_len])
                have hAx : A + x'.size ≤ s.size := by have h1 := hp.length_le; rw [tx_len] at h1; have := HLen.out; omega
                have hM2 : Hid ((o ++ [j]).length = m + 1) := Lib.hid (by rw [List.length_append, HM.out]; rfl)
                have HN : Hid (nums (o ++ [j]) = nums o ++ [.int .i64 (j : Int)]) := Lib.hid (by rw [nums_app]; rfl)
                have hj0 : (0 : Int) ≤ (j : Int) := by omega
                have hj1 : (j : Int) < (n : Int) := by omega
                have hzr := HB.out.size
                have HX' := Lib.hid hx'
                clear hsj hj hp hx' HS
                go_wp2_with (at_builtin; refine wpList_append_own_at _ rfl _ _ 29 rfl w.heap.size 3 i0 (.int .i64 0) 1 8 Try.underlying29 hii hz0 hz1 hz2 rfl (by decide) _ _ _ rfl (HO.out.alloc _) ⟨wr.heap.size, 0, none⟩ 1 1 [.int .i64 (j : Int)] rfl rfl (cell_one_new _ _ _) (by simp [Value.oneCell']) (by unfold maxLen; omega) (by omega) (by simp; omega) ?_; intro v3 w3 hO3 hG3 _ _; obtain ⟨g', cap', rfl⟩ := own_succ hO3; have HO3 := Lib.hid hO3; have HB3 : Hid (Below w.heap.size w w3) := Lib.hid ((HB.out.alloc (by omega) _).trans (below_grown (HO.out.alloc _) (by omega) (by simp; omega) hG3)); clear hO3 hG3 hcx; obtain ⟨b3, o3, x3, he3, _, hx3, _, hcx⟩ := (H.out.keep HB3.out).elem j hjn; rw [HX'.out] at hx3; simp only [Option.some.injEq, Addr.mk.injEq, and_true] at he3 hx3; obtain ⟨rfl, rfl⟩ := he3; subst hx3)
                go_roundw
                case rel => exact ⟨o ++ [j], f', r.drop (tx x').length, m + 1, g', cap', A + x'.size, rfl, by go_num, by omega, hAx, hM2, HA2, HD2, Lib.hid (by rw [HN.out]; exact HO3.out), HB3⟩
                case measure => simp [lenOf]; omega
        · have hmi : ¬ (m : Int) < 60 := by omega
          have hf0 : f = 0 := by omega
          have HE : Hid (dec (txl ss) 60 (tx s) = o) := Lib.hid (HD.out.stop (.inr hf0))
          have hsA : (0 : Int) ≤ (s.size : Int) - (A : Int) ∧ (s.size : Int) - (A : Int) ≤ 840 := by omega
          clear hf0
          go_wp2
          refine bodyPost_ret (v := .tuple #[.slice (some ⟨g, 0, none⟩) m d, .int .i64 ((s.size : Int) - (A : Int)), .bool true]) (by simp [results, Try.results23, go_sem]) rfl ⟨.slice (some ⟨g, 0, none⟩) m d, ?_, ?_, HB.out⟩
          · rw [HE.out, HA.out]
            exact congrArg (fun z => Ending.returned (.tuple #[.slice (some ⟨g, 0, none⟩) m d, .int .i64 z, .bool true])) (by omega)
          · rw [HE.out, HM.out]
            exact HO.out
    · have hb' : bitB s 840 = false := by simpa using hb
      have hok : decOk ss s = false := by unfold decOk; rw [hb']; simp
      have hL : decL ss s = [] := by unfold decL; rw [if_neg (by rw [hok]; decide)]
      have hV : decV ss s = 0 := by unfold decV; rw [if_neg (by rw [hok]; decide)]
      rw [hok, hL, hV]
      rw [hb'] at cB0
      have cB := Lib.hid cB0
      clear cC0 cB0 hb hb' hc hok hL hV
      go_enter Try.func23, Try.ntmps23
      go_wp2_with fail
      refine (cC.out _ HB0.out).mono ?_
      rintro e w1 ⟨rfl, hb1⟩
      have HB1 := Lib.hid (HB0.out.trans (hb1.mono HB0.out.size))
      have HO1 := Lib.hid (own_keep HO0.out hb1)
      clear hb1
      go_wp2_with fail
      refine (cB.out _).mono ?_
      rintro e w2 ⟨rfl, hb2⟩
      have HB2 := Lib.hid (HB1.out.trans (hb2.mono HB1.out.size))
      have HO2 := Lib.hid (own_keep HO1.out hb2)
      clear hb2 HO1 HB1 HO0 HB0
      go_wp2_with fail
      refine bodyPost_ret (v := .tuple #[.slice (some ⟨w.heap.size, 0, none⟩) 0 0, .int .i64 0, .bool false]) (by simp [results, Try.results23, go_sem]) rfl ⟨_, rfl, HO2.out, HB2.out⟩
  · have hc' : cdB (txl ss) = false := by simpa using hc
    have hok : decOk ss s = false := by unfold decOk; rw [hc']; simp
    have hL : decL ss s = [] := by unfold decL; rw [if_neg (by rw [hok]; decide)]
    have hV : decV ss s = 0 := by unfold decV; rw [if_neg (by rw [hok]; decide)]
    rw [hok, hL, hV]
    rw [hc'] at cC0
    have cC := Lib.hid cC0
    clear cC0 hc hc' hok hL hV
    go_enter Try.func23, Try.ntmps23
    go_wp2_with fail
    refine (cC.out _ HB0.out).mono ?_
    rintro e w1 ⟨rfl, hb1⟩
    have HB1 := Lib.hid (HB0.out.trans (hb1.mono HB0.out.size))
    have HO1 := Lib.hid (own_keep HO0.out hb1)
    clear hb1
    go_wp2_with fail
    refine bodyPost_ret (v := .tuple #[.slice (some ⟨w.heap.size, 0, none⟩) 0 0, .int .i64 0, .bool false]) (by simp [results, Try.results23, go_sem]) rfl ⟨_, rfl, HO1.out, HB1.out⟩

end Go.Proofs.Ythjafoacnfgjhab
