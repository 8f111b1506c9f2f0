/-
  The program's numbers of letters of the words that stand at the beginning of a text, found on the way down a trie; and the longest of these words.
-/
import Derived.Test.YtknoafkgeaibpaaL3
import Derived.Test.YtknoafkgeaibpaaPlaceC
import Derived.Test.YtknoafkgeaibpaaIter
import Derived.Deep.LoopGhost
import Derived.Maps.AppendAt
namespace Go.Proofs.Ytknoafkgeaibpaa
open Go.RowKit
set_option linter.unusedVariables false

theorem end_iff {t : List Nd} {ps : List Txt} (hv : Valid t ps) {j : Nat} {d : Nd} {x : Txt} (hd : t[j]? = some d) (hx : ps[j]? = some x) : x ∈ wds t ps ↔ d.e = true := by
  rw [mem_wds]
  constructor
  · rintro ⟨i, d2, h1, h2, h3⟩
    have := asc_inj hv.tells.asc h2 hx
    subst this
    rw [hd] at h1
    injection h1 with h1
    rw [h1]; exact h3
  · intro h; exact ⟨j, d, hd, hx, h⟩

theorem end_yes {t : List Nd} {ps : List Txt} (hv : Valid t ps) {j : Nat} {l p : Int} {x : Txt} (hd : t[j]? = some ⟨l, p, true⟩) (hx : ps[j]? = some x) : x ∈ wds t ps := (end_iff hv hd hx).2 rfl
theorem end_no {t : List Nd} {ps : List Txt} (hv : Valid t ps) {j : Nat} {l p : Int} {x : Txt} (hd : t[j]? = some ⟨l, p, false⟩) (hx : ps[j]? = some x) : x ∉ wds t ps := fun h => by have := (end_iff hv hd hx).1 h; cases this

set_option maxRecDepth 1000000 in
set_option maxHeartbeats 1000000 in
theorem matchesOf_any (B : Nat) (a : Option Addr) (n c : Nat) (t : List Nd) (ps : List Txt) (s : ByteArray) (w : World) (hB : B ≤ w.heap.size) (h : Nds B w a n c t) (hv : Valid t ps) (hs : Low (tx s)) (hs60 : s.size ≤ 100) :
    Calls Try.prog 44 #[.agg #[.slice a n c], .string s] w fun e w' => ∃ v, e = .returned v ∧ w'.ownsRow w.heap.size 3 1 v (Mt (wds t ps) (tx s)).length (nums (Mt (wds t ps) (tx s))) ∧ Below w.heap.size w w' := by
  have L := Lib.hid h.len
  have hn : n ≤ 481 := by have := hv.size; have := h.len; omega
  have C := h.cap
  have T := h.top
  have H := Lib.hid h
  have HB := Lib.hid hB
  have HV := Lib.hid hv
  have HLow := Lib.hid hs
  have HM : Hid (Mt (wds t ps) (tx s) = upTo (wds t ps) (tx s) s.size) := Lib.hid (by rw [mt_upTo hv.wordsAsc, tx_len])
  obtain ⟨ws, hws⟩ : ∃ ws, wds t ps = ws := ⟨_, rfl⟩
  have HWs := Lib.hid hws
  rw [hws] at HM ⊢
  rw [HM.out]
  clear h hB hv hs hws HM
  obtain ⟨i0, hii, hz0, hz1, hz2⟩ := info_parts infoI
  have HBx := Lib.hid (Boxed.new w 30 (.slice a n c))
  have hown0 := World.ownsRow_lit (base := w.heap.size + 1) (e := 3) (size := 1) (w.alloc (.cells #[.slice a n c] 30)) #[] 0 (by simp) (by unfold maxLen; omega) rfl
  have HO0 := Lib.hid hown0
  clear hown0
  go_enter Try.func44, Try.ntmps44
  go_wp2
  go_step3
  go_wp2
  go_step3
  go_wp2
  go_loopw [5, 6] (fun o p wr => ∃ (k j m : Nat) (v : Value), k ≤ s.size ∧ j < n ∧ m ≤ k ∧ p = .int .i64 j ∧ v = o ∧ Hid (ps[j]? = some ((tx s).take k)) ∧ Hid ((upTo ws (tx s) k).length = m) ∧ Hid (wr.ownsRow (w.heap.size + 1) 3 1 v m (nums (upTo ws (tx s) k))) ∧ Hid (v.ownBlock ≠ some (w.heap.size + 2)) ∧ Hid (wr.heap[w.heap.size + 2]? = some (.stringIter s k)) ∧ Hid (Boxed wr w.heap.size 30 (.slice a n c)) ∧ Hid (Below w.heap.size w wr)) (fun _ _ wr => s.size - wr.iterPos (w.heap.size + 2))
  case atStart => exact ⟨0, 0, 0, _, Nat.zero_le _, by have := HV.out.tells.pos; have := L.out; omega, Nat.le_refl _, rfl, rfl, Lib.hid (by rw [List.take_zero]; exact HV.out.tells.nil), Lib.hid rfl, Lib.hid (by have h9 := HO0.out.alloc (.stringIter s 0); rw [World.size_alloc] at h9; exact h9), Lib.hid (by simp [Value.ownBlock]), Lib.hid (by have := World.iter_heap ((w.alloc (.cells #[.slice a n c] 30)).alloc (.cells #[] 3)) s 0; simpa using this), Lib.hid ((HBx.out.alloc _).alloc _), Lib.hid ((((Below.refl _ _).alloc (Nat.le_refl _) _).alloc (by simp) _).alloc (by simp; omega) _)⟩
  case round =>
    clear HO0
    obtain ⟨k, j, m, v, hk, hjn, hmk, rfl, rfl, HJ, HM, HO, HOb, HIt, HBox, HBw⟩ := hrel
    have hpos0 : wr.iterPos (w.heap.size + 2) = k := by simp [World.iterPos, HIt.out]
    have HP0 := Lib.hid hpos0
    clear hpos0
    by_cases hlt : k < s.size
    · have hlow := HLow.out s[k] (by
        have : s[k] = (tx s)[k]'(by rw [tx_len]; exact hlt) := rfl
        rw [this]; exact List.getElem_mem _)
      have h128 : s[k].toNat < 128 := by omega
      have hnx := fun ty => Lib.run_next_ascii_at (P := Try.prog) wr (w.heap.size + 2) s k ty HIt.out hlt h128
      have HTk := Lib.hid (cap.tx_take hlt)
      obtain ⟨W1, hW1⟩ : ∃ W1, wr.iterAt (w.heap.size + 2) s (k + 1) = W1 := ⟨_, rfl⟩
      have hs0 := (Array.getElem?_eq_some_iff.1 HIt.out).1
      have HI1 : Hid (W1.heap[w.heap.size + 2]? = some (.stringIter s (k + 1))) := Lib.hid (by rw [← hW1]; exact Lib.iterAt_heap wr _ s k (k + 1) HIt.out)
      have HBox1 : Hid (Boxed W1 w.heap.size 30 (.slice a n c)) := Lib.hid (by rw [← hW1]; exact (Lib.iterAt_other wr _ w.heap.size s (k + 1) (by omega)).trans HBox.out)
      have HBw1 : Hid (Below w.heap.size w W1) := Lib.hid (by rw [← hW1]; exact Lib.below_iterAt HBw.out (by omega) s (k + 1))
      have HO1 : Hid (W1.ownsRow (w.heap.size + 1) 3 1 v m (nums (upTo ws (tx s) k))) := Lib.hid (by
        rw [← hW1]
        exact own_iterAt HO.out HIt.out)
      have hs1 : w.heap.size + 2 < W1.heap.size := (Array.getElem?_eq_some_iff.1 HI1.out).1
      simp only [hW1] at hnx
      clear hW1
      have hbx := HBox1.out.cell
      have cK := Lib.hid (cap.kidWith_any B a n c j t ps ((s[k].toNat : Int) - 97) W1 (Nat.le_trans HB.out HBw1.out.size) (H.out.keep (HBw1.out.mono HB.out)) (by omega) HV.out.tells hjn)
      obtain ⟨cn, hcn⟩ : ∃ cn : Int, (s[k].toNat : Int) = cn := ⟨_, rfl⟩
      have HCn := Lib.hid hcn
      have hcb : 97 ≤ cn ∧ cn ≤ 122 := by omega
      rw [hcn] at cK
      simp only [hcn] at hnx
      clear hcn hlow h128
      go_wp2_with fail
      refine cK.out.mono ?_
      rintro en w2 ⟨j2, ok, rfl, hyes, hno, hb2⟩
      have HY := Lib.hid hyes
      have HNo := Lib.hid hno
      have HB2 := Lib.hid hb2
      clear hyes hno hb2 hbx
      cases ok
      · have HX : Hid (upTo ws (tx s) s.size = upTo ws (tx s) k) := Lib.hid (upTo_stop (fun y hy hp => by
          have h0 : y ∈ ps := (wds_sub t ps).subset (by rw [HWs.out]; exact hy)
          have h1 : (tx s).take (k + 1) ∈ ps := cap.pre_closed HV.out h0 hp
          obtain ⟨j3, hj3⟩ := mem_at h1
          rw [HTk.out] at hj3
          have := cap.isKid_of HV.out.tells HJ.out hj3
          rw [HCn.out] at this
          exact (HNo.out (by first | rfl | trivial)).2 j3 this) _ hk)
        go_wp2
        try rw [Exit.noGoto_ret]
        go_ret
        exact ⟨_, rfl, by rw [HX.out, HM.out]; exact own_down (own_stay HO1.out HB2.out) (by omega), HBw1.out.trans (HB2.out.mono HBw1.out.size)⟩
      · have HJ2 : Hid (ps[j2]? = some ((tx s).take (k + 1))) := Lib.hid (by
          rw [HTk.out]
          refine cap.isKid_at HV.out.tells HJ.out ?_
          rw [HCn.out]
          exact HY.out (by first | rfl | trivial))
        have hj2 : j2 < n := by have := HV.out.lenEq; have := L.out; have := (List.getElem?_eq_some_iff.1 HJ2.out).1; omega
        have HI2 : Hid (w2.heap[w.heap.size + 2]? = some (.stringIter s (k + 1))) := Lib.hid ((HB2.out.block _ hs1).trans HI1.out)
        have HBox2 := Lib.hid (box_stay HBox1.out HB2.out)
        have HBw2 := Lib.hid (HBw1.out.trans (HB2.out.mono HBw1.out.size))
        have HO2 := Lib.hid (own_stay HO1.out HB2.out)
        have hbx2 := HBox2.out.cell
        have hs2 := HB2.out.size
        obtain ⟨b, o, l, p, e, rfl, hbB, hd, hl, hp, hc1, hc2, hc3⟩ := (H.out.keep (HBw2.out.mono HB.out)).elem j2 hj2
        have HD := Lib.hid hd
        clear hd
        cases e with
        | false =>
          have HU : Hid (upTo ws (tx s) (k + 1) = upTo ws (tx s) k) := Lib.hid (upTo_miss (by rw [← HWs.out]; exact end_no HV.out HD.out HJ2.out))
          go_wp2
          go_roundw
          case rel => exact ⟨k + 1, j2, m, _, by omega, hj2, by omega, rfl, rfl, HJ2, Lib.hid (by rw [HU.out]; exact HM.out), Lib.hid (by rw [HU.out]; exact HO2.out), HOb, HI2, HBox2, HBw2⟩
          case measure =>
            have e1 : w2.iterPos (w.heap.size + 2) = k + 1 := by simp [World.iterPos, HI2.out]
            rw [HP0.out, e1]
            omega
        | true =>
          have HU : Hid (upTo ws (tx s) (k + 1) = upTo ws (tx s) k ++ [k + 1]) := Lib.hid (upTo_hit (by rw [← HWs.out]; exact end_yes HV.out HD.out HJ2.out))
          go_wp2_with (first
            | (at_builtin; refine wpList_append_own_at _ rfl _ _ 34 rfl (w.heap.size + 1) 3 i0 (.int .i64 0) 1 8 Try.underlying34 hii hz0 hz1 hz2 rfl (by decide) _ _ _ rfl (HO2.out.alloc _) ⟨w2.heap.size, 0, none⟩ 1 1 [.int .i64 ((k : Int) + 1)] rfl rfl (cell_one_new _ _ _) (by simp [Value.oneCell']) (by unfold maxLen; omega) (by omega) (by simp; omega) ?_; intro v3 w3 hO3 hG3 _ hat; have HO3 := Lib.hid hO3; have HG3 := Lib.hid hG3; have HAt := Lib.hid hat; have hsz3 := hG3.size; simp only [World.size_alloc] at hsz3; clear hO3 hG3 hat))
          have HBw3 : Hid (Below w.heap.size w w3) := Lib.hid (HBw2.out.trans (((Below.refl _ w2).alloc HBw2.out.size _).trans (below_grown (HO2.out.alloc _) (by omega) (by simp; omega) HG3.out)))
          have HI3 : Hid (w3.heap[w.heap.size + 2]? = some (.stringIter s (k + 1))) := Lib.hid ((HG3.out.block _ (by simp; omega) (fun e => HOb.out e.symm)).trans ((heap_alloc_old _ _ _ (by omega)).trans HI2.out))
          have HBox3 : Hid (Boxed w3 w.heap.size 30 (.slice (some ⟨b, o, none⟩) n c)) := Lib.hid ((HG3.out.block _ (by simp; omega) (fun e => by have := (own_ge HO2.out e.symm).1; omega)).trans (HBox2.out.alloc _))
          have HOb3 : Hid (v3.ownBlock ≠ some (w.heap.size + 2)) := Lib.hid (by
            rcases HAt.out with h | h
            · rw [h]; exact HOb.out
            · rw [h]; simp; omega)
          go_roundw
          case rel => exact ⟨k + 1, j2, m + 1, v3, by omega, hj2, by omega, rfl, rfl, HJ2, Lib.hid (by rw [HU.out, List.length_append, HM.out]; rfl), Lib.hid (by rw [HU.out, nums_app]; exact HO3.out), HOb3, HI3, HBox3, HBw3⟩
          case measure =>
            have e1 : w3.iterPos (w.heap.size + 2) = k + 1 := by simp [World.iterPos, HI3.out]
            rw [HP0.out, e1]
            omega
    · have hnx := fun ty => Lib.run_next_end_at (P := Try.prog) wr (w.heap.size + 2) s k ty HIt.out hlt
      have e : k = s.size := by omega
      have HM2 : Hid ((upTo ws (tx s) s.size).length = m) := Lib.hid (by rw [← e]; exact HM.out)
      have HO2 : Hid (wr.ownsRow (w.heap.size + 1) 3 1 v m (nums (upTo ws (tx s) s.size))) := Lib.hid (by rw [← e]; exact HO.out)
      clear e
      go_wp2
      try rw [Exit.noGoto_ret]
      go_ret
      exact ⟨_, rfl, by rw [HM2.out]; exact own_down HO2.out (by omega), HBw.out⟩

end Go.Proofs.Ytknoafkgeaibpaa
