/-
  The trie of a text: what the program's function answers.
-/
import Derived.Test.YtjcaikfejgeknabReadTrie
import Derived.Test.YtjcaikfejgeknabGatherM
import Derived.Test.YtjcaikfejgeknabTxtMax
import Derived.Test.YtjcaikfejgeknabTrieText
namespace Go.Proofs.Ytjcaikfejgeknab
open Go.RowKit
set_option linter.unusedVariables false

theorem txt_ascii {t : List Nd} {ps : List Txt} (h : Tells t t.length ps) : ∀ (f i : Nat), ∀ c ∈ txtOf t f i, c.toNat < 128
  | 0, i, c, hc => by simp [txtOf] at hc
  | f + 1, i, c, hc => by
    by_cases hi : i < t.length
    · obtain ⟨d, x, hd, hx⟩ := h.at hi
      have e : txtOf t (f + 1) i = ((if i = 0 then [] else [UInt8.ofNat (97 + d.l).toNat]) ++ (if d.e then [46] else [])) ++
          (if (kidsTo t i t.length).length = 0 then [] else [40] ++ (kidsTo t i t.length).flatMap (txtOf t f) ++ [41]) := by
        simp only [txtOf, hd]
      rw [e] at hc
      rcases List.mem_append.1 hc with hc | hc
      · rcases List.mem_append.1 hc with hc | hc
        · split at hc
          · cases hc
          · rename_i h0
            rw [List.mem_singleton] at hc
            obtain ⟨j, y, q, _, _, hl, q0, q1, _, _⟩ := h.step i d (by omega) hi hd
            rw [hc]
            have : (97 + d.l).toNat = q.toNat := by omega
            rw [this]
            simp
            omega
        · split at hc
          · rw [List.mem_singleton] at hc
            rw [hc]
            decide
          · cases hc
      · split at hc
        · cases hc
        · rcases List.mem_append.1 hc with hc | hc
          · rcases List.mem_append.1 hc with hc | hc
            · rw [List.mem_singleton] at hc
              rw [hc]
              decide
            · obtain ⟨j, _, hj⟩ := List.mem_flatMap.1 hc
              exact txt_ascii h f j c hj
          · rw [List.mem_singleton] at hc
            rw [hc]
            decide
    · have : t[i]? = none := List.getElem?_eq_none (by omega)
      simp only [txtOf, this] at hc
      cases hc

/-- the text of a valid trie is read as that trie -/
theorem rdT_text {t : List Nd} {ps : List Txt} (hv : Valid t ps) {s : ByteArray} (hs : bx (txtOf t t.length 0) = s) : rdT s = t := by
  have hx : tx s = txtOf t t.length 0 := by rw [← hs, tx_bx]
  obtain ⟨op, ho⟩ := rd_whole hv
  have h1 := rest_ascii (s := s) (fun c hc => by rw [hx] at hc; exact txt_ascii hv.tells _ _ c hc) s.size 0 start0 (by omega)
  rw [List.drop_zero, hx] at h1
  have h2 : rd start0 (txtOf t t.length 0) = some (t, op) := ho
  unfold rdT
  rw [h1, h2]
  rfl

noncomputable def parOk (s : ByteArray) : Bool := trieB (rdT s) && decide (txtT (rdT s) = s)
noncomputable def parT (s : ByteArray) : List Nd := if parOk s then rdT s else []

theorem parT_yes {s : ByteArray} (h : parOk s = true) : parT s = rdT s := if_pos h
theorem parT_no {s : ByteArray} (h : parOk s = false) : parT s = [] := by unfold parT; rw [h]; rfl

/-- the words along a text -/
def gw (s : ByteArray) : List Txt := (ga ([], [], []) (tx s)).1

/-- what the reference asks -/
noncomputable def parS (s : ByteArray) : Bool := decide (s.size ≤ 1443) && (setOk (gw s) && decide (txtT (made (setOf (gw s))) = s))

theorem txtT_of {t : List Nd} (h : IsT t) : txtT t = bx (txtOf t t.length 0) := if_pos (trieB_iff.2 h)

theorem par_both (s : ByteArray) : parOk s = parS s ∧ (parOk s = true → rdT s = made (setOf (gw s))) := by
  have fwd : parOk s = true → parS s = true ∧ rdT s = made (setOf (gw s)) := fun h => by
    unfold parOk at h
    simp only [Bool.and_eq_true, decide_eq_true_eq] at h
    obtain ⟨h1, h2⟩ := h
    have hT := trieB_iff.1 h1
    rw [txtT_of hT] at h2
    obtain ⟨ps, hv⟩ := hT
    have hx : tx s = txtOf (rdT s) (rdT s).length 0 := by
      have := congrArg tx h2
      rw [tx_bx] at this
      exact this.symm
    have hsz : s.size ≤ 1443 := by rw [← tx_len, hx]; exact text_max hv _
    obtain ⟨l, hg⟩ := ga_whole hv
    have hgw : gw s = wds (rdT s) ps := by unfold gw; rw [hx, hg]
    have hset : setOf (gw s) = wds (rdT s) ps := by rw [hgw, setOf_id hv.wordsAsc]
    have hok : setOk (gw s) = true := by
      rw [setOk_all (by rw [hgw]; exact hv.wordsW), hset]
      exact decide_eq_true (by rw [hv.wordsLen]; exact hv.few)
    have hmade : made (setOf (gw s)) = rdT s := by rw [hset, made_wds hv]
    refine ⟨?_, hmade.symm⟩
    unfold parS
    rw [hok, hmade, txtT_of ⟨ps, hv⟩, h2]
    simp [hsz]
  have bwd : parS s = true → parOk s = true := fun h => by
    unfold parS at h
    simp only [Bool.and_eq_true, decide_eq_true_eq] at h
    obtain ⟨h1, h2, h3⟩ := h
    have hv := made_valid (setOf_asc (gw s)) (setOk_words h2).1 (setOk_words h2).2
    have h4 := h3
    rw [txtT_of ⟨_, hv⟩] at h4
    have hr := rdT_text hv h4
    unfold parOk
    rw [hr, trieB_iff.2 ⟨_, hv⟩, h3]
    simp
  refine ⟨?_, fun h => (fwd h).2⟩
  cases h : parOk s with
  | true => rw [(fwd h).1]
  | false =>
    cases h2 : parS s with
    | true => rw [bwd h2] at h; cases h
    | false => rfl

theorem bx_list {a b : ByteArray} : (a.toList == b.toList) = decide (a = b) := str_eq_list a b

set_option maxRecDepth 1000000 in
set_option maxHeartbeats 2000000 in
theorem implParseTrie_any (s : ByteArray) (w : World) (hs : s.size ≤ 9223372036854775807) :
    Calls Try.prog 31 #[.string s] w (TrieRes w (parT s) (parOk s)) := by
  have HBox := Lib.hid (Boxed.new w 30 (.slice none 0 0))
  have HB1 : Hid (Below w.heap.size w (w.alloc (.cells #[.slice none 0 0] 30))) := Lib.hid ((Below.refl _ _).alloc (Nat.le_refl _) _)
  have hlt : w.heap.size < (w.alloc (.cells #[.slice none 0 0] 30)).heap.size := by simp
  obtain ⟨ok, hok⟩ : ∃ ok, parOk s = ok := ⟨_, rfl⟩
  obtain ⟨tt, htt⟩ : ∃ tt, parT s = tt := ⟨_, rfl⟩
  rw [hok, htt]
  have HOK := Lib.hid hok
  have HTT := Lib.hid htt
  clear hok htt
  go_enter Try.func31, Try.ntmps31
  go_wp2_with fail
  obtain ⟨W1, hW1⟩ : ∃ W1, w.alloc (.cells #[.slice none 0 0] 30) = W1 := ⟨_, rfl⟩
  rw [hW1] at HBox HB1 hlt ⊢
  clear hW1
  refine (readTrie_any s W1 hs).mono ?_
  rintro e w2 ⟨v2, rfl, hO2, hfit, hlen, hb2⟩
  obtain ⟨rt, hrt⟩ : ∃ rt, rdT s = rt := ⟨_, rfl⟩
  have HRT := Lib.hid hrt
  rw [hrt] at hO2 hfit hlen
  obtain ⟨m, hm⟩ : ∃ m, rt.length = m := ⟨_, rfl⟩
  rw [hm] at hO2 hlen
  obtain ⟨a2, c2, rfl⟩ := own_slice hO2
  have HFit := Lib.hid hfit
  have HM := Lib.hid hm
  have HB2 := Lib.hid (HB1.out.trans (hb2.mono HB1.out.size))
  have HBoxA := Lib.hid (Boxed.new w2 30 (.slice a2 m c2))
  have HBox3 := Lib.hid ((box_stay HBox.out hb2).alloc (.cells #[.slice a2 m c2] 30))
  have HO3 := Lib.hid (hO2.alloc (.cells #[.slice a2 m c2] 30))
  have HB3 := Lib.hid (HB2.out.alloc HB2.out.size (.cells #[.slice a2 m c2] 30))
  have hz2 := hb2.size
  clear hrt hO2 hfit hm hb2
  have hbx := HBoxA.out.cell
  go_wp2_with fail
  clear hbx
  obtain ⟨w3, hw3⟩ : ∃ w3, w2.alloc (.cells #[.slice a2 m c2] 30) = w3 := ⟨_, rfl⟩
  rw [hw3] at HBoxA HBox3 HO3 HB3 ⊢
  clear hw3
  have cT := Lib.hid (implTrieText_any w3.heap.size a2 m c2 rt w3 (Nat.le_refl _) (nds_own HO3.out HFit.out))
  obtain ⟨r, hr⟩ : ∃ r, trieB rt = r := ⟨_, rfl⟩
  obtain ⟨x, hx⟩ : ∃ x, txtT rt = x := ⟨_, rfl⟩
  rw [hr, hx] at cT
  have HE : Hid (ok = (r && decide (x = s))) := Lib.hid (by rw [← HOK.out, ← hr, ← hx, ← HRT.out]; rfl)
  clear hr hx
  refine cT.out.mono ?_
  rintro e w4 ⟨rfl, hb4⟩
  have HBox4 := Lib.hid (box_stay HBox3.out hb4)
  have HBoxA4 := Lib.hid (box_stay HBoxA.out hb4)
  have HO4 := Lib.hid (own_stay HO3.out hb4)
  have HB4 := Lib.hid (HB3.out.trans (hb4.mono HB3.out.size))
  clear hb4
  have hrc := HBox4.out.cell
  have hrf := HBox4.out.frozen
  cases r with
  | false =>
    have hk := HE.out
    rw [Bool.false_and] at hk
    subst hk
    obtain rfl : tt = [] := HTT.out.symm.trans (parT_no HOK.out)
    go_wp2
    refine bodyPost_ret (v := .tuple #[.agg #[.slice none 0 0], .bool false]) (by simp [results, Try.results31, go_sem, hrc]) rfl ⟨_, rfl, World.ownsRow_nil _ _ _ _, HB4.out.setCell (p := ⟨w.heap.size, 0, none⟩) (Nat.le_refl _) _⟩
  | true =>
    by_cases hxs : x = s
    · subst hxs
      have hk := HE.out
      rw [Bool.true_and, decide_eq_true rfl] at hk
      subst hk
      obtain rfl : tt = rt := HTT.out.symm.trans ((parT_yes HOK.out).trans HRT.out)
      have hq : (x.toList == x.toList) = true := by simp
      have hac := HBoxA4.out.cell
      go_wp2
      refine bodyPost_ret (v := .tuple #[.agg #[.slice a2 m c2], .bool true]) (by simp [results, Try.results31, go_sem, hrc]) rfl ⟨_, rfl, ?_, HB4.out.setCell (p := ⟨w.heap.size, 0, none⟩) (Nat.le_refl _) _⟩
      rw [HM.out]
      exact (own_down HO4.out (by omega)).kept (grownBy_setCell' w4 w.heap.size _) (.inr (HBox4.out.not_row (by decide) HO4.out).symm)
    · have hk := HE.out
      rw [Bool.true_and, decide_eq_false hxs] at hk
      subst hk
      obtain rfl : tt = [] := HTT.out.symm.trans (parT_no HOK.out)
      have hq : (x.toList == s.toList) = false := by rw [bx_list]; exact decide_eq_false hxs
      clear hxs
      go_wp2
      refine bodyPost_ret (v := .tuple #[.agg #[.slice none 0 0], .bool false]) (by simp [results, Try.results31, go_sem, hrc]) rfl ⟨_, rfl, World.ownsRow_nil _ _ _ _, HB4.out.setCell (p := ⟨w.heap.size, 0, none⟩) (Nat.le_refl _) _⟩

end Go.Proofs.Ytjcaikfejgeknab
