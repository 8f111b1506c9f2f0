/-
  The trie of a text: what the reference's function answers.
-/
import Derived.Test.YtjcaikfejgeknabParse
namespace Go.Proofs.Ytjcaikfejgeknab
open Go.RowKit
set_option linter.unusedVariables false

theorem tx_cut {s : ByteArray} {a b : Nat} : tx (s.extract a b) = ((tx s).take b).drop a := by
  simp [tx, List.drop_take]

theorem gw_step {s : ByteArray} {k : Nat} (h : k < s.size) (st : GS) : ga st ((tx s).take (k + 1)) = gstep (ga st ((tx s).take k)) s[k] := by
  have e : (tx s).take (k + 1) = (tx s).take k ++ [s[k]] := by
    rw [List.take_succ_eq_append_getElem (by rw [tx_len]; exact h)]
    rfl
  rw [e, ga_app]
  rfl

set_option maxRecDepth 1000000 in
set_option maxHeartbeats 4000000 in
theorem l2Parse_any (s : ByteArray) (w : World) (hs : s.size ≤ 9223372036854775807) :
    Calls Try.prog 88 #[.string s] w (ReadRes w (parT s) (parOk s)) := by
  obtain ⟨hb1, hb2⟩ := par_both s
  obtain ⟨ok, hok⟩ : ∃ ok, parOk s = ok := ⟨_, rfl⟩
  obtain ⟨tt, htt⟩ : ∃ tt, parT s = tt := ⟨_, rfl⟩
  have HE : Hid (ok = parS s) := Lib.hid (by rw [← hok, hb1])
  have HTn : Hid (ok = false → tt = []) := Lib.hid (fun h => by rw [← htt]; exact parT_no (hok.trans h))
  have HTy : Hid (ok = true → tt = made (setOf (gw s))) := Lib.hid (fun h => by rw [← htt, parT_yes (hok.trans h)]; exact hb2 (hok.trans h))
  rw [hok, htt]
  clear hb1 hb2 hok htt
  have HBox0 : Hid (Boxed ((w.alloc (.cells #[.slice none 0 0] 30)).alloc (.cells #[] 9)) w.heap.size 30 (.slice none 0 0)) := Lib.hid ((Boxed.new w _ _).alloc _)
  have HB0 : Hid (Below w.heap.size w ((w.alloc (.cells #[.slice none 0 0] 30)).alloc (.cells #[] 9))) := Lib.hid (((Below.refl _ _).alloc (Nat.le_refl _) _).alloc (by simp) _)
  have HO0 : Hid (((w.alloc (.cells #[.slice none 0 0] 30)).alloc (.cells #[] 9)).ownsRow (w.heap.size + 1) 9 1 (.slice (some ⟨w.heap.size + 1, 0, none⟩) 0 0) 0 []) := Lib.hid (by
    have := World.ownsRow_lit (base := w.heap.size + 1) (e := 9) (size := 1) (w.alloc (.cells #[.slice none 0 0] 30)) #[] 0 (by simp) (by unfold maxLen; omega) rfl
    simpa using this)
  obtain ⟨i0, hii, hz0, hz1, hz2⟩ := info_parts infoS
  by_cases hbig : 1443 < s.size
  · obtain rfl : ok = false := by rw [HE.out]; unfold parS; simp; omega
    obtain rfl := HTn.out rfl
    have hrc := HBox0.out.cell
    have hrf := HBox0.out.frozen
    go_enter Try.func88, Try.ntmps88
    go_wp2
    refine bodyPost_ret (v := .tuple #[.agg #[.slice none 0 0], .bool false]) (by simp [results, Try.results88, go_sem, hrc]) rfl ⟨_, _, rfl, nds_nil _ _, HB0.out⟩
  · have hs1443 : s.size ≤ 1443 := by omega
    have HE2 : Hid (ok = (setOk (gw s) && decide (txtT (made (setOf (gw s))) = s))) := Lib.hid (by rw [HE.out]; unfold parS; rw [decide_eq_true hs1443, Bool.true_and])
    go_enter Try.func88, Try.ntmps88
    go_wp2
    go_loopw [4, 5, 6, 7] (fun v p l i wr => ∃ (k n : Nat) (v' : Value) (P L : ByteArray) (ws : List Txt), k ≤ s.size ∧ i = .int .i64 k ∧ v' = v ∧ p = .string P ∧ l = .string L ∧ P.size + L.size ≤ k ∧ n ≤ k ∧ Hid (ws.length = n) ∧ Hid (∀ x ∈ ws, x.length ≤ 1443) ∧ Hid (ga ([], [], []) ((tx s).take k) = (ws, tx P, tx L)) ∧ Hid (wr.ownsRow (w.heap.size + 1) 9 1 v' n (ws.map fun x => Value.string (bx x))) ∧ Hid (Boxed wr w.heap.size 30 (.slice none 0 0)) ∧ Hid (Below w.heap.size w wr)) (fun _ _ _ i _ => s.size - (intOf i).toNat)
    case atStart => exact ⟨0, 0, _, ⟨#[]⟩, ⟨#[]⟩, [], Nat.zero_le _, rfl, rfl, rfl, rfl, Nat.le_refl _, Nat.le_refl _, Lib.hid rfl, Lib.hid (by simp), Lib.hid rfl, HO0, HBox0, HB0⟩
    case round =>
      clear HO0 HBox0 HB0
      obtain ⟨k, n, v', P, L, ws, hk, rfl, rfl, rfl, rfl, hPL, hnk, HN, HW, HGa, HO, HBox, HBw⟩ := hrel
      by_cases hlt : k < s.size
      · have HGs := Lib.hid (gw_step hlt ([], [], []))
        have hi0 : (0 : Int) ≤ (k : Int) := by omega
        have hi1 : (k : Int) < (s.size : Int) := by omega
        have hi2 : (k : Int) + 1 ≤ (s.size : Int) := by omega
        rw [HGa.out] at HGs
        have hzz := HBox.out.lt
        have hcat : ¬ (9223372036854775807 < P.size + L.size) := by omega
        have hcat3 : ∀ W, (Op.stringOp .add P L).run Try.prog W = .ok (.string (P ++ L)) W := fun W => run_string_add_sum W P L (by omega)
        have hPLs : (P ++ L).size ≤ k := by rw [ByteArray.size_append]; exact hPL
        have HPLt : Hid (tx (P ++ L) = tx P ++ tx L) := Lib.hid (by simp)
        by_cases h46 : s[k] = 46
        · have hq : ((s[k].toNat : Int) == 46) = true := by rw [h46]; rfl
          have HG2 : Hid (ga ([], [], []) ((tx s).take (k + 1)) = (ws ++ [tx (P ++ L)], tx P, tx L)) := Lib.hid (by rw [HGs.out, HPLt.out, h46]; rfl)
          have HNew : Hid ((ws.map fun x => Value.string (bx x)) ++ [.string (P ++ L)] = (ws ++ [tx (P ++ L)]).map fun x => Value.string (bx x)) := Lib.hid (by rw [List.map_append, List.map_cons, bx_tx]; rfl)
          have HW2 : Hid (∀ x ∈ ws ++ [tx (P ++ L)], x.length ≤ 1443) := Lib.hid (fun x hx => by
            rcases List.mem_append.1 hx with hx | hx
            · exact HW.out x hx
            · rw [List.mem_singleton.1 hx, tx_len]; omega)
          have HN2 : Hid ((ws ++ [tx (P ++ L)]).length = n + 1) := Lib.hid (by rw [List.length_append, HN.out]; rfl)
          clear h46
          go_wp2_with (at_builtin; refine wpList_append_own_at _ rfl _ _ 34 rfl (w.heap.size + 1) 9 i0 (.string ByteArray.empty) 1 16 Try.underlying34 hii hz0 hz1 hz2 rfl (by decide) _ _ _ rfl (HO.out.alloc _) ⟨_, 0, none⟩ 1 1 [.string (P ++ L)] rfl rfl (cell_one_new _ _ _) (by simp [Value.oneCell']) (by unfold maxLen; omega) (by omega) (by simp; omega) ?_; intro v2 w2 hO2 hG2 _ hat2; rw [HNew.out] at hO2; have HO2 := Lib.hid hO2; have hGr := Grew.app hG2 hat2; have HB2 := Lib.hid (HBw.out.trans ((hGr.to HO.out (by omega)).mono (by omega))); have HBox2 := Lib.hid (HBox.out.kept hGr.grown (HBox.out.not_row (by decide) HO.out)); clear hO2 hG2 hat2 hGr)
          go_roundw
          case rel => exact ⟨k + 1, n + 1, v2, P, L, _, by omega, by go_num, rfl, rfl, rfl, by omega, by omega, HN2, HW2, HG2, HO2, HBox2, HB2⟩
          case measure => simp [intOf]; omega
        · have hq : ((s[k].toNat : Int) == 46) = false := by
            simp only [beq_eq_false_iff_ne, ne_eq]
            intro e
            exact h46 (UInt8.toNat_inj.1 (by show s[k].toNat = 46; omega))
          by_cases h40 : s[k] = 40
          · have hq2 : ((s[k].toNat : Int) == 40) = true := by rw [h40]; rfl
            have HG2 : Hid (ga ([], [], []) ((tx s).take (k + 1)) = (ws, tx (P ++ L), tx ⟨#[]⟩)) := Lib.hid (by rw [HGs.out, HPLt.out, h40]; rfl)
            clear h46 h40
            go_wp2
            go_roundw
            case rel => exact ⟨k + 1, n, _, P ++ L, ⟨#[]⟩, ws, by omega, by go_num, rfl, rfl, rfl, by show (P ++ L).size + 0 ≤ _; omega, by omega, HN, HW, HG2, HO, HBox, HBw⟩
            case measure => simp [intOf]; omega
          · have hq2 : ((s[k].toNat : Int) == 40) = false := by
              simp only [beq_eq_false_iff_ne, ne_eq]
              intro e
              exact h40 (UInt8.toNat_inj.1 (by show s[k].toNat = 40; omega))
            by_cases h41 : s[k] = 41
            · have hq3 : ((s[k].toNat : Int) == 41) = true := by rw [h41]; rfl
              by_cases hP0 : P = ⟨#[]⟩
              · subst hP0
                have HG2 : Hid (ga ([], [], []) ((tx s).take (k + 1)) = (ws, tx ⟨#[]⟩, tx ⟨#[]⟩)) := Lib.hid (by rw [HGs.out, h41]; rfl)
                clear h46 h40 h41
                go_wp2
                go_roundw
                case rel => exact ⟨k + 1, n, _, ⟨#[]⟩, ⟨#[]⟩, ws, by omega, by go_num, rfl, rfl, rfl, by show 0 + 0 ≤ _; omega, by omega, HN, HW, HG2, HO, HBox, HBw⟩
                case measure => simp [intOf]; omega
              · have hpe : (P.toList == (⟨#[]⟩ : ByteArray).toList) = false := by rw [bx_list]; exact decide_eq_false hP0
                have hpl : ¬ P.toList = [] := by
                  intro e
                  exact hP0 (by
                    apply tx_inj
                    have := Lib.toList_data P
                    rw [e] at this
                    simpa using this.symm)
                have hpi : P.toList.isEmpty = false := by simpa using hpl
                have hpos : 1 ≤ P.size := by
                  rcases Nat.eq_zero_or_pos P.size with e | e
                  · exact absurd (by apply tx_inj; exact List.eq_nil_of_length_eq_zero (by rw [tx_len]; exact e)) hP0
                  · exact e
                have hp1 : (1 : Int) ≤ (P.size : Int) := by omega
                have hp2 : ((P.size : Int) - 1).toNat = P.size - 1 := by omega
                have hp3 : (0 : Int) ≤ (P.size : Int) - 1 := by omega
                have hp4 : (P.size : Int) - 1 ≤ (P.size : Int) := by omega
                have HG2 : Hid (ga ([], [], []) ((tx s).take (k + 1)) = (ws, tx (P.extract 0 (P.size - 1)), tx (P.extract (P.size - 1) P.size))) := Lib.hid (by
                  rw [HGs.out, h41, tx_cut, tx_cut]
                  have hne : tx P ≠ [] := fun e => hP0 (tx_inj e)
                  have e1 : (tx P).take (P.size - 1) = (tx P).dropLast := by rw [List.dropLast_eq_take, tx_len]
                  have e2 : ((tx P).take P.size).drop (P.size - 1) = [(tx P).getLastD 0] := by
                    rw [List.take_of_length_le (by rw [tx_len]; exact Nat.le_refl _)]
                    have := List.dropLast_concat_getLast hne
                    have hl : (tx P).dropLast.length = P.size - 1 := by rw [List.length_dropLast, tx_len]
                    rw [← this, List.drop_append_of_le_length (by rw [hl]; exact Nat.le_refl _), List.drop_of_length_le (by rw [hl]; exact Nat.le_refl _)]
                    simp
                  rw [e1, e2, List.drop_zero]
                  have h0 : ¬ (41 : UInt8) = 46 := by decide
                  have h00 : ¬ (41 : UInt8) = 40 := by decide
                  simp only [gstep, if_neg h0, if_neg h00, if_true, if_neg hne])
                have hz1 : (P.extract 0 (P.size - 1)).size + (P.extract (P.size - 1) P.size).size ≤ k + 1 := by
                  rw [ByteArray.size_extract, ByteArray.size_extract]; omega
                clear h46 h40 h41 hP0
                go_wp2
                go_roundw
                case rel => exact ⟨k + 1, n, _, P.extract 0 (P.size - 1), P.extract (P.size - 1) P.size, ws, by omega, by go_num, rfl, rfl, rfl, hz1, by omega, HN, HW, HG2, HO, HBox, HBw⟩
                case measure => simp [intOf]; omega
            · have hq3 : ((s[k].toNat : Int) == 41) = false := by
                simp only [beq_eq_false_iff_ne, ne_eq]
                intro e
                exact h41 (UInt8.toNat_inj.1 (by show s[k].toNat = 41; omega))
              have HG2 : Hid (ga ([], [], []) ((tx s).take (k + 1)) = (ws, tx P, tx (s.extract k (k + 1)))) := Lib.hid (by
                rw [HGs.out, tx_cut]
                have e : ((tx s).take (k + 1)).drop k = [s[k]] := by
                  rw [List.take_succ_eq_append_getElem (by rw [tx_len]; exact hlt), List.drop_append_of_le_length (by simp; omega), List.drop_of_length_le (by simp; omega)]
                  rfl
                rw [e]
                simp only [gstep, if_neg h46, if_neg h40, if_neg h41])
              have hz1 : P.size + (s.extract k (k + 1)).size ≤ k + 1 := by
                rw [ByteArray.size_extract]; omega
              clear h46 h40 h41
              go_wp2
              go_roundw
              case rel => exact ⟨k + 1, n, _, P, s.extract k (k + 1), ws, by omega, by go_num, rfl, rfl, rfl, hz1, by omega, HN, HW, HG2, HO, HBox, HBw⟩
              case measure => simp [intOf]; omega
      · have hx : (tx s).take k = tx s := List.take_of_length_le (by rw [tx_len]; omega)
        have hgw : gw s = ws := by
          have := HGa.out
          rw [hx] at this
          unfold gw
          rw [this]
        rw [hgw] at HE2 HTy
        obtain ⟨a9, c9, rfl, hWd⟩ := own_wds HO.out (fun x hx => by have := HW.out x hx; omega)
        have HWd := Lib.hid hWd
        have cSet := Lib.hid (l2Set_any wr.heap.size a9 n c9 ws wr (Nat.le_refl _) hWd (by omega))
        clear hx hgw hWd
        obtain ⟨r, hr⟩ : ∃ r, setOk ws = r := ⟨_, rfl⟩
        have HR := Lib.hid hr
        rw [hr] at cSet HE2
        clear hr
        cases r with
        | false =>
          have hk := HE2.out
          rw [Bool.false_and] at hk
          subst hk
          obtain rfl := HTn.out rfl
          go_wp2_with (go_at_call 74; refine cSet.out.mono ?_; rintro e w2 ⟨a2, n2, c2, rfl, _, hb2⟩; have HB2 := Lib.hid (HBw.out.trans (hb2.mono HBw.out.size)); have hrc := (box_stay HBox.out hb2).cell; have hrf := (box_stay HBox.out hb2).frozen; clear hb2)
          refine bodyPost_ret (v := .tuple #[.agg #[.slice none 0 0], .bool false]) (by simp [results, Try.results88, go_sem, hrc]) rfl ⟨_, _, rfl, nds_nil _ _, HB2.out.setCell (p := ⟨w.heap.size, 0, none⟩) (Nat.le_refl _) _⟩
        | true =>
          have hv := made_valid (setOf_asc ws) (setOk_words HR.out).1 (setOk_words HR.out).2
          have HV := Lib.hid hv
          have h40 := (setOk_words HR.out).2
          have H40 := Lib.hid h40
          have HIs := Lib.hid (setOk_words HR.out).1
          have hpos := hv.tells.pos
          have hk := HE2.out
          rw [Bool.true_and, txtT_of ⟨_, hv⟩] at hk
          obtain ⟨m, hm⟩ : ∃ m, (made (setOf ws)).length = m := ⟨_, rfl⟩
          have HM := Lib.hid hm
          obtain ⟨x, hx⟩ : ∃ x, bx (txtOf (made (setOf ws)) m 0) = x := ⟨_, rfl⟩
          have HX := Lib.hid hx
          rw [hm, hx] at hk
          rw [hm] at hpos
          have HK := Lib.hid hk
          clear hv h40 hk hm hx
          go_wp2_with (first
            | (go_at_call 74; refine cSet.out.mono ?_; rintro e w2 ⟨a2, n2, c2, rfl, hW2, hb2⟩; have HW2 := Lib.hid (hW2 rfl); have hl2 : n2 ≤ 40 := (by have := HW2.out.len; have := H40.out; omega); have HB2 := Lib.hid (HBw.out.trans (hb2.mono HBw.out.size)); have HBox2 := Lib.hid (box_stay HBox.out hb2); clear hb2 hW2)
            | (go_at_call 75; refine (l2Of_any w2.heap.size a2 n2 c2 (setOf ws) w2 (Nat.le_refl _) HW2.out hl2 HIs.out).mono ?_; rintro e w3 ⟨a3, n3, c3, ps3, rfl, hN3, hP3, _, hb3⟩; rw [made_of hP3] at hN3; obtain rfl : m = n3 := (HM.out.symm.trans hN3.len); have HN3 := Lib.hid hN3; have HB3 := Lib.hid (HB2.out.trans (hb3.mono HB2.out.size)); have HBox3 := Lib.hid (box_stay HBox2.out hb3); clear hN3 hP3 hb3; have HBoxA := Lib.hid (Boxed.new w3 30 (.slice a3 m c3)); have hac := HBoxA.out.cell)
            | fail)
          clear hac
          have HBox4 := Lib.hid (HBox3.out.alloc (.cells #[.slice a3 m c3] 30))
          have HB4 := Lib.hid (HB3.out.alloc HB3.out.size (.cells #[.slice a3 m c3] 30))
          have HN4 : Hid (Nds w3.heap.size (w3.alloc (.cells #[.slice a3 m c3] 30)) a3 m c3 (made (setOf ws))) := Lib.hid (HN3.out.keep ((Below.refl _ _).alloc (Nat.le_refl _) _))
          have hz4 : w3.heap.size ≤ (w3.alloc (.cells #[.slice a3 m c3] 30)).heap.size := by simp
          obtain ⟨w4, hw4⟩ : ∃ w4, w3.alloc (.cells #[.slice a3 m c3] 30) = w4 := ⟨_, rfl⟩
          rw [hw4] at HBoxA HBox4 HB4 HN4 hz4 ⊢
          clear hw4
          have cT := Lib.hid (l2Text_any w3.heap.size a3 m c3 (made (setOf ws)) _ HV.out m 0 w4 (by omega) hpos hz4 HN4.out)
          rw [HX.out] at cT
          refine cT.out.mono ?_
          rintro e w5 ⟨rfl, hb5⟩
          have HBox5 := Lib.hid (box_stay HBox4.out hb5)
          have HBoxA5 := Lib.hid (box_stay HBoxA.out hb5)
          have HN5 := Lib.hid ((HN4.out.keep (hb5.mono hz4)).mono (Nat.le_trans hz4 hb5.size))
          have HB5 := Lib.hid (HB4.out.trans (hb5.mono HB4.out.size))
          clear hb5
          have hrc := HBox5.out.cell
          have hrf := HBox5.out.frozen
          by_cases hxs : x = s
          · subst hxs
            have hk := HK.out
            rw [decide_eq_true rfl] at hk
            subst hk
            obtain rfl := HTy.out rfl
            have hq : (x.toList == x.toList) = true := by simp
            have hac := HBoxA5.out.cell
            go_wp2
            refine bodyPost_ret (v := .tuple #[.agg #[.slice a3 m c3], .bool true]) (by simp [results, Try.results88, go_sem, hrc]) rfl ⟨_, _, by rw [HM.out], ?_, HB5.out.setCell (p := ⟨w.heap.size, 0, none⟩) (Nat.le_refl _) _⟩
            rw [HM.out]
            have := HN5.out.box HBox5.out (.slice a3 m c3)
            simpa [World.setCell] using this
          · have hk := HK.out
            rw [decide_eq_false hxs] at hk
            subst hk
            obtain rfl := HTn.out rfl
            have hq : (x.toList == s.toList) = false := by rw [bx_list]; exact decide_eq_false hxs
            clear hxs
            go_wp2
            refine bodyPost_ret (v := .tuple #[.agg #[.slice none 0 0], .bool false]) (by simp [results, Try.results88, go_sem, hrc]) rfl ⟨_, _, rfl, nds_nil _ _, HB5.out.setCell (p := ⟨w.heap.size, 0, none⟩) (Nat.le_refl _) _⟩

set_option maxRecDepth 1000000 in
set_option maxHeartbeats 1000000 in
theorem specParseTrie_any (s : ByteArray) (w : World) (hs : s.size ≤ 9223372036854775807) :
    Calls Try.prog 30 #[.string s] w (ReadRes w (parT s) (parOk s)) := by
  have cP := Lib.hid (fun W => l2Parse_any s W hs)
  obtain ⟨ok, hok⟩ : ∃ ok, parOk s = ok := ⟨_, rfl⟩
  obtain ⟨tt, htt⟩ : ∃ tt, parT s = tt := ⟨_, rfl⟩
  rw [hok, htt] at cP ⊢
  clear hok htt
  have HBox := Lib.hid (Boxed.new w 30 (.slice none 0 0))
  have HB1 : Hid (Below w.heap.size w (w.alloc (.cells #[.slice none 0 0] 30))) := Lib.hid ((Below.refl _ _).alloc (Nat.le_refl _) _)
  go_enter Try.func30, Try.ntmps30
  go_wp2_with fail
  obtain ⟨W1, hW1⟩ : ∃ W1, w.alloc (.cells #[.slice none 0 0] 30) = W1 := ⟨_, rfl⟩
  rw [hW1] at HBox HB1 ⊢
  clear hW1
  refine (cP.out W1).mono ?_
  rintro e w2 ⟨a2, c2, rfl, hN2, hb2⟩
  have HBox2 := Lib.hid (box_stay HBox.out hb2)
  have HB2 := Lib.hid (HB1.out.trans (hb2.mono HB1.out.size))
  have HN2 := Lib.hid hN2
  clear hN2 hb2
  have hrc := HBox2.out.cell
  have hrf := HBox2.out.frozen
  go_wp2
  refine bodyPost_ret (v := .tuple #[.agg #[.slice a2 tt.length c2], .bool ok]) (by simp [results, Try.results30, go_sem, hrc]) rfl ⟨_, _, rfl, ?_, HB2.out.setCell (p := ⟨w.heap.size, 0, none⟩) (Nat.le_refl _) _⟩
  have := HN2.out.box HBox2.out (.slice a2 tt.length c2)
  simpa [World.setCell] using this

theorem parT_fits (s : ByteArray) : Fits (parT s) ∧ (parT s).length ≤ 481 := by
  cases h : parOk s with
  | true =>
    have h2 := (par_both s)
    have hT : IsT (rdT s) := by
      unfold parOk at h
      simp only [Bool.and_eq_true] at h
      exact trieB_iff.1 h.1
    rw [parT_yes h]
    obtain ⟨ps, hv⟩ := hT
    refine ⟨?_, hv.size⟩
    rw [← made_wds hv]
    exact made_fits hv.wordsW (by rw [hv.wordsLen]; exact hv.few)
  | false => rw [parT_no h]; exact ⟨fun d hd => by (cases hd), by simp⟩

end Go.Proofs.Ytjcaikfejgeknab
