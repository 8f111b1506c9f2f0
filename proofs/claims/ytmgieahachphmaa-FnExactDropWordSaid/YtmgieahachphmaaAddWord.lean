/-
  A word more: the contracts of the reference's function and of the program's.
-/
import Derived.Test.YtmgieahachphmaaLawTrie
import Derived.Test.YtmgieahachphmaaWordsOf
namespace Go.Proofs.Ytmgieahachphmaa
open Go.RowKit
set_option linter.unusedVariables false

noncomputable def addT (t : List Nd) (x : Txt) : List Nd := if trieB t then tofT (wordsOf t ++ [x]) else []
noncomputable def addOk (t : List Nd) (x : Txt) : Bool := trieB t && setOk (wordsOf t ++ [x])

theorem addT_no {t : List Nd} {x : Txt} (h : trieB t = false) : addT t x = [] ∧ addOk t x = false := by simp [addT, addOk, h]
theorem addT_yes {t : List Nd} {x : Txt} (h : trieB t = true) : addT t x = tofT (wordsOf t ++ [x]) ∧ addOk t x = setOk (wordsOf t ++ [x]) := by simp [addT, addOk, h]
theorem addT_fits (t : List Nd) (x : Txt) : Fits (addT t x) := by
  cases h : trieB t with
  | true => rw [(addT_yes h).1]; exact tofT_fits _
  | false => rw [(addT_no h).1]; intro d hd; cases hd
theorem addT_len (t : List Nd) (x : Txt) : (addT t x).length ≤ 481 := by
  cases h : trieB t with
  | true => rw [(addT_yes h).1]; exact tofT_len _
  | false => rw [(addT_no h).1]; simp

theorem wordsOf_asc (t : List Nd) : Asc (wordsOf t) := by
  by_cases h : IsT t
  · obtain ⟨ps, hv⟩ := h
    rw [wordsOf_eq hv]
    exact hv.wordsAsc
  · rw [wordsOf_no h]; simp
theorem wordsOf_isW (t : List Nd) : ∀ x ∈ wordsOf t, IsW x := by
  by_cases h : IsT t
  · obtain ⟨ps, hv⟩ := h
    rw [wordsOf_eq hv]
    exact hv.wordsW
  · rw [wordsOf_no h]; simp

theorem setOf_snoc (xs : List Txt) (x : Txt) : setOf (xs ++ [x]) = put (setOf xs) x := by
  unfold setOf
  rw [List.foldl_append]
  rfl

theorem setOk_snoc {ws : List Txt} (ha : Asc ws) (hw : ∀ x ∈ ws, IsW x) (x : Txt) : setOk (ws ++ [x]) = (decide (IsW x) && decide ((put ws x).length ≤ 40)) := by
  unfold setOk
  rw [setOf_snoc, setOf_id ha, Bool.eq_iff_iff]
  simp only [decide_eq_true_eq, Bool.and_eq_true, List.mem_append, List.mem_singleton]
  constructor
  · rintro ⟨h1, h2⟩
    exact ⟨h1 x (.inr rfl), h2⟩
  · rintro ⟨h1, h2⟩
    exact ⟨fun y hy => hy.elim (hw y) (fun e => e ▸ h1), h2⟩

set_option maxRecDepth 1000000 in
set_option maxHeartbeats 1000000 in
theorem implAddWord_any (B : Nat) (a : Option Addr) (n c : Nat) (t : List Nd) (s : ByteArray) (w : World) (hB : B ≤ w.heap.size) (h : Nds B w a n c t) (hs : s.size ≤ 9223372036854775807) :
    Calls Try.prog 27 #[.agg #[.slice a n c], .string s] w (TrieRes w (addT t (tx s)) (addOk t (tx s))) := by
  have HBox : Hid (Boxed ((w.alloc (.cells #[.slice a n c] 30)).alloc (.cells #[.slice none 0 0] 30)) (w.heap.size + 1) 30 (.slice none 0 0)) := Lib.hid (by simpa using Boxed.new (w.alloc (.cells #[.slice a n c] 30)) 30 (.slice none 0 0))
  have hbx : ((w.alloc (.cells #[.slice a n c] 30)).alloc (.cells #[.slice none 0 0] 30)).cell? ⟨w.heap.size, 0, none⟩ = some (.slice a n c) := by
    rw [World.cell?_alloc_lt _ _ _ (by simp)]
    simp
  have HB2 : Hid (Below w.heap.size w ((w.alloc (.cells #[.slice a n c] 30)).alloc (.cells #[.slice none 0 0] 30))) := Lib.hid (((Below.refl _ _).alloc (Nat.le_refl _) _).alloc (by simp) _)
  have hlt : w.heap.size < ((w.alloc (.cells #[.slice a n c] 30)).alloc (.cells #[.slice none 0 0] 30)).heap.size := by simp; omega
  have HN := Lib.hid (h.keep (HB2.out.mono hB))
  have HB := Lib.hid hB
  obtain ⟨ok, hok⟩ : ∃ ok, addOk t (tx s) = ok := ⟨_, rfl⟩
  obtain ⟨tt, htt⟩ : ∃ tt, addT t (tx s) = tt := ⟨_, rfl⟩
  rw [hok, htt]
  have HOK := Lib.hid hok
  have HTT := Lib.hid htt
  have hws40 := wordsOf_size t
  have HSh : Hid (∀ x ∈ wordsOf t, x.length ≤ 9223372036854775807) := Lib.hid (fun x hx => by have := wordsOf_short t x hx; omega)
  have HAsc := Lib.hid (wordsOf_asc t)
  have HIsW := Lib.hid (wordsOf_isW t)
  obtain ⟨r, hr⟩ : ∃ r, trieB t = r := ⟨_, rfl⟩
  have HR := Lib.hid hr
  clear h hB hok htt
  obtain ⟨i0, hii, hz0, hz1, hz2⟩ := info_parts infoS
  go_enter Try.func27, Try.ntmps27
  go_wp2_with fail
  obtain ⟨W2, hW2⟩ : ∃ W2, (w.alloc (.cells #[.slice a n c] 30)).alloc (.cells #[.slice none 0 0] 30) = W2 := ⟨_, rfl⟩
  rw [hW2] at HBox HB2 HN hbx hlt ⊢
  clear hW2 hbx
  refine (implWords_any B a n c t W2 (Nat.le_trans HB.out HB2.out.size) HN.out).mono ?_
  rw [hr]
  obtain ⟨ws, hws⟩ : ∃ ws, wordsOf t = ws := ⟨_, rfl⟩
  have HWs := Lib.hid hws
  rw [hws] at HSh hws40 ⊢
  clear hr hws
  rintro e w3 ⟨v3, rfl, hO3, hb3⟩
  have HB3 := Lib.hid (HB2.out.trans (hb3.mono HB2.out.size))
  have HO3 := Lib.hid hO3
  have HBox3 := Lib.hid (box_stay HBox.out hb3)
  have HB23 := Lib.hid hb3
  have hz3 := hb3.size
  clear hO3 hb3
  cases r with
  | false =>
    obtain ⟨e1, e2⟩ := addT_no (x := tx s) HR.out
    obtain rfl : tt = [] := HTT.out.symm.trans e1
    obtain rfl : ok = false := HOK.out.symm.trans e2
    clear e1 e2
    have hrc := HBox3.out.cell
    have hrf := HBox3.out.frozen
    go_wp2_with fail
    refine bodyPost_ret (v := .tuple #[.agg #[.slice none 0 0], .bool false]) (by simp [results, Try.results27, go_sem, hrc]) rfl ⟨_, rfl, World.ownsRow_nil _ _ _ _, HB3.out.setCell (p := ⟨w.heap.size + 1, 0, none⟩) (Nat.le_succ _) _⟩
  | true =>
    obtain ⟨e1, e2⟩ := addT_yes (x := tx s) HR.out
    rw [HWs.out] at e1 e2
    have HT1 := Lib.hid (HTT.out.symm.trans e1)
    have HK1 := Lib.hid (HOK.out.symm.trans e2)
    clear e1 e2
    have HNew : Hid ((ws.map fun x => Value.string (bx x)) ++ [.string s] = (ws ++ [tx s]).map fun x => Value.string (bx x)) := Lib.hid (by simp [bx_tx])
    have HSh2 : Hid (∀ x ∈ ws ++ [tx s], x.length ≤ 9223372036854775807) := Lib.hid (fun x hx => by
      rcases List.mem_append.1 hx with hx | hx
      · exact HSh.out x hx
      · rw [List.mem_singleton.1 hx, tx_len]; exact hs)
    obtain ⟨m4, hm4⟩ : ∃ m4, ws.length + 1 = m4 := ⟨_, rfl⟩
    have HLen := Lib.hid hm4
    clear hm4
    go_wp2_with (first
      | (at_builtin; refine wpList_append_own_at _ rfl _ _ 22 rfl W2.heap.size 9 i0 (.string ByteArray.empty) 1 16 Try.underlying22 hii hz0 hz1 hz2 rfl (by decide) _ _ _ rfl (HO3.out.alloc _) ⟨_, 0, none⟩ 1 1 [.string s] rfl rfl (cell_one_new _ _ _) (by simp [Value.oneCell']) (by unfold maxLen; omega) (by omega) (by simp; omega) ?_; intro v4 w4 hown' hgrow _ hat; rw [HNew.out, HLen.out] at hown'; obtain ⟨a4, c4, rfl, hW4⟩ := own_wds hown' HSh2.out; have HW4 := Lib.hid hW4; have hG4 := Grew.app hgrow hat; have HB4 := Lib.hid (HB3.out.trans ((hG4.to HO3.out hz3).mono (Nat.le_of_lt hlt))); have HBox4 := Lib.hid (box_under HBox.out (HB23.out.trans (hG4.to HO3.out hz3)) HBox.out.lt); clear hown' hgrow hat hW4 hG4)
      | (go_at_call 23; refine (implTrieOf_any w4.heap.size a4 m4 c4 (ws ++ [tx s]) w4 (Nat.le_refl _) HW4.out).mono ?_; rw [← HT1.out, ← HK1.out]; rintro e w5 ⟨v5, rfl, hO5, hb5⟩; obtain ⟨a5, c5, rfl⟩ := own_slice hO5; have HO5 := Lib.hid hO5; have HB5 := Lib.hid (HB4.out.trans (hb5.mono HB4.out.size)); have HBox5 := Lib.hid (box_stay HBox4.out hb5); have hz5 := hb5.size; clear hO5 hb5; have hrc := HBox5.out.cell; have hrf := HBox5.out.frozen))
    refine bodyPost_ret (v := .tuple #[.agg #[.slice a5 tt.length c5], .bool ok]) (by simp [results, Try.results27, go_sem, hrc]) rfl ⟨_, rfl, ?_, HB5.out.setCell (p := ⟨w.heap.size + 1, 0, none⟩) (Nat.le_succ _) _⟩
    exact (own_down HO5.out HB4.out.size).kept (grownBy_setCell' w5 (w.heap.size + 1) _) (.inr (HBox5.out.not_row (by decide) HO5.out).symm)

set_option maxRecDepth 1000000 in
set_option maxHeartbeats 1000000 in
theorem specAddWord_any (B : Nat) (a : Option Addr) (n c : Nat) (t : List Nd) (s : ByteArray) (w : World) (hB : B ≤ w.heap.size) (h : Nds B w a n c t) (hs : s.size ≤ 9223372036854775807) (hn : n ≤ 1048576) :
    Calls Try.prog 25 #[.agg #[.slice a n c], .string s] w (ReadRes w (addT t (tx s)) (addOk t (tx s))) := by
  have HBox : Hid (Boxed ((w.alloc (.cells #[.slice a n c] 30)).alloc (.cells #[.slice none 0 0] 30)) (w.heap.size + 1) 30 (.slice none 0 0)) := Lib.hid (by simpa using Boxed.new (w.alloc (.cells #[.slice a n c] 30)) 30 (.slice none 0 0))
  have hbx : ((w.alloc (.cells #[.slice a n c] 30)).alloc (.cells #[.slice none 0 0] 30)).cell? ⟨w.heap.size, 0, none⟩ = some (.slice a n c) := by
    rw [World.cell?_alloc_lt _ _ _ (by simp)]
    simp
  have HB2 : Hid (Below w.heap.size w ((w.alloc (.cells #[.slice a n c] 30)).alloc (.cells #[.slice none 0 0] 30))) := Lib.hid (((Below.refl _ _).alloc (Nat.le_refl _) _).alloc (by simp) _)
  have hlt : w.heap.size < ((w.alloc (.cells #[.slice a n c] 30)).alloc (.cells #[.slice none 0 0] 30)).heap.size := by simp; omega
  have HN := Lib.hid (h.keep (HB2.out.mono hB))
  have HB := Lib.hid hB
  obtain ⟨ok, hok⟩ : ∃ ok, addOk t (tx s) = ok := ⟨_, rfl⟩
  obtain ⟨tt, htt⟩ : ∃ tt, addT t (tx s) = tt := ⟨_, rfl⟩
  rw [hok, htt]
  have HOK := Lib.hid hok
  have HTT := Lib.hid htt
  have hws40 := wordsOf_size t
  have HSh : Hid (∀ x ∈ wordsOf t, x.length ≤ 9223372036854775807) := Lib.hid (fun x hx => by have := wordsOf_short t x hx; omega)
  have HAsc := Lib.hid (wordsOf_asc t)
  have HIsW := Lib.hid (wordsOf_isW t)
  obtain ⟨r, hr⟩ : ∃ r, trieB t = r := ⟨_, rfl⟩
  have HR := Lib.hid hr
  clear h hB hok htt
  go_enter Try.func25, Try.ntmps25
  go_wp2_with fail
  obtain ⟨W2, hW2⟩ : ∃ W2, (w.alloc (.cells #[.slice a n c] 30)).alloc (.cells #[.slice none 0 0] 30) = W2 := ⟨_, rfl⟩
  rw [hW2] at HBox HB2 HN hbx hlt ⊢
  have HX := Lib.hid hbx
  clear hW2 hbx
  refine (l2Trie_any B a n c t W2 (Nat.le_trans HB.out HB2.out.size) HN.out hn).mono ?_
  rw [hr]
  clear hr
  rintro e w3 ⟨rfl, hb3⟩
  have HB3 := Lib.hid (HB2.out.trans (hb3.mono HB2.out.size))
  have HN3 := Lib.hid (HN.out.keep (hb3.mono (Nat.le_trans HB.out HB2.out.size)))
  have HBox3 := Lib.hid (box_stay HBox.out hb3)
  have hbx3 := (hb3.cell (p := ⟨w.heap.size, 0, none⟩) hlt).trans HX.out
  clear hb3
  cases r with
  | false =>
    obtain ⟨e1, e2⟩ := addT_no (x := tx s) HR.out
    obtain rfl : tt = [] := HTT.out.symm.trans e1
    obtain rfl : ok = false := HOK.out.symm.trans e2
    clear e1 e2 hbx3
    have hrc := HBox3.out.cell
    have hrf := HBox3.out.frozen
    go_wp2_with fail
    refine bodyPost_ret (v := .tuple #[.agg #[.slice none 0 0], .bool false]) (by simp [results, Try.results25, go_sem, hrc]) rfl ⟨_, _, rfl, nds_nil _ _, HB3.out.setCell (p := ⟨w.heap.size + 1, 0, none⟩) (Nat.le_succ _) _⟩
  | true =>
    obtain ⟨e1, e2⟩ := addT_yes (x := tx s) HR.out
    rw [setOk_snoc HAsc.out HIsW.out] at e2
    have HT1 := Lib.hid (HTT.out.symm.trans e1)
    have HK1 := Lib.hid (HOK.out.symm.trans e2)
    have HK2 : Hid (setOk (wordsOf t ++ [tx s]) = ok) := Lib.hid (by rw [setOk_snoc HAsc.out HIsW.out, ← HK1.out])
    have cWd := Lib.hid (specWords_read B a n c t w3 (Nat.le_trans HB.out HB3.out.size) HN3.out hn (trieB_iff.1 HR.out))
    have cW := Lib.hid (fun w => l2Word_any s w hs)
    clear e1 e2
    obtain ⟨rw, hrw⟩ : ∃ rw, okW s = rw := ⟨_, rfl⟩
    have HRW := Lib.hid hrw
    rw [hrw] at cW
    clear hrw
    cases rw with
    | false =>
      have hi : decide (IsW (tx s)) = false := HRW.out
      have hk := HK1.out
      rw [hi, Bool.false_and] at hk
      subst hk
      obtain rfl : tt = [] := HT1.out.trans (tofT_no HK2.out)
      have hrc := HBox3.out.cell
      have hrf := HBox3.out.frozen
      clear hi hbx3
      go_wp2_with (go_at_call 34; refine (cW.out _).mono ?_; rintro e w4 ⟨rfl, rfl⟩)
      refine bodyPost_ret (v := .tuple #[.agg #[.slice none 0 0], .bool false]) (by simp [results, Try.results25, go_sem, hrc]) rfl ⟨_, _, rfl, nds_nil _ _, HB3.out.setCell (p := ⟨w.heap.size + 1, 0, none⟩) (Nat.le_succ _) _⟩
    | true =>
      have hi : decide (IsW (tx s)) = true := HRW.out
      have hk := HK1.out
      rw [hi, Bool.true_and] at hk
      have HK3 := Lib.hid hk
      have HIx : Hid (IsW (tx s)) := Lib.hid (by simpa using hi)
      clear hi hk
      have HSet : Hid (setOf (wordsOf t ++ [tx s]) = put (wordsOf t) (tx s)) := Lib.hid (by rw [setOf_snoc, setOf_id HAsc.out])
      have HPW : Hid (∀ x ∈ put (wordsOf t) (tx s), IsW x) := Lib.hid (fun x hx => by
        rcases (mem_put _ _ _).1 hx with hx | rfl
        · exact HIsW.out x hx
        · exact HIx.out)
      obtain ⟨ws, hws⟩ : ∃ ws, wordsOf t = ws := ⟨_, rfl⟩
      rw [hws] at cWd hws40 HPW HSet HK3 HK2 HT1
      obtain ⟨m, hm⟩ : ∃ m, ws.length = m := ⟨_, rfl⟩
      rw [hm] at cWd hws40
      have HM := Lib.hid hm
      clear hws hm
      have hrc := HBox3.out.cell
      have hrf := HBox3.out.frozen
      clear hrc hrf
      by_cases hmany : (put ws (tx s)).length ≤ 40
      · have hk := HK3.out
        rw [decide_eq_true hmany] at hk
        subst hk
        have HT2 : Hid (tt = made (put ws (tx s))) := Lib.hid (by rw [HT1.out, tofT_yes HK2.out, HSet.out])
        obtain rfl := HT2.out
        have HMany := Lib.hid hmany
        clear hmany
        go_wp2_with (first
          | (go_at_call 34; refine (cW.out _).mono ?_; rintro e w4 ⟨rfl, rfl⟩)
          | (go_at_call 53; refine cWd.out.mono ?_; rintro e w5 ⟨a5, c5, rfl, hW5, hb5⟩; have HW5 := Lib.hid hW5; have HB5 := Lib.hid (HB3.out.trans (hb5.mono HB3.out.size)); have HBox5 := Lib.hid (box_stay HBox3.out hb5); clear hW5 hb5)
          | (go_at_call 35; refine (l2Put_any w5.heap.size a5 m c5 ws s w5 (Nat.le_refl _) HW5.out hs (by omega)).mono ?_; rintro e w6 ⟨a6, n6, c6, rfl, hW6, hb6⟩; have hl6 : n6 ≤ 40 := (by have := hW6.len; have := HMany.out; omega); have HW6 := Lib.hid hW6; have HB6 := Lib.hid (HB5.out.trans (hb6.mono HB5.out.size)); have HBox6 := Lib.hid (box_stay HBox5.out hb6); clear hW6 hb6)
          | (go_at_call 43; refine (l2Of_any w6.heap.size a6 n6 c6 (put ws (tx s)) w6 (Nat.le_refl _) HW6.out hl6 HPW.out).mono ?_; rintro e w7 ⟨a7, n7, c7, ps, rfl, hN7, hP7, _, hb7⟩; rw [made_of hP7] at hN7; obtain rfl := hN7.len; have HN7 := Lib.hid hN7; have HB7 := Lib.hid (HB6.out.trans (hb7.mono HB6.out.size)); have HBox7 := Lib.hid (box_stay HBox6.out hb7); clear hN7 hP7 hb7; have hrc := HBox7.out.cell; have hrf := HBox7.out.frozen))
        refine bodyPost_ret (v := .tuple #[.agg #[.slice a7 (made (put ws (tx s))).length c7], .bool true]) (by simp [results, Try.results25, go_sem, hrc]) rfl ⟨_, _, rfl, ?_, HB7.out.setCell (p := ⟨w.heap.size + 1, 0, none⟩) (Nat.le_succ _) _⟩
        have := HN7.out.box HBox7.out (.slice a7 (made (put ws (tx s))).length c7)
        simpa [World.setCell] using this
      · have hk := HK3.out
        rw [decide_eq_false hmany] at hk
        subst hk
        obtain rfl : tt = [] := HT1.out.trans (tofT_no HK2.out)
        have HMany := Lib.hid hmany
        clear hmany
        go_wp2_with (first
          | (go_at_call 34; refine (cW.out _).mono ?_; rintro e w4 ⟨rfl, rfl⟩)
          | (go_at_call 53; refine cWd.out.mono ?_; rintro e w5 ⟨a5, c5, rfl, hW5, hb5⟩; have HW5 := Lib.hid hW5; have HB5 := Lib.hid (HB3.out.trans (hb5.mono HB3.out.size)); have HBox5 := Lib.hid (box_stay HBox3.out hb5); clear hW5 hb5)
          | (go_at_call 35; refine (l2Put_any w5.heap.size a5 m c5 ws s w5 (Nat.le_refl _) HW5.out hs (by omega)).mono ?_; rintro e w6 ⟨a6, n6, c6, rfl, hW6, hb6⟩; have hl6 : ¬ n6 ≤ 40 := (by have := hW6.len; have := HMany.out; omega); have HB6 := Lib.hid (HB5.out.trans (hb6.mono HB5.out.size)); have HBox6 := Lib.hid (box_stay HBox5.out hb6); clear hW6 hb6; have hrc := HBox6.out.cell; have hrf := HBox6.out.frozen))
        refine bodyPost_ret (v := .tuple #[.agg #[.slice none 0 0], .bool false]) (by simp [results, Try.results25, go_sem, hrc]) rfl ⟨_, _, rfl, nds_nil _ _, HB6.out.setCell (p := ⟨w.heap.size + 1, 0, none⟩) (Nat.le_succ _) _⟩

theorem agreeAddWord (t : List Nd) (n : Nat) (x0 : ByteArray) (hn : n ≤ 1048576) (hx0 : x0.size ≤ 9223372036854775807) : ∃ (tt : List Nd) (ok : Bool), Fits tt ∧ tt.length ≤ 481 ∧
    (∀ (W : World) (a : Option Addr), Nds W.heap.size W a n n t → Calls Try.prog 25 #[.agg #[.slice a n n], .string x0] W (ReadRes W tt ok)) ∧
    (∀ (W : World) (a : Option Addr), Nds W.heap.size W a n n t → Calls Try.prog 27 #[.agg #[.slice a n n], .string x0] W (TrieRes W tt ok)) :=
  ⟨addT t (tx x0), addOk t (tx x0), addT_fits _ _, addT_len _ _, fun W a hN => specAddWord_any _ a n n t x0 W (Nat.le_refl _) hN hx0 hn, fun W a hN => implAddWord_any _ a n n t x0 W (Nat.le_refl _) hN hx0⟩

end Go.Proofs.Ytmgieahachphmaa
