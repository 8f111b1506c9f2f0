import Derived.Test.YtmgieahachphmaaPwParts
import Derived.Test.YtmgieahachphmaaMarkOwnS
import Derived.Test.YtmgieahachphmaaLawTrie

/-
  SubstringsOf: the program's list of all substrings.
-/
namespace Go.Proofs.Ytmgieahachphmaa
open Go.RowKit
set_option linter.unusedVariables false

theorem prt_small {s : ByteArray} (h16 : s.size ≤ 16) : (prt (tx s)).length ≤ 256 := by
  have h1 := prt_len (tx s)
  rw [tx_len] at h1
  exact Nat.le_trans h1 (Nat.mul_le_mul h16 h16)
theorem prt_wide {s : ByteArray} (h16 : s.size ≤ 16) : ∀ x ∈ prt (tx s), x.length ≤ 16 := fun x hx => by
  have := prt_short hx
  rw [tx_len] at this
  omega
theorem filter_all (xs : List Txt) : xs.filter (fun _ => true) = xs := List.filter_eq_self.2 (fun _ _ => rfl)

theorem parts1_any (t : ByteArray) (w : World) :
    Calls Try.prog 92 #[.string t] w fun e w' => e = .returned (.bool true) ∧ Below w.heap.size w w' := by
  go_enter Try.func92, Try.ntmps92
  go_wp2
  go_ret
  exact ⟨rfl, Below.refl _ _⟩

theorem partsOfText_any (s : ByteArray) (w : World) (ht : okT s = true) :
    Calls Try.prog 66 #[.string s] w fun e w' => ∃ v, e = .returned v ∧ w'.ownsRow w.heap.size 9 1 v (prt (tx s)).length (txs (prt (tx s))) ∧ Below w.heap.size w w' := by
  have c := pwParts.partsWhere_any s (fun _ => true) w ht (fun W t _ _ => parts1_any t W)
  rw [filter_all] at c
  have C := Lib.hid c
  clear c
  go_enter Try.func66, Try.ntmps66
  go_wp2_with fail
  refine C.out.mono ?_
  rintro e w2 ⟨v, rfl, hO, hb⟩
  have HO := Lib.hid hO
  have HB := Lib.hid hb
  clear hO hb
  go_wp2
  go_ret
  exact ⟨_, rfl, HO.out, HB.out⟩

set_option maxRecDepth 1000000 in
set_option maxHeartbeats 1000000 in
theorem implSubs_any (s : ByteArray) (hs : s.size ≤ 1048576) (W : World) :
    Calls Try.prog 44 #[.string s] W (ownS.OwnTexts W (if okT s = true then prt (tx s) else []) (okT s)) := by
  have cT := Lib.hid (fun W => implIsText_any s W (by omega))
  unfold ownS.OwnTexts
  cases ht : okT s with
  | true =>
    rw [ht] at cT
    rw [if_pos rfl]
    have cP := Lib.hid (fun W => partsOfText_any s W ht)
    obtain ⟨ps, hps⟩ : ∃ ps, prt (tx s) = ps := ⟨_, rfl⟩
    rw [hps] at cP ⊢
    clear ht hps
    go_enter Try.func44, Try.ntmps44
    go_wp2_with fail
    refine (cT.out _).mono ?_
    rintro e w1 ⟨rfl, hb1⟩
    have HB1 := Lib.hid hb1
    clear hb1
    go_wp2_with fail
    refine (cP.out _).mono ?_
    rintro e w3 ⟨v, rfl, hO3, hb3⟩
    have HO3 := Lib.hid (own_down hO3 HB1.out.size)
    have HB3 := Lib.hid (HB1.out.trans (hb3.mono HB1.out.size))
    clear hO3 hb3
    go_wp2
    go_ret2
    exact ⟨_, rfl, HO3.out, HB3.out⟩
  | false =>
    rw [ht] at cT
    rw [if_neg (by simp)]
    clear ht
    go_enter Try.func44, Try.ntmps44
    go_wp2_with fail
    refine (cT.out _).mono ?_
    rintro e w1 ⟨rfl, hb1⟩
    have HB1 := Lib.hid hb1
    clear hb1
    go_wp2
    go_ret2
    exact ⟨_, rfl, ⟨rfl, .inl ⟨rfl, rfl⟩⟩, HB1.out⟩

end Go.Proofs.Ytmgieahachphmaa

/-
  SubstringTrie: both functions answer the same; the trie of all substrings and of the empty text.
-/
namespace Go.Proofs.Ytmgieahachphmaa
open Go.RowKit
set_option linter.unusedVariables false

/-- the trie of the substrings of a text and the empty one -/
def subT (s : ByteArray) : List Nd := if okT s then tofT (prt (tx s) ++ [[]]) else []
def subK (s : ByteArray) : Bool := okT s && setOk (prt (tx s) ++ [[]])
theorem subT_no {s : ByteArray} (h : okT s = false) : subT s = [] ∧ subK s = false := by simp [subT, subK, h]
theorem subT_yes {s : ByteArray} (h : okT s = true) : subT s = tofT (prt (tx s) ++ [[]]) ∧ subK s = setOk (prt (tx s) ++ [[]]) := by simp [subT, subK, h]
theorem subT_fits (s : ByteArray) : Fits (subT s) := by
  cases h : okT s with
  | true => rw [(subT_yes h).1]; exact tofT_fits _
  | false => rw [(subT_no h).1]; intro d hd; cases hd
theorem subT_len (s : ByteArray) : (subT s).length ≤ 481 := by
  cases h : okT s with
  | true => rw [(subT_yes h).1]; exact tofT_len _
  | false => rw [(subT_no h).1]; simp
theorem subT_set (s : ByteArray) : setOf (prt (tx s) ++ [[]]) = put (prt (tx s)) [] := by
  have e : setOf (prt (tx s) ++ [[]]) = put (setOf (prt (tx s))) [] := by
    unfold setOf
    rw [List.foldl_append]
    rfl
  rw [e, setOf_id (prt_asc _)]
theorem subT_words {s : ByteArray} (h : okT s = true) (h12 : s.size ≤ 12) : ∀ x ∈ prt (tx s) ++ [[]], IsW x := by
  intro x hx
  rcases List.mem_append.1 hx with hx | hx
  · have h1 := prt_short hx
    rw [tx_len] at h1
    refine ⟨by omega, fun b hb => (okT_iff.1 h).2 b ((mem_prt.1 hx).2.subset hb)⟩
  · rw [List.mem_singleton.1 hx]
    exact ⟨by simp, fun b hb => by cases hb⟩
theorem subT_long {s : ByteArray} (h12 : 12 < s.size) : setOk (prt (tx s) ++ [[]]) = false := by
  unfold setOk
  refine decide_eq_false fun h => ?_
  have hl : (tx s).length = s.size := tx_len s
  have hm : tx s ∈ prt (tx s) := mem_prt.2 ⟨fun e => by rw [e] at hl; simp at hl; omega, List.infix_refl _⟩
  have := (h.1 (tx s) (List.mem_append_left _ hm)).1
  omega
theorem subT_many {s : ByteArray} (h : okT s = true) (h12 : s.size ≤ 12) : setOk (prt (tx s) ++ [[]]) = decide ((put (prt (tx s)) []).length ≤ 40) := by
  rw [setOk_all (subT_words h h12), subT_set]

set_option maxRecDepth 1000000 in
set_option maxHeartbeats 1000000 in
theorem implSubTrie_any (s : ByteArray) (hs : s.size ≤ 1048576) (w : World) :
    Calls Try.prog 16 #[.string s] w (TrieRes w (subT s) (subK s)) := by
  have HBox := Lib.hid (Boxed.new w 30 (.slice none 0 0))
  have HB2 : Hid (Below w.heap.size w (w.alloc (.cells #[.slice none 0 0] 30))) := Lib.hid ((Below.refl _ _).alloc (Nat.le_refl _) _)
  have hlt : w.heap.size < (w.alloc (.cells #[.slice none 0 0] 30)).heap.size := by simp
  obtain ⟨ok, hok⟩ : ∃ ok, subK s = ok := ⟨_, rfl⟩
  obtain ⟨tt, htt⟩ : ∃ tt, subT s = tt := ⟨_, rfl⟩
  rw [hok, htt]
  have HOK := Lib.hid hok
  have HTT := Lib.hid htt
  clear hok htt
  have cP := Lib.hid (implSubs_any s hs)
  unfold ownS.OwnTexts at cP
  obtain ⟨i0, hii, hz0, hz1, hz2⟩ := info_parts infoS
  cases hr : okT s with
  | false =>
    rw [hr, if_neg (by simp)] at cP
    obtain ⟨e1, e2⟩ := subT_no hr
    obtain rfl : tt = [] := HTT.out.symm.trans e1
    obtain rfl : ok = false := HOK.out.symm.trans e2
    clear e1 e2 hr
    go_enter Try.func16, Try.ntmps16
    go_wp2_with fail
    obtain ⟨W2, hW2⟩ : ∃ W2, w.alloc (.cells #[.slice none 0 0] 30) = W2 := ⟨_, rfl⟩
    rw [hW2] at HBox HB2 hlt ⊢
    clear hW2
    refine (cP.out _).mono ?_
    rintro e w3 ⟨v3, rfl, hO3, hb3⟩
    have HB3 := Lib.hid (HB2.out.trans (hb3.mono HB2.out.size))
    have HBox3 := Lib.hid (box_stay HBox.out hb3)
    clear hO3 hb3
    have hrc := HBox3.out.cell
    have hrf := HBox3.out.frozen
    go_wp2_with fail
    refine bodyPost_ret (v := .tuple #[.agg #[.slice none 0 0], .bool false]) (by simp [results, Try.results16, go_sem, hrc]) rfl ⟨_, rfl, World.ownsRow_nil _ _ _ _, HB3.out.setCell (p := ⟨w.heap.size, 0, none⟩) (Nat.le_refl _) _⟩
  | true =>
    rw [hr, if_pos rfl] at cP
    obtain ⟨e1, e2⟩ := subT_yes hr
    have h256 := prt_small (okT_size hr)
    have HSh : Hid (∀ x ∈ prt (tx s) ++ [[]], x.length ≤ 9223372036854775807) := Lib.hid (fun x hx => by
      rcases List.mem_append.1 hx with hx | hx
      · have := prt_wide (okT_size hr) x hx; omega
      · rw [List.mem_singleton.1 hx]; simp)
    obtain ⟨ws, hws⟩ : ∃ ws, prt (tx s) = ws := ⟨_, rfl⟩
    rw [hws] at cP e1 e2 h256 HSh
    have HT1 := Lib.hid (HTT.out.symm.trans e1)
    have HK1 := Lib.hid (HOK.out.symm.trans e2)
    clear e1 e2 hr hws
    have HNew : Hid ((ws.map fun x => Value.string (bx x)) ++ [.string ⟨#[]⟩] = (ws ++ [[]]).map fun x => Value.string (bx x)) := Lib.hid (by rw [List.map_append]; rfl)
    go_enter Try.func16, Try.ntmps16
    go_wp2_with fail
    obtain ⟨W2, hW2⟩ : ∃ W2, w.alloc (.cells #[.slice none 0 0] 30) = W2 := ⟨_, rfl⟩
    rw [hW2] at HBox HB2 hlt ⊢
    clear hW2
    refine (cP.out _).mono ?_
    rintro e w3 ⟨v3, rfl, hO3, hb3⟩
    have HB3 := Lib.hid (HB2.out.trans (hb3.mono HB2.out.size))
    have HO3 := Lib.hid hO3
    have HBox3 := Lib.hid (box_stay HBox.out hb3)
    have HB23 := Lib.hid hb3
    have hz3 := hb3.size
    clear hO3 hb3
    obtain ⟨m4, hm4⟩ : ∃ m4, ws.length + 1 = m4 := ⟨_, rfl⟩
    have HLen := Lib.hid hm4
    clear hm4
    go_wp2_with (first
      | (at_builtin; refine wpList_append_own_at _ rfl _ _ 22 rfl W2.heap.size 9 i0 (.string ByteArray.empty) 1 16 Try.underlying22 hii hz0 hz1 hz2 rfl (by decide) _ _ _ rfl (HO3.out.alloc _) ⟨_, 0, none⟩ 1 1 [.string ⟨#[]⟩] rfl rfl (cell_one_new _ _ _) (by simp [Value.oneCell']) (by unfold maxLen; omega) (by omega) (by simp; omega) ?_; intro v4 w4 hown' hgrow _ hat; rw [HNew.out, HLen.out] at hown'; obtain ⟨a4, c4, rfl, hW4⟩ := own_wds hown' HSh.out; have HW4 := Lib.hid hW4; have hG4 := Grew.app hgrow hat; have HB4 := Lib.hid (HB3.out.trans ((hG4.to HO3.out hz3).mono (Nat.le_of_lt hlt))); have HBox4 := Lib.hid (box_under HBox.out (HB23.out.trans (hG4.to HO3.out hz3)) HBox.out.lt); clear hown' hgrow hat hW4 hG4)
      | (go_at_call 23; refine (implTrieOf_any w4.heap.size a4 m4 c4 (ws ++ [[]]) w4 (Nat.le_refl _) HW4.out).mono ?_; rw [← HT1.out, ← HK1.out]; rintro e w5 ⟨v5, rfl, hO5, hb5⟩; obtain ⟨a5, c5, rfl⟩ := own_slice hO5; have HO5 := Lib.hid hO5; have HB5 := Lib.hid (HB4.out.trans (hb5.mono HB4.out.size)); have HBox5 := Lib.hid (box_stay HBox4.out hb5); have hz5 := hb5.size; clear hO5 hb5; have hrc := HBox5.out.cell; have hrf := HBox5.out.frozen))
    refine bodyPost_ret (v := .tuple #[.agg #[.slice a5 tt.length c5], .bool ok]) (by simp [results, Try.results16, go_sem, hrc]) rfl ⟨_, rfl, ?_, HB5.out.setCell (p := ⟨w.heap.size, 0, none⟩) (Nat.le_refl _) _⟩
    exact (own_down HO5.out HB4.out.size).kept (grownBy_setCell' w5 w.heap.size _) (.inr (HBox5.out.not_row (by decide) HO5.out).symm)

set_option maxRecDepth 1000000 in
set_option maxHeartbeats 1000000 in
theorem specSubTrie_any (s : ByteArray) (hs : s.size ≤ 1048576) (w : World) :
    Calls Try.prog 15 #[.string s] w (ReadRes w (subT s) (subK s)) := by
  have HBox := Lib.hid (Boxed.new w 30 (.slice none 0 0))
  have HB2 : Hid (Below w.heap.size w (w.alloc (.cells #[.slice none 0 0] 30))) := Lib.hid ((Below.refl _ _).alloc (Nat.le_refl _) _)
  obtain ⟨ok, hok⟩ : ∃ ok, subK s = ok := ⟨_, rfl⟩
  obtain ⟨tt, htt⟩ : ∃ tt, subT s = tt := ⟨_, rfl⟩
  rw [hok, htt]
  have HOK := Lib.hid hok
  have HTT := Lib.hid htt
  clear hok htt
  have cT := Lib.hid (fun W => l8Text_any s W (by omega))
  by_cases hq : okT s = true ∧ s.size ≤ 12
  · obtain ⟨hr, h12⟩ := hq
    have h12' : ¬ 12 < s.size := by omega
    rw [hr] at cT
    have cP := Lib.hid (fun W => l8Parts_any s W (by omega))
    have h256 := prt_small (okT_size hr)
    have HPW := Lib.hid (subT_words hr h12)
    have HSet := Lib.hid (subT_set s)
    have HK3 := Lib.hid ((HOK.out.symm.trans (subT_yes hr).2).trans (subT_many hr h12))
    have HK2 := Lib.hid ((subT_yes hr).2.symm.trans HOK.out)
    have HT1 := Lib.hid (HTT.out.symm.trans (subT_yes hr).1)
    clear hr
    obtain ⟨ws, hws⟩ : ∃ ws, prt (tx s) = ws := ⟨_, rfl⟩
    rw [hws] at cP h256 HPW HSet HK3 HK2 HT1
    have HPu : Hid (∀ x ∈ put ws [], IsW x) := Lib.hid (fun x hx => by
      rcases (mem_put _ _ _).1 hx with hx | rfl
      · exact HPW.out x (List.mem_append_left _ hx)
      · exact HPW.out _ (List.mem_append_right _ (List.mem_singleton.2 rfl)))
    have hte : tx ⟨#[]⟩ = ([] : Txt) := rfl
    have HPut : Hid (∀ (a : Option Addr) (n c : Nat) (W : World), Wds W.heap.size W a n c ws → n ≤ 256 → Calls Try.prog 35 #[.slice a n c, .string ⟨#[]⟩] W fun e w' => ∃ a' n' c', e = .returned (.slice a' n' c') ∧ Wds w'.heap.size w' a' n' c' (put ws []) ∧ Below W.heap.size W w') := Lib.hid (fun a n c W h hn => l2Put_any W.heap.size a n c ws ⟨#[]⟩ W (Nat.le_refl _) h (by decide) (by omega))
    clear hws hte
    by_cases hmany : (put ws []).length ≤ 40
    · have hk := HK3.out
      rw [decide_eq_true hmany] at hk
      subst hk
      have HT2 : Hid (tt = made (put ws [])) := Lib.hid (by rw [HT1.out, tofT_yes HK2.out, HSet.out])
      obtain rfl := HT2.out
      have HMany := Lib.hid hmany
      clear hmany
      go_enter Try.func15, Try.ntmps15
      go_wp2_with (go_at_call 41; refine (cT.out _).mono ?_; rintro e w1 ⟨rfl, rfl⟩)
      obtain ⟨W1, hW1⟩ : ∃ W1, w.alloc (.cells #[.slice none 0 0] 30) = W1 := ⟨_, rfl⟩
      rw [hW1] at HBox HB2 ⊢
      clear hW1
      refine (cP.out _).mono ?_
      rintro e w5 ⟨a5, n5, c5, rfl, hW5, hb5⟩
      have hl5 : n5 ≤ 256 := by have := hW5.len; omega
      have HW5 := Lib.hid hW5
      have HB5 := Lib.hid (HB2.out.trans (hb5.mono HB2.out.size))
      have HBox5 := Lib.hid (box_stay HBox.out hb5)
      clear hW5 hb5
      go_wp2_with (first
        | (go_at_call 35; refine (HPut.out a5 n5 c5 w5 HW5.out hl5).mono ?_; rintro e w6 ⟨a6, n6, c6, rfl, hW6, hb6⟩; have hl6 : n6 ≤ 40 := (by have := hW6.len; have := HMany.out; omega); have HW6 := Lib.hid hW6; have HB6 := Lib.hid (HB5.out.trans (hb6.mono HB5.out.size)); have HBox6 := Lib.hid (box_stay HBox5.out hb6); clear hW6 hb6)
        | (go_at_call 43; refine (l2Of_any w6.heap.size a6 n6 c6 (put ws []) w6 (Nat.le_refl _) HW6.out hl6 HPu.out).mono ?_; rintro e w7 ⟨a7, n7, c7, ps, rfl, hN7, hP7, _, hb7⟩; rw [made_of hP7] at hN7; obtain rfl := hN7.len; have HN7 := Lib.hid hN7; have HB7 := Lib.hid (HB6.out.trans (hb7.mono HB6.out.size)); have HBox7 := Lib.hid (box_stay HBox6.out hb7); clear hN7 hP7 hb7; have hrc := HBox7.out.cell; have hrf := HBox7.out.frozen))
      refine bodyPost_ret (v := .tuple #[.agg #[.slice a7 (made (put ws [])).length c7], .bool true]) (by simp [results, Try.results15, go_sem, hrc]) rfl ⟨_, _, rfl, ?_, HB7.out.setCell (p := ⟨w.heap.size, 0, none⟩) (Nat.le_refl _) _⟩
      have := HN7.out.box HBox7.out (.slice a7 (made (put ws [])).length c7)
      simpa [World.setCell] using this
    · have hk := HK3.out
      rw [decide_eq_false hmany] at hk
      subst hk
      obtain rfl : tt = [] := HT1.out.trans (tofT_no HK2.out)
      have HMany := Lib.hid hmany
      clear hmany
      go_enter Try.func15, Try.ntmps15
      go_wp2_with (go_at_call 41; refine (cT.out _).mono ?_; rintro e w1 ⟨rfl, rfl⟩)
      obtain ⟨W1, hW1⟩ : ∃ W1, w.alloc (.cells #[.slice none 0 0] 30) = W1 := ⟨_, rfl⟩
      rw [hW1] at HBox HB2 ⊢
      clear hW1
      refine (cP.out _).mono ?_
      rintro e w5 ⟨a5, n5, c5, rfl, hW5, hb5⟩
      have hl5 : n5 ≤ 256 := by have := hW5.len; omega
      have HW5 := Lib.hid hW5
      have HB5 := Lib.hid (HB2.out.trans (hb5.mono HB2.out.size))
      have HBox5 := Lib.hid (box_stay HBox.out hb5)
      clear hW5 hb5
      go_wp2_with (first
        | (go_at_call 35; refine (HPut.out a5 n5 c5 w5 HW5.out hl5).mono ?_; rintro e w6 ⟨a6, n6, c6, rfl, hW6, hb6⟩; have hl6 : ¬ n6 ≤ 40 := (by have := hW6.len; have := HMany.out; omega); have HB6 := Lib.hid (HB5.out.trans (hb6.mono HB5.out.size)); have HBox6 := Lib.hid (box_stay HBox5.out hb6); clear hW6 hb6; have hrc := HBox6.out.cell; have hrf := HBox6.out.frozen))
      refine bodyPost_ret (v := .tuple #[.agg #[.slice none 0 0], .bool false]) (by simp [results, Try.results15, go_sem, hrc]) rfl ⟨_, _, rfl, nds_nil _ _, HB6.out.setCell (p := ⟨w.heap.size, 0, none⟩) (Nat.le_refl _) _⟩
  · have HNo : Hid (tt = [] ∧ ok = false) := Lib.hid (by
      cases hr : okT s with
      | false => exact ⟨HTT.out.symm.trans (subT_no hr).1, HOK.out.symm.trans (subT_no hr).2⟩
      | true =>
        have h := subT_long (s := s) (by have : ¬ s.size ≤ 12 := fun h => hq ⟨hr, h⟩; omega)
        exact ⟨HTT.out.symm.trans ((subT_yes hr).1.trans (tofT_no h)), HOK.out.symm.trans ((subT_yes hr).2.trans h)⟩)
    obtain ⟨rfl, rfl⟩ := HNo.out
    have hrc := HBox.out.cell
    have hrf := HBox.out.frozen
    cases hr : okT s with
    | false =>
      rw [hr] at cT
      clear hr hq
      go_enter Try.func15, Try.ntmps15
      go_wp2_with (go_at_call 41; refine (cT.out _).mono ?_; rintro e w1 ⟨rfl, rfl⟩)
      refine bodyPost_ret (v := .tuple #[.agg #[.slice none 0 0], .bool false]) (by simp [results, Try.results15, go_sem, hrc]) rfl ⟨_, _, rfl, nds_nil _ _, HB2.out⟩
    | true =>
      have h12 : 12 < s.size := by have : ¬ s.size ≤ 12 := fun h => hq ⟨hr, h⟩; omega
      rw [hr] at cT
      clear hr hq
      go_enter Try.func15, Try.ntmps15
      go_wp2_with (go_at_call 41; refine (cT.out _).mono ?_; rintro e w1 ⟨rfl, rfl⟩)
      refine bodyPost_ret (v := .tuple #[.agg #[.slice none 0 0], .bool false]) (by simp [results, Try.results15, go_sem, hrc]) rfl ⟨_, _, rfl, nds_nil _ _, HB2.out⟩

end Go.Proofs.Ytmgieahachphmaa
