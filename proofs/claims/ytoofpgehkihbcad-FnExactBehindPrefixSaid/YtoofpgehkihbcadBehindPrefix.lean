/-
  What is behind a prefix: both functions.
-/
import Derived.Test.YtoofpgehkihbcadMapTo
import Derived.Test.YtoofpgehkihbcadWUimpl
import Derived.Test.YtoofpgehkihbcadOW
import Derived.Maps.AppendAt
import Derived.Deep.RegionHeld3
namespace Go.Proofs.Ytoofpgehkihbcad
open Go.RowKit
set_option linter.unusedVariables false

noncomputable def bhL (t : List Nd) (s : ByteArray) : List Txt := (cap.undW t s).map (List.drop s.size)

theorem undW_pre {t : List Nd} {s : ByteArray} {x : Txt} (h : x ∈ cap.undW t s) : tx s <+: x ∧ x.length ≤ 12 := by
  unfold cap.undW at h
  split at h
  · have h2 := mem_undr.1 h
    exact ⟨h2.2, wordsOf_short t x h2.1⟩
  · cases h
theorem undW_few (t : List Nd) (s : ByteArray) : (cap.undW t s).length ≤ 40 := by
  unfold cap.undW
  split
  · exact Nat.le_trans (undr_le _ _) (wordsOf_size t)
  · simp
theorem bhL_short {t : List Nd} {s : ByteArray} : ∀ x ∈ bhL t s, x.length ≤ 9223372036854775807 := fun x hx => by
  obtain ⟨y, hy, rfl⟩ := List.mem_map.1 hx
  have := (undW_pre hy).2
  rw [List.length_drop]
  omega
theorem bx_drop (t : ByteArray) (k : Nat) : t.extract k t.size = bx ((tx t).drop k) := by
  apply tx_inj
  rw [tx_bx]
  show (t.extract k t.size).data.toList = _
  rw [ByteArray.data_extract, Array.toList_extract, List.extract_eq_take_drop]
  exact List.take_of_length_le (by rw [List.length_drop, tx_len]; exact Nat.le_refl _)

set_option maxRecDepth 1000000 in
set_option maxHeartbeats 2000000 in
theorem implBehindPrefix_any (a : Option Addr) (n c : Nat) (t : List Nd) (s : ByteArray) (W : World) (hN : Nds W.heap.size W a n c t) (hs : s.size ≤ 9223372036854775807) :
    Calls Try.prog 20 #[.agg #[.slice a n c], .string s] W (TrieRes W (resT (trieB t && okW s) (bhL t s)) (resK (trieB t && okW s) (bhL t s))) := by
  have G1 := Lib.hid (GvR.start hN)
  have cU := Lib.hid (fun (W' : World) (G : GvR W W' a n c t) => cap.implWordsUnder_any W.heap.size a n c t s W' G.size G.gv.nds hs)
  have hf := undW_few t s
  have HPre : Hid (∀ x ∈ cap.undW t s, tx s <+: x ∧ x.length ≤ 12) := Lib.hid (fun x hx => undW_pre hx)
  have HSh := Lib.hid (bhL_short (t := t) (s := s))
  have HBh : Hid (bhL t s = (cap.undW t s).map (List.drop s.size)) := Lib.hid rfl
  obtain ⟨r, hr⟩ : ∃ r, (trieB t && okW s) = r := ⟨_, rfl⟩
  obtain ⟨ws, hws⟩ : ∃ ws, cap.undW t s = ws := ⟨_, rfl⟩
  obtain ⟨xs, hxs⟩ : ∃ xs, bhL t s = xs := ⟨_, rfl⟩
  rw [hr] at cU ⊢
  rw [hws] at cU hf HPre HBh
  rw [hxs] at HSh HBh ⊢
  obtain ⟨m, hm⟩ : ∃ m, ws.length = m := ⟨_, rfl⟩
  rw [hm] at hf
  have HM := Lib.hid hm
  obtain ⟨tt, htt⟩ : ∃ tt, resT r xs = tt := ⟨_, rfl⟩
  obtain ⟨ok, hok⟩ : ∃ ok, resK r xs = ok := ⟨_, rfl⟩
  rw [htt, hok]
  have HTT := Lib.hid htt
  have HOK := Lib.hid hok
  clear hN hr hws hxs hm htt hok
  have hbx := G1.out.box
  go_enter Try.func20, Try.ntmps20
  go_wp2_with fail
  refine (cU.out _ G1.out).mono ?_
  rintro e w2 ⟨v2, rfl, hO2, hb2⟩
  have G2 := Lib.hid (G1.out.on hb2)
  have HZ1 := Lib.hid G1.out.res.lt
  rw [HM.out] at hO2
  obtain ⟨a2, c2, rfl⟩ := own_slice hO2
  have HO2 := Lib.hid hO2
  obtain ⟨base, hbase⟩ : ∃ base, ((W.alloc (.cells #[.slice a n c] 30)).alloc (.cells #[.slice none 0 0] 30)).heap.size = base := ⟨_, rfl⟩
  rw [hbase] at HO2 HZ1
  clear hbx hb2 hO2 hbase
  cases r with
  | false =>
    obtain rfl : tt = [] := HTT.out.symm
    obtain rfl : ok = false := HOK.out.symm
    have hrc := G2.out.res.cell
    have hrf := G2.out.res.frozen
    go_wp2_with fail
    exact bodyPost_ret (v := .tuple #[.agg #[.slice none 0 0], .bool false]) (by simp [results, Try.results20, go_sem, hrc]) rfl G2.out.ownNo
  | true =>
    have cM : Hid (∀ (W' : World) (v : Value), W'.ownsRow base 9 1 v m (strR xs) → Calls Try.prog 37 #[v] W' (TrieRes W' tt ok)) := Lib.hid (fun W' v hO => by
      have hl : m = xs.length := by rw [HBh.out, List.length_map, HM.out]
      rw [hl] at hO
      obtain ⟨a5, c5, rfl, hW5⟩ := own_wds hO HSh.out
      rw [← HTT.out, ← HOK.out, (resT_yes xs).1, (resT_yes xs).2]
      exact implTrieOf_any W'.heap.size a5 _ c5 xs W' (Nat.le_refl _) hW5)
    clear HTT HOK
    go_wp2
    go_loopw [21] (fun i wr => ∃ (j : Nat), j ≤ m ∧ i = .int .i64 j ∧ Hid (wr.ownsRow base 9 1 (.slice a2 m c2) m (strR (mapTo (List.drop s.size) ws j))) ∧ Hid (GvR W wr a n c t)) (fun i _ => m - (intOf i).toNat)
    case atStart => exact ⟨0, Nat.zero_le _, rfl, Lib.hid (by rw [mapTo_zero]; exact HO2.out), G2⟩
    case round =>
      obtain ⟨j, hj, rfl, HO, HG⟩ := hrel
      by_cases hlt : j < m
      · obtain ⟨x, hx⟩ : ∃ x, ws[j]? = some x := ⟨_, List.getElem?_eq_getElem (by rw [HM.out]; exact hlt)⟩
        obtain ⟨g, rfl, hbg⟩ := row_some HO.out (by omega)
        obtain ⟨hp, h12⟩ := HPre.out x (at_mem hx)
        have hlx : s.size ≤ (bx x).size := by rw [bx_size, ← tx_len]; exact hp.length_le
        have hl12 : (bx x).size ≤ 12 := by rw [bx_size]; exact h12
        have hc := HO.out.cellAt j (by omega)
        have hf := HO.out.frozenAt j
        rw [strR_at (mapTo_at hx)] at hc
        have HR := Lib.hid (row_change HO.out hx)
        have HD : Hid ((bx x).extract s.size (bx x).size = bx (x.drop s.size)) := Lib.hid (bx_drop _ _)
        have HG2 := Lib.hid (fun v => HG.out.far (g := g) (j := j) (by have := HZ1.out; omega) v)
        obtain ⟨y, hy⟩ : ∃ y, bx x = y := ⟨_, rfl⟩
        rw [hy] at hlx hl12 hc HD
        have hi0 : (0 : Int) ≤ (j : Int) := by omega
        have hi1 : (j : Int) < (m : Int) := by omega
        have hs0 : (s.size : Int) ≤ (y.size : Int) := by omega
        clear hp h12 hx hy
        go_wp2
        go_roundw
        case rel => exact ⟨j + 1, by omega, by go_num, by rw [HD.out]; exact HR, Lib.hid (HG2.out _)⟩
        case measure => simp [intOf]; omega
      · have e : j = m := by omega
        have HO9 : Hid (wr.ownsRow base 9 1 (.slice a2 m c2) m (strR xs)) := Lib.hid (by
          have := HO.out
          rwa [mapTo_all _ _ _ (by rw [HM.out]; omega), ← HBh.out] at this)
        clear e
        go_wp2_with fail
        refine (cM.out _ _ HO9.out).mono ?_
        rintro e w5 ⟨v5, rfl, hO5, hb5⟩
        obtain ⟨a5, c5, rfl⟩ := own_slice hO5
        have G5 := Lib.hid (HG.out.on hb5)
        have HO5 := Lib.hid hO5
        clear hO5 hb5
        have hrc := G5.out.res.cell
        have hrf := G5.out.res.frozen
        go_wp2_with fail
        exact bodyPost_ret (v := .tuple #[.agg #[.slice a5 tt.length c5], .bool ok]) (by simp [results, Try.results20, go_sem, hrc]) rfl (G5.out.own HO5.out HG.out.size)

set_option maxRecDepth 1000000 in
set_option maxHeartbeats 2000000 in
theorem specBehindPrefix_any (a : Option Addr) (n c : Nat) (t : List Nd) (s : ByteArray) (W : World) (hN : Nds W.heap.size W a n c t) (hs : s.size ≤ 9223372036854775807) (hn : n ≤ 1048576) :
    Calls Try.prog 19 #[.agg #[.slice a n c], .string s] W (ReadRes W (resT (trieB t && okW s) (bhL t s)) (resK (trieB t && okW s) (bhL t s))) := by
  have G1 := Lib.hid (GvR.start hN)
  have cT := Lib.hid (fun (W' : World) (G : GvR W W' a n c t) => l2Trie_any W.heap.size a n c t W' G.size G.gv.nds hn)
  have cWo := Lib.hid (fun w => l2Word_any s w hs)
  have cW := Lib.hid (fun (W' : World) (G : GvR W W' a n c t) (ht : IsT t) => specWords_read W.heap.size a n c t W' G.size G.gv.nds hn ht)
  obtain ⟨q, hq⟩ : ∃ q, trieB t = q := ⟨_, rfl⟩
  obtain ⟨q2, hq2⟩ : ∃ q2, okW s = q2 := ⟨_, rfl⟩
  have HQ := Lib.hid hq
  have HQ2 := Lib.hid hq2
  have HSh := Lib.hid (bhL_short (t := t) (s := s))
  rw [hq] at cT ⊢
  rw [hq2] at cWo ⊢
  obtain ⟨xs, hxs⟩ : ∃ xs, bhL t s = xs := ⟨_, rfl⟩
  have HXs := Lib.hid hxs
  rw [hxs] at HSh ⊢
  obtain ⟨tt, htt⟩ : ∃ tt, resT (q && q2) xs = tt := ⟨_, rfl⟩
  obtain ⟨ok, hok⟩ : ∃ ok, resK (q && q2) xs = ok := ⟨_, rfl⟩
  rw [htt, hok]
  have HTT := Lib.hid htt
  have HOK := Lib.hid hok
  clear hN hq hq2 hxs htt hok
  have hbx := G1.out.box
  cases q with
  | false =>
    obtain rfl : tt = [] := HTT.out.symm
    obtain rfl : ok = false := HOK.out.symm
    go_enter Try.func19, Try.ntmps19
    go_wp2_with fail
    refine (cT.out _ G1.out).mono ?_
    rintro e w2 ⟨rfl, hb2⟩
    have G2 := Lib.hid (G1.out.on hb2)
    clear hbx hb2
    have hrc := G2.out.res.cell
    have hrf := G2.out.res.frozen
    go_wp2_with fail
    exact bodyPost_ret (v := .tuple #[.agg #[.slice none 0 0], .bool false]) (by simp [results, Try.results19, go_sem, hrc]) rfl G2.out.readNo
  | true =>
    cases q2 with
    | false =>
      obtain rfl : tt = [] := HTT.out.symm
      obtain rfl : ok = false := HOK.out.symm
      go_enter Try.func19, Try.ntmps19
      go_wp2_with fail
      refine (cT.out _ G1.out).mono ?_
      rintro e w2 ⟨rfl, hb2⟩
      have G2 := Lib.hid (G1.out.on hb2)
      clear hbx hb2
      have hrc := G2.out.res.cell
      have hrf := G2.out.res.frozen
      go_wp2_with fail
      refine (cWo.out _).mono ?_
      rintro e w3 ⟨rfl, rfl⟩
      go_wp2_with fail
      exact bodyPost_ret (v := .tuple #[.agg #[.slice none 0 0], .bool false]) (by simp [results, Try.results19, go_sem, hrc]) rfl G2.out.readNo
    | true =>
      have hs12 : s.size ≤ 12 := by have := (okW_iff.1 HQ2.out).1; rwa [tx_len] at this
      have HE : Hid (xs = (undr (tx s) (wordsOf t)).map (List.drop s.size)) := Lib.hid (by
        rw [← HXs.out]
        unfold bhL cap.undW
        rw [HQ.out, HQ2.out]
        rfl)
      have HSo := Lib.hid (wordsOf_short t)
      have h40 := wordsOf_size t
      obtain ⟨ws, hws⟩ : ∃ ws, wordsOf t = ws := ⟨_, rfl⟩
      rw [hws] at cW HE HSo h40
      have HUf := Lib.hid (undr_le (tx s) ws)
      have HUp : Hid (∀ x ∈ undr (tx s) ws, tx s <+: x ∧ x.length ≤ 12) := Lib.hid (fun x hx => ⟨(mem_undr.1 hx).2, HSo.out x (mem_undr.1 hx).1⟩)
      obtain ⟨us, hus⟩ : ∃ us, undr (tx s) ws = us := ⟨_, rfl⟩
      obtain ⟨k, hk⟩ : ∃ k, ws.length = k := ⟨_, rfl⟩
      have cU := Lib.hid (fun (B : Nat) (a' : Option Addr) (c' : Nat) (w : World) (hB : B ≤ w.heap.size) (hW : Wds B w a' k c' ws) => l3Under_any B a' k c' ws s w hB hW HSo.out (by rw [← hk]; exact h40) (by omega))
      rw [hus] at cU HE HUf HUp
      rw [hk] at cW h40 HUf
      obtain ⟨m, hm⟩ : ∃ m, us.length = m := ⟨_, rfl⟩
      have HM := Lib.hid hm
      rw [hm] at cU HUf
      have hmk := HUf.out
      have HSu : Hid (∀ x ∈ us, x.length ≤ 9223372036854775807) := Lib.hid (fun x hx => by have := (HUp.out x hx).2; omega)
      have cM : Hid (∀ (B : Nat) (W' : World) (v : Value), W'.ownsRow B 9 1 v m (strR xs) → Calls Try.prog 31 #[v] W' (ReadRes W' tt ok)) := Lib.hid (fun B W' v hO => by
        have hl : m = xs.length := by rw [HE.out, List.length_map, HM.out]
        rw [hl] at hO
        obtain ⟨a5, c5, rfl, hW5⟩ := own_wds hO HSh.out
        rw [← HTT.out, ← HOK.out]
        exact l5Made_any W'.heap.size a5 _ c5 xs W' (Nat.le_refl _) hW5 (by omega))
      clear hws hus hk hm HTT HOK
      obtain ⟨i0, hii, hz0, hz1, hz2⟩ := info_parts infoS
      go_enter Try.func19, Try.ntmps19
      go_wp2_with fail
      refine (cT.out _ G1.out).mono ?_
      rintro e w2 ⟨rfl, hb2⟩
      have G2 := Lib.hid (G1.out.on hb2)
      clear hbx hb2
      go_wp2_with fail
      refine (cWo.out _).mono ?_
      rintro e w3 ⟨rfl, rfl⟩
      have HO0 := Lib.hid (World.ownsRow_lit (base := w2.heap.size) (e := 9) (size := 1) w2 #[] 0 (Nat.le_refl _) (by unfold maxLen; omega) rfl)
      have G3 := Lib.hid (G2.out.on ((Below.refl _ _).alloc (Nat.le_refl _) (.cells #[] 9)))
      have hbx := G3.out.box
      go_wp2_with fail
      refine (cW.out _ G3.out (trieB_iff.1 HQ.out)).mono ?_
      rintro e w4 ⟨a4, c4, rfl, hW4, hb4⟩
      have G4 := Lib.hid (G3.out.on hb4)
      have HO4 := Lib.hid (own_stay HO0.out hb4)
      have HW4 := Lib.hid hW4
      have HB4 := Lib.hid hb4
      clear hbx hb4 hW4
      go_wp2_with fail
      refine (cU.out _ _ _ w4 (Nat.le_refl _) HW4.out).mono ?_
      rintro e w5 ⟨v5, rfl, hO5, hb5⟩
      obtain ⟨a5, c5, rfl⟩ := own_slice hO5
      have HOW5 : Hid (OW w2.heap.size w5 9 1 (.slice (some ⟨w2.heap.size, 0, none⟩) 0 0) 0 [] a5 m c5 us) := Lib.hid (OW.start HO4.out (own_lt HO4.out) hb5 (own_base HO4.out |> fun h => Nat.le_trans h (Nat.le_of_lt (own_lt HO4.out))) hO5)
      have HB5 : Hid (Below w2.heap.size w2 w5) := Lib.hid (((((Below.refl _ _).alloc (Nat.le_refl _) (.cells #[] 9))).trans ((HB4.out).mono (by simp))).trans (hb5.mono (by have := own_lt HO4.out; omega)))
      have hz5 := HB5.out.size
      clear hO5 hb5 HB4
      go_wp2
      go_loopw [6, 8] (fun o q wr => ∃ (j : Nat) (v : Value), j ≤ m ∧ q = .int .i64 j ∧ v = o ∧ Hid (OW w2.heap.size wr 9 1 v j (strR ((us.take j).map (List.drop s.size))) a5 m c5 us) ∧ Hid (Below w2.heap.size w2 wr)) (fun _ q _ => m - (intOf q).toNat)
      case atStart => exact ⟨0, _, Nat.zero_le _, rfl, rfl, by simpa using HOW5, HB5⟩
      case round =>
        clear HOW5 HB5
        obtain ⟨j, v, hj, rfl, rfl, HO, HBw⟩ := hrel
        have hbs := HBw.out.size
        by_cases hlt : j < m
        · obtain ⟨x, hx⟩ : ∃ x, us[j]? = some x := ⟨_, List.getElem?_eq_getElem (by rw [HM.out]; exact hlt)⟩
          obtain ⟨g, rfl, hbg⟩ := row_some HO.out.row (by omega)
          obtain ⟨hp, h12⟩ := HUp.out x (at_mem hx)
          have hlx : s.size ≤ (bx x).size := by rw [bx_size, ← tx_len]; exact hp.length_le
          have hl12 : (bx x).size ≤ 12 := by rw [bx_size]; exact h12
          have hc := HO.out.row.cellAt j (by omega)
          rw [strR_at hx] at hc
          have HD : Hid ((bx x).extract s.size (bx x).size = bx (x.drop s.size)) := Lib.hid (bx_drop _ _)
          have HTk : Hid (strR ((us.take j).map (List.drop s.size)) ++ [.string (bx (x.drop s.size))] = strR ((us.take (j + 1)).map (List.drop s.size))) := Lib.hid (by rw [List.take_add_one, hx]; simp [strR])
          obtain ⟨y, hy⟩ : ∃ y, bx x = y := ⟨_, rfl⟩
          rw [hy] at hlx hl12 hc HD
          have hi0 : (0 : Int) ≤ (j : Int) := by omega
          have hi1 : (j : Int) < (m : Int) := by omega
          have hs0 : (s.size : Int) ≤ (y.size : Int) := by omega
          clear hp h12 hx hy
          go_wp2_with (at_builtin; refine wpList_append_own_at _ rfl _ _ 43 rfl w2.heap.size 9 i0 (.string ByteArray.empty) 1 16 Try.underlying43 hii hz0 hz1 hz2 rfl (by decide) _ _ _ rfl (HO.out.out.alloc _) ⟨_, 0, none⟩ 1 1 [.string (y.extract s.size y.size)] rfl rfl (cell_one_new _ _ _) (by simp [Value.oneCell']) (by unfold maxLen; omega) (by omega) (by simp; omega) ?_; intro v6 w6 hO6 hG6 _ hat; rw [HD.out, HTk.out] at hO6; have HOW6 := Lib.hid (HO.out.app hO6 hG6 hat); have HB6 := Lib.hid (HBw.out.trans (HO.out.below hbs hG6)); clear hO6 hG6 hat)
          go_roundw
          case rel => exact ⟨j + 1, v6, by omega, by go_num, rfl, HOW6, HB6⟩
          case measure => simp [intOf]; omega
        · have e : j = m := by omega
          have HO9 : Hid (wr.ownsRow w2.heap.size 9 1 v m (strR xs)) := Lib.hid (by
            have := HO.out.out
            rwa [e, List.take_of_length_le (by rw [HM.out]; exact Nat.le_refl _), ← HE.out] at this)
          have G9 := Lib.hid (G2.out.on HBw.out)
          clear e
          go_wp2_with fail
          refine (cM.out _ _ _ HO9.out).mono ?_
          rintro e w7 ⟨a7, c7, rfl, hN7, hb7⟩
          have G7 := Lib.hid (G9.out.on hb7)
          have HN7 := Lib.hid hN7
          clear hN7 hb7
          have hrc := G7.out.res.cell
          have hrf := G7.out.res.frozen
          go_wp2_with fail
          exact bodyPost_ret (v := .tuple #[.agg #[.slice a7 tt.length c7], .bool ok]) (by simp [results, Try.results19, go_sem, hrc]) rfl (G7.out.read HN7.out)

theorem agreeBehindPrefix (t : List Nd) (n : Nat) (x0 : ByteArray) (hn : n ≤ 1048576) (hx0 : x0.size ≤ 9223372036854775807) : ∃ (tt : List Nd) (ok : Bool), Fits tt ∧ tt.length ≤ 481 ∧
    (∀ (W : World) (a : Option Addr), Nds W.heap.size W a n n t → Calls Try.prog 19 #[.agg #[.slice a n n], .string x0] W (ReadRes W tt ok)) ∧
    (∀ (W : World) (a : Option Addr), Nds W.heap.size W a n n t → Calls Try.prog 20 #[.agg #[.slice a n n], .string x0] W (TrieRes W tt ok)) :=
  ⟨_, _, resT_fits _ _, resT_len _ _, fun W a hN => specBehindPrefix_any a n n t x0 W hN hx0 hn, fun W a hN => implBehindPrefix_any a n n t x0 W hN hx0⟩

end Go.Proofs.Ytoofpgehkihbcad
