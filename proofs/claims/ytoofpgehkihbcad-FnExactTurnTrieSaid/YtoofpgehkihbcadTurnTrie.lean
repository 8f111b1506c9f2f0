/-
  The trie of all turned words: both functions.
-/
import Derived.Test.YtoofpgehkihbcadMapTo
import Derived.Test.YtoofpgehkihbcadOW
import Derived.Test.YtoofpgehkihbcadWordsOf
import Derived.Test.YtoofpgehkihbcadTurn
import Derived.Maps.AppendAt
import Derived.Deep.RegionHeld3
namespace Go.Proofs.Ytoofpgehkihbcad
open Go.RowKit
set_option linter.unusedVariables false

noncomputable def turnL (t : List Nd) : List Txt := (wordsOf t).map List.reverse

theorem turnL_short {t : List Nd} : ∀ x ∈ turnL t, x.length ≤ 9223372036854775807 := fun x hx => by
  obtain ⟨y, hy, rfl⟩ := List.mem_map.1 hx
  have := wordsOf_short t y hy
  rw [List.length_reverse]
  omega

set_option maxRecDepth 1000000 in
set_option maxHeartbeats 2000000 in
theorem changeTurn_any (a : Option Addr) (n c : Nat) (t : List Nd) (W : World) (hN : Nds W.heap.size W a n c t) :
    Calls Try.prog 44 #[.agg #[.slice a n c], .func (.func 45) #[] #[]] W (TrieRes W (resT (trieB t) (turnL t)) (resK (trieB t) (turnL t))) := by
  have G1 := Lib.hid (GvR.start hN)
  have cU := Lib.hid (fun (W' : World) (G : GvR W W' a n c t) => implWords_any W.heap.size a n c t W' G.size G.gv.nds)
  have hf := wordsOf_size t
  have HSo := Lib.hid (wordsOf_short t)
  have HSh := Lib.hid (turnL_short (t := t))
  have HBh : Hid (turnL t = (wordsOf t).map List.reverse) := Lib.hid rfl
  obtain ⟨r, hr⟩ : ∃ r, trieB t = r := ⟨_, rfl⟩
  obtain ⟨ws, hws⟩ : ∃ ws, wordsOf t = ws := ⟨_, rfl⟩
  obtain ⟨xs, hxs⟩ : ∃ xs, turnL t = xs := ⟨_, rfl⟩
  rw [hr] at cU ⊢
  rw [hws] at cU hf HSo HBh
  rw [hxs] at HSh HBh ⊢
  obtain ⟨m, hm⟩ : ∃ m, ws.length = m := ⟨_, rfl⟩
  rw [hm] at hf
  have HM := Lib.hid hm
  obtain ⟨tt, htt⟩ : ∃ tt, resT r xs = tt := ⟨_, rfl⟩
  obtain ⟨ok, hok⟩ : ∃ ok, resK r xs = ok := ⟨_, rfl⟩
  rw [htt, hok]
  have HTT := Lib.hid htt
  have HOK := Lib.hid hok
  clear hN hr hws hxs hm htt hok
  have hbx := G1.out.box
  go_enter Try.func44, Try.ntmps44
  go_wp2_with fail
  refine (cU.out _ G1.out).mono ?_
  rintro e w2 ⟨v2, rfl, hO2, hb2⟩
  have G2 := Lib.hid (G1.out.on hb2)
  have HZ1 := Lib.hid G1.out.res.lt
  rw [HM.out] at hO2
  obtain ⟨a2, c2, rfl⟩ := own_slice hO2
  have HO2 := Lib.hid hO2
  obtain ⟨base, hbase⟩ : ∃ base, ((W.alloc (.cells #[.slice a n c] 30)).alloc (.cells #[.slice none 0 0] 30)).heap.size = base := ⟨_, rfl⟩
  rw [hbase] at HO2 HZ1
  clear hbx hb2 hO2 hbase
  cases r with
  | false =>
    obtain rfl : tt = [] := HTT.out.symm
    obtain rfl : ok = false := HOK.out.symm
    have hrc := G2.out.res.cell
    have hrf := G2.out.res.frozen
    go_wp2_with fail
    exact bodyPost_ret (v := .tuple #[.agg #[.slice none 0 0], .bool false]) (by simp [results, Try.results44, go_sem, hrc]) rfl G2.out.ownNo
  | true =>
    have cM : Hid (∀ (W' : World) (v : Value), W'.ownsRow base 9 1 v m (strR xs) → Calls Try.prog 37 #[v] W' (TrieRes W' tt ok)) := Lib.hid (fun W' v hO => by
      have hl : m = xs.length := by rw [HBh.out, List.length_map, HM.out]
      rw [hl] at hO
      obtain ⟨a5, c5, rfl, hW5⟩ := own_wds hO HSh.out
      rw [← HTT.out, ← HOK.out, (resT_yes xs).1, (resT_yes xs).2]
      exact implTrieOf_any W'.heap.size a5 _ c5 xs W' (Nat.le_refl _) hW5)
    clear HTT HOK
    go_wp2
    go_loopw [20] (fun i wr => ∃ (j : Nat), j ≤ m ∧ i = .int .i64 j ∧ Hid (wr.ownsRow base 9 1 (.slice a2 m c2) m (strR (mapTo List.reverse ws j))) ∧ Hid (GvR W wr a n c t)) (fun i _ => m - (intOf i).toNat)
    case atStart => exact ⟨0, Nat.zero_le _, rfl, Lib.hid (by rw [mapTo_zero]; exact HO2.out), G2⟩
    case round =>
      obtain ⟨j, hj, rfl, HO, HG⟩ := hrel
      by_cases hlt : j < m
      · obtain ⟨x, hx⟩ : ∃ x, ws[j]? = some x := ⟨_, List.getElem?_eq_getElem (by rw [HM.out]; exact hlt)⟩
        obtain ⟨g, rfl, hbg⟩ := row_some HO.out (by omega)
        have h12 := HSo.out x (at_mem hx)
        have hc := HO.out.cellAt j (by omega)
        rw [strR_at (mapTo_at hx)] at hc
        have HX := Lib.hid hx
        have cT := Lib.hid (turn1_any (bx x) wr (by rw [bx_size]; omega))
        have e0 : tx (bx x) = x := tx_bx x
        rw [e0] at cT
        obtain ⟨y, hy⟩ : ∃ y, bx x = y := ⟨_, rfl⟩
        rw [hy] at hc cT
        have hi0 : (0 : Int) ≤ (j : Int) := by omega
        have hi1 : (j : Int) < (m : Int) := by omega
        clear h12 hx hy e0
        go_wp2_with (go_at_call 45; refine cT.out.mono ?_; rintro e w3 ⟨rfl, hb3⟩; have HO3 := Lib.hid (own_stay HO.out hb3); have HG3 := Lib.hid (HG.out.on hb3); have hc3 := HO3.out.cellAt j (by omega); have hf3 := HO3.out.frozenAt j; rw [strR_at (mapTo_at HX.out)] at hc3; clear hb3)
        have HR := Lib.hid (row_change HO3.out HX.out)
        have HG2 := Lib.hid (fun v => HG3.out.far (g := g) (j := j) (by have := HZ1.out; omega) v)
        go_roundw
        case rel => exact ⟨j + 1, by omega, by go_num, HR, Lib.hid (HG2.out _)⟩
        case measure => simp [intOf]; omega
      · have e : j = m := by omega
        have HO9 : Hid (wr.ownsRow base 9 1 (.slice a2 m c2) m (strR xs)) := Lib.hid (by
          have := HO.out
          rwa [mapTo_all _ _ _ (by rw [HM.out]; omega), ← HBh.out] at this)
        clear e
        go_wp2_with fail
        refine (cM.out _ _ HO9.out).mono ?_
        rintro e w5 ⟨v5, rfl, hO5, hb5⟩
        obtain ⟨a5, c5, rfl⟩ := own_slice hO5
        have G5 := Lib.hid (HG.out.on hb5)
        have HO5 := Lib.hid hO5
        clear hO5 hb5
        have hrc := G5.out.res.cell
        have hrf := G5.out.res.frozen
        go_wp2_with fail
        exact bodyPost_ret (v := .tuple #[.agg #[.slice a5 tt.length c5], .bool ok]) (by simp [results, Try.results44, go_sem, hrc]) rfl (G5.out.own HO5.out HG.out.size)

set_option maxRecDepth 1000000 in
set_option maxHeartbeats 2000000 in
theorem implTurnTrie_any (a : Option Addr) (n c : Nat) (t : List Nd) (W : World) (hN : Nds W.heap.size W a n c t) :
    Calls Try.prog 22 #[.agg #[.slice a n c]] W (TrieRes W (resT (trieB t) (turnL t)) (resK (trieB t) (turnL t))) := by
  have G1 := Lib.hid (GvR.start hN)
  have cC := Lib.hid (fun (W' : World) (G : GvR W W' a n c t) => changeTurn_any a n c t W' (G.gv.nds.mono G.size))
  obtain ⟨tt, htt⟩ : ∃ tt, resT (trieB t) (turnL t) = tt := ⟨_, rfl⟩
  obtain ⟨ok, hok⟩ : ∃ ok, resK (trieB t) (turnL t) = ok := ⟨_, rfl⟩
  rw [htt, hok] at cC ⊢
  clear hN htt hok
  have hbx := G1.out.box
  go_enter Try.func22, Try.ntmps22
  go_wp2_with fail
  refine (cC.out _ G1.out).mono ?_
  rintro e w5 ⟨v5, rfl, hO5, hb5⟩
  obtain ⟨a5, c5, rfl⟩ := own_slice hO5
  have G5 := Lib.hid (G1.out.on hb5)
  have HO5 := Lib.hid hO5
  clear hO5 hb5
  have hrc := G5.out.res.cell
  have hrf := G5.out.res.frozen
  go_wp2_with fail
  exact bodyPost_ret (v := .tuple #[.agg #[.slice a5 tt.length c5], .bool ok]) (by simp [results, Try.results22, go_sem, hrc]) rfl (G5.out.own HO5.out G1.out.size)

set_option maxRecDepth 1000000 in
set_option maxHeartbeats 2000000 in
theorem specTurnTrie_any (a : Option Addr) (n c : Nat) (t : List Nd) (W : World) (hN : Nds W.heap.size W a n c t) (hn : n ≤ 1048576) :
    Calls Try.prog 21 #[.agg #[.slice a n c]] W (ReadRes W (resT (trieB t) (turnL t)) (resK (trieB t) (turnL t))) := by
  have G1 := Lib.hid (GvR.start hN)
  have cT := Lib.hid (fun (W' : World) (G : GvR W W' a n c t) => l2Trie_any W.heap.size a n c t W' G.size G.gv.nds hn)
  have cW := Lib.hid (fun (W' : World) (G : GvR W W' a n c t) (ht : IsT t) => specWords_own W.heap.size a n c t W' G.size G.gv.nds hn ht)
  obtain ⟨q, hq⟩ : ∃ q, trieB t = q := ⟨_, rfl⟩
  have HQ := Lib.hid hq
  have HSh := Lib.hid (turnL_short (t := t))
  have HE : Hid (turnL t = (wordsOf t).map List.reverse) := Lib.hid rfl
  have HSo := Lib.hid (wordsOf_short t)
  have h40 := wordsOf_size t
  rw [hq] at cT ⊢
  obtain ⟨us, hus⟩ : ∃ us, wordsOf t = us := ⟨_, rfl⟩
  obtain ⟨xs, hxs⟩ : ∃ xs, turnL t = xs := ⟨_, rfl⟩
  rw [hus] at cW HE HSo h40
  rw [hxs] at HSh HE ⊢
  obtain ⟨m, hm⟩ : ∃ m, us.length = m := ⟨_, rfl⟩
  have HM := Lib.hid hm
  rw [hm] at cW h40
  obtain ⟨tt, htt⟩ : ∃ tt, resT q xs = tt := ⟨_, rfl⟩
  obtain ⟨ok, hok⟩ : ∃ ok, resK q xs = ok := ⟨_, rfl⟩
  rw [htt, hok]
  have HTT := Lib.hid htt
  have HOK := Lib.hid hok
  clear hN hq hus hxs hm htt hok
  have hbx := G1.out.box
  obtain ⟨i0, hii, hz0, hz1, hz2⟩ := info_parts infoS
  go_enter Try.func21, Try.ntmps21
  go_wp2_with fail
  refine (cT.out _ G1.out).mono ?_
  rintro e w2 ⟨rfl, hb2⟩
  have G2 := Lib.hid (G1.out.on hb2)
  clear hbx hb2
  cases q with
  | false =>
    obtain rfl : tt = [] := HTT.out.symm
    obtain rfl : ok = false := HOK.out.symm
    have hrc := G2.out.res.cell
    have hrf := G2.out.res.frozen
    go_wp2_with fail
    exact bodyPost_ret (v := .tuple #[.agg #[.slice none 0 0], .bool false]) (by simp [results, Try.results21, go_sem, hrc]) rfl G2.out.readNo
  | true =>
    have cM : Hid (∀ (B : Nat) (W' : World) (v : Value), W'.ownsRow B 9 1 v m (strR xs) → Calls Try.prog 31 #[v] W' (ReadRes W' tt ok)) := Lib.hid (fun B W' v hO => by
      have hl : m = xs.length := by rw [HE.out, List.length_map, HM.out]
      rw [hl] at hO
      obtain ⟨a5, c5, rfl, hW5⟩ := own_wds hO HSh.out
      rw [← HTT.out, ← HOK.out]
      exact l5Made_any W'.heap.size a5 _ c5 xs W' (Nat.le_refl _) hW5 (by omega))
    clear HTT HOK
    have HO0 := Lib.hid (World.ownsRow_lit (base := w2.heap.size) (e := 9) (size := 1) w2 #[] 0 (Nat.le_refl _) (by unfold maxLen; omega) rfl)
    have G3 := Lib.hid (G2.out.on ((Below.refl _ _).alloc (Nat.le_refl _) (.cells #[] 9)))
    have hbx := G3.out.box
    go_wp2_with fail
    refine (cW.out _ G3.out (trieB_iff.1 HQ.out)).mono ?_
    rintro e w5 ⟨a5, c5, rfl, hO5, hb5⟩
    have HOW5 : Hid (OW w2.heap.size w5 9 1 (.slice (some ⟨w2.heap.size, 0, none⟩) 0 0) 0 [] a5 m c5 us) := Lib.hid (OW.start HO0.out (own_lt HO0.out) hb5 (by simp) hO5)
    have HB5 : Hid (Below w2.heap.size w2 w5) := Lib.hid ((((Below.refl _ _).alloc (Nat.le_refl _) (.cells #[] 9))).trans (hb5.mono (by simp)))
    have hz5 := HB5.out.size
    clear hO5 hb5 hbx
    go_wp2
    go_loopw [4, 6] (fun o q wr => ∃ (j : Nat) (v : Value), j ≤ m ∧ q = .int .i64 j ∧ v = o ∧ Hid (OW w2.heap.size wr 9 1 v j (strR ((us.take j).map List.reverse)) a5 m c5 us) ∧ Hid (Below w2.heap.size w2 wr)) (fun _ q _ => m - (intOf q).toNat)
    case atStart => exact ⟨0, _, Nat.zero_le _, rfl, rfl, by simpa using HOW5, HB5⟩
    case round =>
      clear HOW5 HB5
      obtain ⟨j, v, hj, rfl, rfl, HO, HBw⟩ := hrel
      have hbs := HBw.out.size
      by_cases hlt : j < m
      · obtain ⟨x, hx⟩ : ∃ x, us[j]? = some x := ⟨_, List.getElem?_eq_getElem (by rw [HM.out]; exact hlt)⟩
        obtain ⟨g, rfl, hbg⟩ := row_some HO.out.row (by omega)
        have h12 := HSo.out x (at_mem hx)
        have hc := HO.out.row.cellAt j (by omega)
        rw [strR_at hx] at hc
        have HTk : Hid (strR ((us.take j).map List.reverse) ++ [.string (bx x.reverse)] = strR ((us.take (j + 1)).map List.reverse)) := Lib.hid (by rw [List.take_add_one, hx]; simp [strR])
        have cL := Lib.hid (fun w => l5Turned_any (bx x) w (by rw [bx_size]; omega))
        have e0 : tx (bx x) = x := tx_bx x
        rw [e0] at cL
        obtain ⟨y, hy⟩ : ∃ y, bx x = y := ⟨_, rfl⟩
        rw [hy] at hc cL
        obtain ⟨z, hz⟩ : ∃ z, bx x.reverse = z := ⟨_, rfl⟩
        rw [hz] at cL HTk
        have hi0 : (0 : Int) ≤ (j : Int) := by omega
        have hi1 : (j : Int) < (m : Int) := by omega
        clear h12 hx hy hz e0
        go_wp2_with (first
          | (go_at_call 43; refine (cL.out _).mono ?_; rintro e w3 ⟨rfl, rfl⟩)
          | (at_builtin; refine wpList_append_own_at _ rfl _ _ 43 rfl w2.heap.size 9 i0 (.string ByteArray.empty) 1 16 Try.underlying43 hii hz0 hz1 hz2 rfl (by decide) _ _ _ rfl (HO.out.out.alloc _) ⟨_, 0, none⟩ 1 1 [.string z] rfl rfl (cell_one_new _ _ _) (by simp [Value.oneCell']) (by unfold maxLen; omega) (by omega) (by simp; omega) ?_; intro v6 w6 hO6 hG6 _ hat; rw [HTk.out] at hO6; have HOW6 := Lib.hid (HO.out.app hO6 hG6 hat); have HB6 := Lib.hid (HBw.out.trans (HO.out.below hbs hG6)); clear hO6 hG6 hat))
        go_roundw
        case rel => exact ⟨j + 1, v6, by omega, by go_num, rfl, HOW6, HB6⟩
        case measure => simp [intOf]; omega
      · have e : j = m := by omega
        have HO9 : Hid (wr.ownsRow w2.heap.size 9 1 v m (strR xs)) := Lib.hid (by
          have := HO.out.out
          rwa [e, List.take_of_length_le (by rw [HM.out]; exact Nat.le_refl _), ← HE.out] at this)
        have G9 := Lib.hid (G2.out.on HBw.out)
        clear e
        go_wp2_with fail
        refine (cM.out _ _ _ HO9.out).mono ?_
        rintro e w7 ⟨a7, c7, rfl, hN7, hb7⟩
        have G7 := Lib.hid (G9.out.on hb7)
        have HN7 := Lib.hid hN7
        clear hN7 hb7
        have hrc := G7.out.res.cell
        have hrf := G7.out.res.frozen
        go_wp2_with fail
        exact bodyPost_ret (v := .tuple #[.agg #[.slice a7 tt.length c7], .bool ok]) (by simp [results, Try.results21, go_sem, hrc]) rfl (G7.out.read HN7.out)

theorem agreeTurnTrie (t : List Nd) (n : Nat) (hn : n ≤ 1048576) : ∃ (tt : List Nd) (ok : Bool), Fits tt ∧ tt.length ≤ 481 ∧
    (∀ (W : World) (a : Option Addr), Nds W.heap.size W a n n t → Calls Try.prog 21 #[.agg #[.slice a n n]] W (ReadRes W tt ok)) ∧
    (∀ (W : World) (a : Option Addr), Nds W.heap.size W a n n t → Calls Try.prog 22 #[.agg #[.slice a n n]] W (TrieRes W tt ok)) :=
  ⟨_, _, resT_fits _ _, resT_len _ _, fun W a hN => specTurnTrie_any a n n t W hN hn, fun W a hN => implTurnTrie_any a n n t W hN⟩

end Go.Proofs.Ytoofpgehkihbcad
