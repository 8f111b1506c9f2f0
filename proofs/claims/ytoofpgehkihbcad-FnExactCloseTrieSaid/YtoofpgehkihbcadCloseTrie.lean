/-
  The trie of all beginnings: both functions.
-/
import Derived.Test.YtoofpgehkihbcadClo
import Derived.Test.YtoofpgehkihbcadGvR
import Derived.Test.YtoofpgehkihbcadCloneN
import Derived.Test.YtoofpgehkihbcadIsTrie
import Derived.Deep.RegionHeld3
namespace Go.Proofs.Ytoofpgehkihbcad
open Go.RowKit
set_option linter.unusedVariables false

/-- the first j nodes end as told -/
def endsTo (t : List Nd) (h : Bool) (j : Nat) : List Nd := (t.take j).map (fun d => ⟨d.l, d.p, h⟩) ++ t.drop j

theorem endsTo_zero (t : List Nd) (h : Bool) : endsTo t h 0 = t := by simp [endsTo]
theorem endsTo_len (t : List Nd) (h : Bool) (j : Nat) : (endsTo t h j).length = t.length := by simp [endsTo]; omega
theorem endsTo_at {t : List Nd} {h : Bool} {j : Nat} {d : Nd} (hd : t[j]? = some d) : (endsTo t h j)[j]? = some d := by
  have hl := (List.getElem?_eq_some_iff.1 hd).1
  unfold endsTo
  rw [List.getElem?_append_right (by simp; omega)]
  simp only [List.length_map, List.length_take, List.getElem?_drop]
  rw [show j + (j - min j t.length) = j by omega]
  exact hd
theorem endsTo_succ {t : List Nd} {h : Bool} {j : Nat} {d : Nd} (hd : t[j]? = some d) : (endsTo t h j).set j ⟨d.l, d.p, h⟩ = endsTo t h (j + 1) := by
  have hl := (List.getElem?_eq_some_iff.1 hd).1
  unfold endsTo
  rw [List.set_append_right _ _ (by simp; omega), List.take_add_one, hd]
  simp only [List.length_map, List.length_take, Nat.min_eq_left (Nat.le_of_lt hl), Nat.sub_self, Option.toList_some, List.map_append, List.map_cons, List.map_nil, List.append_assoc, List.singleton_append]
  rw [List.drop_eq_getElem_cons hl, List.set_cons_zero]
theorem endsTo_all (t : List Nd) (h : Bool) (j : Nat) (hj : t.length ≤ j) : endsTo t h j = t.map fun d => ⟨d.l, d.p, h⟩ := by
  unfold endsTo
  rw [List.take_of_length_le hj, List.drop_eq_nil_of_le hj, List.append_nil]

theorem ndc_end : ∀ {t : List Nd} {k : Nat} {d : Nd} (x : Bool), t[k]? = some d → (ndc t).set (k * 3 + 2) (.bool x) = ndc (t.set k ⟨d.l, d.p, x⟩)
  | [], k, d, x, h => by simp at h
  | q :: t, 0, d, x, h => by
    obtain rfl : q = d := by simpa using h
    rfl
  | q :: t, k + 1, d, x, h => by
    have ih := ndc_end (t := t) (k := k) (d := d) x (by simpa using h)
    have e : (k + 1) * 3 + 2 = (k * 3 + 2) + 3 := by omega
    rw [e]
    simp only [ndc, List.set_cons_succ, ih]

theorem ends_none : ∀ {t : List Nd}, ends t = 0 → ∀ d ∈ t, d.e = false
  | [], _, d, hd => by cases hd
  | q :: t, h, d, hd => by
    have h1 : (if q.e then 1 else 0) + ends t = 0 := by rw [Nat.add_comm]; simpa [ends, Nat.add_comm] using h
    rcases List.mem_cons.1 hd with rfl | hd
    · cases e : d.e with
      | false => rfl
      | true => rw [e] at h1; simp at h1
    · exact ends_none (by omega) d hd

theorem pre_self {ws ps : List Txt} (h : Pre ws ps) : Pre ps ps := ⟨h.asc, fun x => by
  constructor
  · exact fun hx => .inr ⟨x, hx, List.prefix_refl _⟩
  · rintro (rfl | ⟨y, hy, hp⟩)
    · exact (h.mem _).2 (.inl rfl)
    · rcases (h.mem y).1 hy with rfl | ⟨w, hw, hq⟩
      · exact (h.mem _).2 (.inl (List.prefix_nil.1 hp))
      · exact (h.mem _).2 (.inr ⟨w, hw, hp.trans hq⟩)⟩

/-- all beginnings make the trie with an end at each node, if they are not too many -/
theorem close_eq {t : List Nd} {ps : List Txt} (hv : Valid t ps) : setOk (clo (wordsOf t)) = decide (t.length ≤ 40) ∧ (t.length ≤ 40 → tofT (clo (wordsOf t)) = t.map fun d => ⟨d.l, d.p, decide (0 < ends t)⟩) := by
  by_cases h0 : 0 < ends t
  · have hws : wordsOf t = wds t ps := wordsOf_eq hv
    have hne : wds t ps ≠ [] := by
      intro e
      have := hv.wordsLen
      rw [e] at this
      simp at this
      omega
    have hc : clo (wordsOf t) = ps := by rw [hws]; exact clo_pre hv.pre hne
    have hsp : setOf ps = ps := setOf_id hv.tells.asc
    have hok : setOk ps = decide (t.length ≤ 40) := by rw [setOk_all hv.isW, hsp, hv.lenEq]
    rw [hc]
    refine ⟨hok, fun hl => ?_⟩
    rw [tofT_yes (by rw [hok]; exact decide_eq_true hl), hsp, ← made_of (pre_self hv.pre)]
    have hm := hv.made
    have h1 : decide (0 < ends t) = true := decide_eq_true h0
    rw [h1]
    conv => rhs; rw [← hm]
    unfold mkT
    rw [List.map_map]
    refine List.map_congr_left fun x hx => ?_
    simp only [Function.comp]
    unfold mkN
    by_cases hx0 : x = []
    · simp [hx0]
      rw [← hx0]; exact hx
    · simp [hx0, hx]
  · have e0 : ends t = 0 := by omega
    have hws : wordsOf t = [] := List.eq_nil_of_length_eq_zero (by rw [wordsOf_len hv, e0])
    have hwd : wds t ps = [] := by rw [← wordsOf_eq hv]; exact hws
    have ht : made [] = t := by
      have := made_wds hv
      rwa [hwd] at this
    have hok : setOk ([] : List Txt) = true := by simp [setOk, setOf]
    have hl : t.length = 1 := by
      rw [← ht]
      unfold made
      rw [mkT_len]
      rfl
    rw [hws, clo_nil]
    refine ⟨by rw [hok, hl]; rfl, fun _ => ?_⟩
    rw [tofT_yes hok]
    have : setOf ([] : List Txt) = [] := rfl
    rw [this, ht]
    have h1 : decide (0 < ends t) = false := decide_eq_false h0
    rw [h1]
    have h2 := ends_none e0
    conv => lhs; rw [← List.map_id t]
    refine List.map_congr_left fun d hd => ?_
    exact Nd.eq rfl rfl (h2 d hd)

theorem map_fits {t : List Nd} {h : Bool} (hf : Fits t) : Fits (t.map fun d => ⟨d.l, d.p, h⟩) := fun d hd => by
  obtain ⟨q, hq, rfl⟩ := List.mem_map.1 hd
  exact hf q hq

set_option maxRecDepth 1000000 in
set_option maxHeartbeats 1000000 in
theorem specCloseTrie_any (a : Option Addr) (n c : Nat) (t : List Nd) (W : World) (hN : Nds W.heap.size W a n c t) (hn : n ≤ 1048576) :
    Calls Try.prog 13 #[.agg #[.slice a n c]] W (ReadRes W (resT (trieB t) (clo (wordsOf t))) (resK (trieB t) (clo (wordsOf t)))) := by
  have G1 := Lib.hid (GvR.start hN)
  have cT := Lib.hid (fun (W' : World) (G : GvR W W' a n c t) => l2Trie_any W.heap.size a n c t W' G.size G.gv.nds hn)
  have cW := Lib.hid (fun (W' : World) (G : GvR W W' a n c t) (ht : IsT t) => specWords_read W.heap.size a n c t W' G.size G.gv.nds hn ht)
  have h40 := wordsOf_size t
  obtain ⟨r, hr⟩ : ∃ r, trieB t = r := ⟨_, rfl⟩
  have HR := Lib.hid hr
  rw [hr] at cT ⊢
  have HIs : Hid (r = true → ∀ x ∈ wordsOf t, IsW x) := Lib.hid (fun e => by
    obtain ⟨ps, hv⟩ := trieB_iff.1 (hr.trans e)
    rw [wordsOf_eq hv]
    exact hv.wordsW)
  obtain ⟨ws, hws⟩ : ∃ ws, wordsOf t = ws := ⟨_, rfl⟩
  rw [hws] at cW HIs h40 ⊢
  obtain ⟨m, hm⟩ : ∃ m, ws.length = m := ⟨_, rfl⟩
  rw [hm] at cW h40
  obtain ⟨tt, htt⟩ : ∃ tt, resT r (clo ws) = tt := ⟨_, rfl⟩
  obtain ⟨ok, hok⟩ : ∃ ok, resK r (clo ws) = ok := ⟨_, rfl⟩
  rw [htt, hok]
  have HTT := Lib.hid htt
  have HOK := Lib.hid hok
  clear hN hr hws htt hok
  have HM0 := Lib.hid hm
  clear hm
  have hbx := G1.out.box
  go_enter Try.func13, Try.ntmps13
  go_wp2_with fail
  refine (cT.out _ G1.out).mono ?_
  rintro e w2 ⟨rfl, hb2⟩
  have G2 := Lib.hid (G1.out.on hb2)
  clear hbx hb2
  have hbx := G2.out.box
  cases r with
  | false =>
    obtain rfl : tt = [] := HTT.out.symm
    obtain rfl : ok = false := HOK.out.symm
    have hrc := G2.out.res.cell
    have hrf := G2.out.res.frozen
    go_wp2_with fail
    exact bodyPost_ret (v := .tuple #[.agg #[.slice none 0 0], .bool false]) (by simp [results, Try.results13, go_sem, hrc]) rfl G2.out.readNo
  | true =>
    have HIW := Lib.hid (HIs.out rfl)
    clear HIs
    have cM := Lib.hid (fun (W' : World) (a' : Option Addr) (k c' : Nat) (h : Wds W'.heap.size W' a' k c' (clo ws)) (hk : k ≤ 1048576) => l5Made_any W'.heap.size a' k c' (clo ws) W' (Nat.le_refl _) h hk)
    rw [(resT_yes (clo ws)).1.symm.trans HTT.out, (resT_yes (clo ws)).2.symm.trans HOK.out] at cM
    clear HTT HOK
    have HLen : Hid ((clo ws).length ≤ 481) := Lib.hid (by
      by_cases e : ws = []
      · rw [e, clo_nil]; simp
      · have hv := (trieB_iff.1 HR.out)
        rw [clo_pre (pres_pre ws) e]
        exact pre_few HIW.out (by rw [HM0.out]; exact h40) (pres_pre ws))
    go_wp2_with fail
    refine (cW.out _ G2.out (trieB_iff.1 HR.out)).mono ?_
    rintro e w3 ⟨a3, c3, rfl, hW3, hb3⟩
    have G3 := Lib.hid (G2.out.on hb3)
    have HW3 := Lib.hid hW3
    clear hb3 hbx hW3
    go_wp2_with fail
    refine (l5Closed_any w3.heap.size a3 m c3 ws w3 (Nat.le_refl _) HW3.out h40 HIW.out).mono ?_
    rintro e w4 ⟨a4, c4, rfl, hW4, hb4⟩
    have G4 := Lib.hid (G3.out.on hb4)
    obtain ⟨k, hk⟩ : ∃ k, (clo ws).length = k := ⟨_, rfl⟩
    rw [hk] at hW4 HLen
    have HW4 := Lib.hid hW4
    rw [hk]
    have hk2 := HLen.out
    clear hb4 hW4 hk
    go_wp2_with fail
    refine (cM.out _ _ _ _ HW4.out (by omega)).mono ?_
    rintro e w5 ⟨a5, c5, rfl, hN5, hb5⟩
    have G5 := Lib.hid (G4.out.on hb5)
    have HN5 := Lib.hid hN5
    clear hN5 hb5
    have hrc := G5.out.res.cell
    have hrf := G5.out.res.frozen
    go_wp2_with fail
    exact bodyPost_ret (v := .tuple #[.agg #[.slice a5 tt.length c5], .bool ok]) (by simp [results, Try.results13, go_sem, hrc]) rfl (G5.out.read HN5.out)

set_option maxRecDepth 1000000 in
set_option maxHeartbeats 2000000 in
theorem implCloseTrie_any (a : Option Addr) (n c : Nat) (t : List Nd) (W : World) (hN : Nds W.heap.size W a n c t) (hn : n ≤ 1048576) :
    Calls Try.prog 14 #[.agg #[.slice a n c]] W (TrieRes W (resT (trieB t) (clo (wordsOf t))) (resK (trieB t) (clo (wordsOf t)))) := by
  have G1 := Lib.hid (GvR.start hN)
  have cT := Lib.hid (fun (W' : World) (G : GvR W W' a n c t) => isTrie_any W.heap.size a n c t W' G.size G.gv.nds)
  obtain ⟨r, hr⟩ : ∃ r, trieB t = r := ⟨_, rfl⟩
  have HR := Lib.hid hr
  rw [hr] at cT ⊢
  have hl := hN.len
  have C := hN.cap
  have T := hN.top
  have hbx := G1.out.box
  cases r with
  | false =>
    clear hN hr hl
    go_enter Try.func14, Try.ntmps14
    go_wp2_with fail
    refine (cT.out _ G1.out).mono ?_
    rintro e w2 ⟨rfl, hb2⟩
    have G2 := Lib.hid (G1.out.on hb2)
    clear hbx hb2
    have hrc := G2.out.res.cell
    have hrf := G2.out.res.frozen
    go_wp2_with fail
    exact bodyPost_ret (v := .tuple #[.agg #[.slice none 0 0], .bool false]) (by simp [results, Try.results14, go_sem, hrc]) rfl G2.out.ownNo
  | true =>
    obtain ⟨ps, hv⟩ := trieB_iff.1 hr
    obtain ⟨k1, k2⟩ := close_eq hv
    obtain ⟨e1, e2⟩ := resT_yes (clo (wordsOf t))
    rw [e1, e2, k1]
    rw [hl] at k2 ⊢
    have hn1 := (isT_size ⟨ps, hv⟩).1
    rw [hl] at hn1
    by_cases h40 : n ≤ 40
    · have d40 : decide (n ≤ 40) = true := decide_eq_true h40
      rw [k2 h40, d40]
      obtain ⟨d0, hd0⟩ : ∃ d, t[0]? = some d := ⟨_, List.getElem?_eq_getElem (by omega)⟩
      obtain ⟨b, o, rfl, hbB, _⟩ := hN.spot 0 d0 hd0
      have HL := Lib.hid hl
      have HF := Lib.hid hN.rng
      have h41 : ¬ (40 : Int) < (n : Int) := by omega
      clear hN hr hl e1 e2 k1 k2 d40 hd0 hv
      obtain ⟨q, hq⟩ : ∃ q, ends t = q := ⟨_, rfl⟩
      rw [hq]
      have HQ := Lib.hid hq
      clear hq
      obtain ⟨hh, hhh⟩ : ∃ hh, decide (0 < q) = hh := ⟨_, rfl⟩
      have hhi : decide ((0 : Int) < (q : Int)) = hh := by rw [← hhh]; exact decide_eq_decide.2 (by omega)
      rw [hhh]
      have HHI := Lib.hid hhi
      have HHN := Lib.hid hhh
      obtain ⟨tt, htt⟩ : ∃ tt, (t.map fun d => (⟨d.l, d.p, hh⟩ : Nd)) = tt := ⟨_, rfl⟩
      have HTT := Lib.hid htt
      have HLt : Hid (n = tt.length) := Lib.hid (by rw [← htt, List.length_map, HL.out])
      rw [htt]
      clear hhh htt hhi
      have hqle : q ≤ n := by have := ends_le t; rw [HQ.out, HL.out] at this; exact this
      go_enter Try.func14, Try.ntmps14
      go_wp2_with fail
      refine (cT.out _ G1.out).mono ?_
      rintro e w2 ⟨rfl, hb2⟩
      have G2 := Lib.hid (G1.out.on hb2)
      clear hbx hb2
      have hbx := G2.out.box
      go_wp2_with fail
      refine (cloneNodes_any W.heap.size b o n c t w2 G2.out.size G2.out.gv.nds hn).mono ?_
      rintro e w3 ⟨v3, rfl, hO3, hb3⟩
      obtain ⟨a3, c3, rfl⟩ := own_slice hO3
      have G3 := Lib.hid (G2.out.on hb3)
      have HO3 := Lib.hid hO3
      have HZ2 := Lib.hid G2.out.res.lt
      clear hbx hb3 hO3
      go_wp2_with fail
      refine (countEnds_any w3.heap.size a3 n c3 t w3 (Nat.le_refl _) (nds_own HO3.out HF.out) (by omega)).mono ?_
      rw [HQ.out]
      rintro e w4 ⟨rfl, hb4⟩
      have G4 := Lib.hid (G3.out.on hb4)
      have HO4 := Lib.hid (own_stay HO3.out hb4)
      clear hb4
      obtain ⟨g, cg, hg⟩ : ∃ g cg, Value.slice a3 n c3 = .slice (some ⟨g, 0, none⟩) n cg := by
        rcases HO3.out.2 with ⟨_, h0⟩ | ⟨g, cap, cur, h', _⟩
        · omega
        · exact ⟨g, cap, h'⟩
      injection hg with e1 _ e3
      subst e1 e3
      have hhi := HHI.out
      have hhn := HHN.out
      clear HQ
      go_wp2
      go_loopw [25] (fun i wr => ∃ (j : Nat), j ≤ n ∧ i = .int .i64 j ∧ Hid (wr.ownsRow w2.heap.size 52 3 (.slice (some ⟨g, 0, none⟩) n c3) n (ndc (endsTo t hh j))) ∧ Hid (GvR W wr (some ⟨b, o, none⟩) n c t)) (fun i _ => n - (intOf i).toNat)
      case atStart => exact ⟨0, Nat.zero_le _, rfl, Lib.hid (by rw [endsTo_zero]; exact HO4.out), G4⟩
      case round =>
        obtain ⟨j, hj, rfl, HO, HG⟩ := hrel
        by_cases hlt : j < n
        · obtain ⟨d, hd⟩ : ∃ d, t[j]? = some d := ⟨_, List.getElem?_eq_getElem (by rw [HL.out]; exact hlt)⟩
          have hf2 := HO.out.frozenAt (j * 3 + 2)
          have hx2 := HO.out.cellAt (j * 3 + 2) (by omega)
          rw [(ndc_at (endsTo_at (h := hh) hd)).2.2] at hx2
          have hs := (HO.out.stored (j * 3 + 2) (.bool hh)).1
          rw [ndc_end hh (endsTo_at (h := hh) hd), endsTo_succ hd] at hs
          have HS := Lib.hid hs
          have HG2 : Hid (∀ v, GvR W (wr.setCell ⟨g, j * 3 + 2, none⟩ v) (some ⟨b, o, none⟩) n c t) := Lib.hid (fun v => by
            have hge := own_base HO.out
            have hz := HZ2.out
            have hbb : Below (W.heap.size + 1 + 1) wr (wr.setCell ⟨g, j * 3 + 2, none⟩ v) := (Below.refl _ _).setCell (p := ⟨g, j * 3 + 2, none⟩) (by show _ ≤ g; omega) v
            have gv := HG.out.gv
            exact ⟨⟨(hbb.cell (p := ⟨W.heap.size, 0, none⟩) (by show W.heap.size < _; omega)).trans gv.box, Nat.lt_of_lt_of_le gv.lt hbb.size, gv.bel.trans (hbb.mono (by omega)), gv.nds.keep (hbb.mono (by omega))⟩, box_under HG.out.res hbb (by omega)⟩)
          have hi0 : (0 : Int) ≤ (j : Int) := by omega
          have hi1 : (j : Int) < (n : Int) := by omega
          clear hs hd
          go_wp2
          go_roundw
          case rel => exact ⟨j + 1, by omega, by go_num, HS, Lib.hid (HG2.out _)⟩
          case measure => simp [intOf]; omega
        · have e : j = n := by omega
          have HF2 : Hid (endsTo t hh j = t.map fun d => ⟨d.l, d.p, hh⟩) := Lib.hid (endsTo_all t hh j (by rw [HL.out]; omega))
          have hrc := HG.out.res.cell
          have hrf := HG.out.res.frozen
          have HO9 := HO
          rw [HF2.out, HTT.out] at HO9
          clear e
          go_wp2
          refine bodyPost_ret (v := .tuple #[.agg #[.slice (some ⟨g, 0, none⟩) n c3], .bool true]) (by simp [results, Try.results14, go_sem, hrc]) rfl ?_
          have hO := HO9.out
          have hl := HLt.out
          subst hl
          exact HG.out.own hO (by have := G2.out.size; exact this)
    · have d40 : decide (n ≤ 40) = false := decide_eq_false h40
      rw [d40]
      have hno : tofT (clo (wordsOf t)) = [] := tofT_no (by rw [k1, hl]; exact d40)
      rw [hno]
      have h41 : (40 : Int) < (n : Int) := by omega
      clear hN hr hl e1 e2 k1 k2 d40 hno hv h40
      go_enter Try.func14, Try.ntmps14
      go_wp2_with fail
      refine (cT.out _ G1.out).mono ?_
      rintro e w2 ⟨rfl, hb2⟩
      have G2 := Lib.hid (G1.out.on hb2)
      clear hbx hb2
      have hbx := G2.out.box
      have hrc := G2.out.res.cell
      have hrf := G2.out.res.frozen
      go_wp2_with fail
      exact bodyPost_ret (v := .tuple #[.agg #[.slice none 0 0], .bool false]) (by simp [results, Try.results14, go_sem, hrc]) rfl G2.out.ownNo

theorem agreeCloseTrie (t : List Nd) (n : Nat) (hn : n ≤ 1048576) : ∃ (tt : List Nd) (ok : Bool), Fits tt ∧ tt.length ≤ 481 ∧
    (∀ (W : World) (a : Option Addr), Nds W.heap.size W a n n t → Calls Try.prog 13 #[.agg #[.slice a n n]] W (ReadRes W tt ok)) ∧
    (∀ (W : World) (a : Option Addr), Nds W.heap.size W a n n t → Calls Try.prog 14 #[.agg #[.slice a n n]] W (TrieRes W tt ok)) :=
  ⟨_, _, resT_fits _ _, resT_len _ _, fun W a hN => specCloseTrie_any a n n t W hN hn, fun W a hN => implCloseTrie_any a n n t W hN hn⟩

end Go.Proofs.Ytoofpgehkihbcad
