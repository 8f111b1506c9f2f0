/-
  The places of the splits of a passage: the reference and the program answer the same.
-/
import Derived.Test.YtknoafkgeaibpabPlacesM
import Derived.Test.YtknoafkgeaibpabSplitsOf
import Derived.Test.YtknoafkgeaibpabWays
import Derived.Test.YtknoafkgeaibpabMarkOwnI
import Derived.StillTailTactics
import Derived.Deep.RegionHeld3
namespace Go.Proofs.Ytknoafkgeaibpab.cap
open Go.RowKit
set_option linter.unusedVariables false

structure PlacesFacts (t : List Nd) (s : ByteArray) (xs : List Nat) (ok : Bool) : Prop where
  okEq : ok = (trieB t && okP s)
  yes : ok = true → xs = (rch (wordsOf t) (tx s) (telv sumT (wordsOf t) 1 (tx s)) (s.size + 1) (s.size + 1)).2
  no : ok = false → xs = []

theorem made_b {w : World} {base n : Nat} {v : Value} (h : w.ownsRow base 4 1 v n (madeCells (Value.bool false).cells (n * 1)).toList) : w.ownsRow base 4 1 v n ((List.replicate n false).map Value.bool) := by
  have e9 : (madeCells (Value.bool false).cells (n * 1)).toList = List.replicate n (.bool false) := by rw [Nat.mul_one]; exact toList_madeCells_one _ _
  rw [e9] at h
  simpa using h

set_option maxRecDepth 1000000 in
set_option maxHeartbeats 4000000 in
theorem implPlaces (t : List Nd) (n c : Nat) (s : ByteArray) (hn : n ≤ 1048576) (hs : s.size ≤ 9223372036854775807) (xs : List Nat) (ok : Bool) (hf : PlacesFacts t s xs ok) (W : World) (a : Option Addr) (hN : Nds W.heap.size W a n c t) :
    Calls Try.prog 25 #[.agg #[.slice a n c], .string s] W (ownI.OwnNums W xs ok) := by
  have G1 := Lib.hid (Gv.start hN)
  have hbx := G1.out.box
  have cT := Lib.hid (fun W w a (G : Gv W w a n c t) => isTrie_any W.heap.size a n c t w G.bel.size G.nds)
  have cP := Lib.hid (fun w => isPassage_any s w hs)
  have HOk := Lib.hid hf.okEq
  have HY := Lib.hid hf.yes
  have HNo := Lib.hid hf.no
  obtain ⟨q1, hq1⟩ : ∃ q1, trieB t = q1 := ⟨_, rfl⟩
  obtain ⟨q2, hq2⟩ : ∃ q2, okP s = q2 := ⟨_, rfl⟩
  have HQ := Lib.hid hq1
  have HQ2 := Lib.hid hq2
  rw [hq1] at cT HOk
  rw [hq2] at cP HOk
  clear hq1 hq2 hN hf
  cases q1 with
  | false =>
    go_enter Try.func25, Try.ntmps25
    go_wp2_with (first
      | (go_at_call 45; refine (cT.out _ _ _ G1.out).mono ?_; rintro e w2 ⟨rfl, hb2⟩; have G2 := Lib.hid (G1.out.on hb2); clear hb2))
    go_ret2
    exact ⟨_, by rw [HOk.out]; rfl, by rw [HNo.out HOk.out]; exact World.ownsRow_nil _ _ _ _, G2.out.bel⟩
  | true =>
    cases q2 with
    | false =>
      go_enter Try.func25, Try.ntmps25
      go_wp2_with (first
        | (go_at_call 45; refine (cT.out _ _ _ G1.out).mono ?_; rintro e w2 ⟨rfl, hb2⟩; have G2 := Lib.hid (G1.out.on hb2); clear hb2)
        | (go_at_call 46; refine (cP.out _).mono ?_; rintro e w3 ⟨rfl, hb3⟩; have G3 := Lib.hid (G2.out.on hb3); clear hb3))
      go_ret2
      exact ⟨_, by rw [HOk.out]; rfl, by rw [HNo.out HOk.out]; exact World.ownsRow_nil _ _ _ _, G3.out.bel⟩
    | true =>
      obtain ⟨ps, hv⟩ := trieB_iff.1 HQ.out
      have hs60 := (okP_iff.1 HQ2.out).1
      have HLow := Lib.hid (okP_iff.1 HQ2.out).2
      have HXs := Lib.hid (HY.out HOk.out)
      have HAs : Hid (Asc (wordsOf t)) := Lib.hid (by rw [wordsOf_eq hv]; exact hv.wordsAsc)
      have cR := Lib.hid (fun (W w : World) (a : Option Addr) (G : Gv W w a n c t) => splitsOfRests_any W.heap.size a n c t ps s w G.bel.size G.nds hv HLow.out hs60)
      have cM : Hid (∀ (r : ByteArray) (W' : World), Gv W W' a n c t → Low (tx r) → r.size ≤ 100 → _) := Lib.hid (fun r W' (G : Gv W W' a n c t) h1 h2 => matchesOf_any W.heap.size a n c t ps r W' G.bel.size G.nds hv h1 h2)
      rw [← wordsOf_eq hv] at cR cM
      clear hv HY HNo
      obtain ⟨ws, hws⟩ : ∃ ws, wordsOf t = ws := ⟨_, rfl⟩
      rw [hws] at cR cM HXs HAs
      clear hws
      obtain ⟨nn, hnn⟩ : ∃ nn, s.size + 1 = nn := ⟨_, rfl⟩
      have hwl := telv_len (T := sumT) (ws := ws) (e := 1) (tx s)
      rw [tx_len, hnn] at hwl
      obtain ⟨wl, hwle⟩ : ∃ wl, telv sumT ws 1 (tx s) = wl := ⟨_, rfl⟩
      rw [hwle] at cR HXs hwl
      have HWl := Lib.hid hwl
      have HNN := Lib.hid hnn
      rw [hnn] at cR HXs
      have hnn1 : 1 ≤ nn := by omega
      have hnn61 : nn ≤ 61 := by omega
      have hn1 : (0 : Int) < (nn : Int) := by omega
      clear hnn hwl hwle
      obtain ⟨i0, hii, hz0, hz1, hz2⟩ := info_parts infoI
      obtain ⟨j0, hji, hj0, hj1, hj2⟩ := info_parts infoBo
      go_enter Try.func25, Try.ntmps25
      go_wp2_with fail
      refine (cT.out _ _ _ G1.out).mono ?_
      rintro e w2 ⟨rfl, hb2⟩
      have G2 := Lib.hid (G1.out.on hb2)
      have hbx2 := G2.out.box
      clear hb2 hbx
      go_wp2_with fail
      refine (cP.out _).mono ?_
      rintro e w3 ⟨rfl, hb3⟩
      have G3 := Lib.hid (G2.out.on hb3)
      have hbx3 := G3.out.box
      clear hb3 hbx2
      go_wp2_with fail
      refine (cR.out _ _ _ G3.out).mono ?_
      rintro e w4 ⟨gw, rfl, hO4, hb4⟩
      have G4 := Lib.hid (G3.out.on hb4)
      have hb04 : W.heap.size + 1 ≤ w4.heap.size := G4.out.lt
      have HW4 := Lib.hid (own_down hO4 (show W.heap.size + 1 ≤ w3.heap.size from G3.out.lt))
      clear hO4 hb4 hbx3
      go_wp2_with (first
        | (at_make; refine wpList_make_full _ rfl _ _ 67 rfl (W.heap.size + 1) 4 j0 (.bool false) 1 Try.underlying67 hji hj0 hj1 .i64 .i64 _ _ nn rfl rfl rfl rfl (by rw [hj2]; omega) (by unfold maxLen; omega) hb04 ?_; intro w5 hown hgrow; have hown1 := made_b hown; have HB5 := Lib.hid hown1; have HW5 := Lib.hid (HW4.out.kept hgrow (.inr (by simp [Value.ownBlock]))); have hlt5 := own_lt HW4.out; have G5 := Lib.hid (G4.out.on2 ((Below.refl _ _).grown hgrow hb04 (fun k e => by cases e))); have hs5 : w4.heap.size < w5.heap.size := own_lt hown1; have hfz := hown1.frozenAt 0; have hcz : w5.cell? ⟨w4.heap.size, 0, none⟩ = some (.bool false) := (hown1.cellAt 0 (by omega)).trans (by rw [List.getElem?_map, List.getElem?_replicate, if_pos (by omega)]; rfl); clear hown hown1 hgrow))
      have hgwb : gw ≠ w4.heap.size := by omega
      have S6 : Hid (SP (W.heap.size + 1) ((w5.setCell ⟨w4.heap.size, 0, none⟩ (.bool true)).alloc (.cells #[] 3)) (.slice (some ⟨(w5.setCell ⟨w4.heap.size, 0, none⟩ (.bool true)).heap.size, 0, none⟩) 0 0) 0 [] w4.heap.size gw nn (rch ws (tx s) wl nn 0).1 wl 3 (.slice none 0 0) 0 []) := Lib.hid (by
        have hsz : (w5.setCell ⟨w4.heap.size, 0, none⟩ (.bool true)).heap.size = w5.heap.size := by simp
        have hst := HB5.out.stored 0 (.bool true)
        rw [← List.map_set] at hst
        refine ⟨World.ownsRow_lit _ #[] 0 (by rw [hsz]; omega) (by unfold maxLen; omega) rfl, hst.1.alloc _, (HW5.out.kept hst.2 (.inr (by simp [Value.ownBlock]; omega))).alloc _, World.ownsRow_nil _ _ _ _, ?_, ?_, hgwb, .inl rfl, by simp [Value.ownBlock]⟩
        · simp [Value.ownBlock]; omega
        · simp [Value.ownBlock]; omega)
      have G6 : Hid (Gv W ((w5.setCell ⟨w4.heap.size, 0, none⟩ (.bool true)).alloc (.cells #[] 3)) a n c t) := Lib.hid ((G5.out.on2 ((Below.refl _ _).grown (HB5.out.stored 0 (.bool true)).2 (by omega) (fun k e => by injection e with e; omega))).on ((Below.refl _ _).alloc (Nat.le_refl _) _))
      have hbw6 : W.heap.size + 1 ≤ ((w5.setCell ⟨w4.heap.size, 0, none⟩ (.bool true)).alloc (.cells #[] 3)).heap.size := by simp; omega
      obtain ⟨gb, hgb⟩ : ∃ gb, w4.heap.size = gb := ⟨_, rfl⟩
      rw [hgb] at S6 G6 hbw6 ⊢
      clear hfz hcz HB5 HW5 G5 HW4 hgb hgwb hlt5 hs5 hb04 G4 G3 G2 G1
      obtain ⟨w6, hw6⟩ : ∃ w6, w5.setCell ⟨gb, 0, none⟩ (.bool true) = w6 := ⟨_, rfl⟩
      have hsz6 : w6.heap.size = w5.heap.size := by rw [← hw6]; simp
      rw [hw6, hsz6] at S6
      rw [hw6] at G6 hbw6 ⊢
      clear hw6 hsz6
      go_wp2_with fail
      go_loopw [8, 31] (fun o p wr => ∃ (k m : Nat) (v : Value), k ≤ nn ∧ m ≤ k ∧ o = v ∧ p = .int .i64 k ∧ Hid ((rch ws (tx s) wl nn k).2.length = m) ∧ Hid (SP (W.heap.size + 1) wr v m (rch ws (tx s) wl nn k).2 gb gw nn (rch ws (tx s) wl nn k).1 wl 3 (.slice none 0 0) 0 []) ∧ Hid (Gv W wr a n c t)) (fun _ p _ => nn - (intOf p).toNat)
      case atStart => exact ⟨0, 0, _, Nat.zero_le _, Nat.le_refl _, rfl, rfl, Lib.hid rfl, S6, G6⟩
      case round =>
        clear S6 G6 hbw6
        obtain ⟨k, m, v, hk, hmk, rfl, rfl, HM, R, G⟩ := hrel
        have hbase : W.heap.size + 1 ≤ wr.heap.size := G.out.lt
        by_cases hlt : k < nn
        · have hcb := R.out.marked k hlt
          have hcw := R.out.ways k hlt
          have hk3 : (k : Int) < (nn : Int) := by omega
          obtain ⟨bk, hbk⟩ : ∃ bk, (rch ws (tx s) wl nn k).1.getD k false = bk := ⟨_, rfl⟩
          obtain ⟨z, hz⟩ : ∃ z, wl.getD k 0 = z := ⟨_, rfl⟩
          have HBk := Lib.hid hbk
          have HZ := Lib.hid hz
          rw [hbk] at hcb
          rw [hz] at hcw
          clear hbk hz
          cases bk with
          | false =>
            have HNx := Lib.hid (rch_no (ws := ws) (x := tx s) (wl := wl) (nn := nn) (k := k) (.inl HBk.out))
            go_wp2_with fail
            go_roundw
            case rel => exact ⟨k + 1, m, _, by omega, by omega, rfl, by go_num, Lib.hid (by rw [HNx.out]; exact HM.out), Lib.hid (by rw [HNx.out]; exact R.out), G⟩
            case measure => simp [intOf]; omega
          | true =>
            by_cases hz0 : z = 0
            · subst hz0
              have HNx := Lib.hid (rch_no (ws := ws) (x := tx s) (wl := wl) (nn := nn) (k := k) (.inr HZ.out))
              go_wp2_with fail
              go_roundw
              case rel => exact ⟨k + 1, m, _, by omega, by omega, rfl, by go_num, Lib.hid (by rw [HNx.out]; exact HM.out), Lib.hid (by rw [HNx.out]; exact R.out), G⟩
              case measure => simp [intOf]; omega
            · have hz1' : (z == 0) = false := by simpa using hz0
              have HNx := Lib.hid (rch_yes (ws := ws) (x := tx s) (wl := wl) (nn := nn) (k := k) HBk.out (by rw [HZ.out]; exact hz0))
              have HLB : Hid ((rch ws (tx s) wl nn k).1.length = nn) := Lib.hid (rch_len ws (tx s) wl nn k).1
              have HE : Hid (tx (s.extract k s.size) = (tx s).drop k) := Lib.hid (by rw [tx_ext, List.take_of_length_le (by rw [List.length_drop, tx_len]; exact Nat.le_refl _)])
              have hk0 : (0 : Int) ≤ (k : Int) := by omega
              have hk1 : (k : Int) ≤ (s.size : Int) := by have := HNN.out; omega
              have cM1 : Hid (∀ W', Gv W W' a n c t → _) := Lib.hid (fun W' (G : Gv W W' a n c t) => cM.out (s.extract k s.size) W' G (by rw [HE.out]; exact fun c hc => HLow.out c (List.mem_of_mem_drop hc)) (by rw [ByteArray.size_extract]; omega))
              rw [HE.out] at cM1
              have HIn : Hid (∀ j ∈ Mt ws ((tx s).drop k), k + j < nn) := Lib.hid (fun j hj => by
                have := mt_in hj
                rw [List.length_drop, tx_len] at this
                have := HNN.out
                omega)
              have hml : (Mt ws ((tx s).drop k)).length ≤ 1000 := by
                rw [mt_upTo HAs.out]
                have h9 := upTo_len ws ((tx s).drop k) ((tx s).drop k).length
                rw [List.length_drop, tx_len] at h9
                rw [List.length_drop, tx_len]
                omega
              obtain ⟨l, hl⟩ : ∃ l, Mt ws ((tx s).drop k) = l := ⟨_, rfl⟩
              rw [hl] at cM1 HIn hml HNx
              clear hl
              obtain ⟨ml, hmll⟩ : ∃ ml, l.length = ml := ⟨_, rfl⟩
              have HMl := Lib.hid hmll
              rw [hmll] at cM1 hml
              obtain ⟨xs0, hxs0⟩ : ∃ xs0, (rch ws (tx s) wl nn k).2 = xs0 := ⟨_, rfl⟩
              obtain ⟨bs0, hbs0⟩ : ∃ bs0, (rch ws (tx s) wl nn k).1 = bs0 := ⟨_, rfl⟩
              rw [hxs0, hbs0] at R HNx
              rw [hxs0] at HM
              rw [hbs0] at HLB
              clear hmll hxs0 hbs0 HBk HZ hz0
              have hkn : k + 1 ≤ nn := hlt
              go_wp2_with (first
                | (at_builtin; refine wpList_append_own_at _ rfl _ _ 44 rfl (W.heap.size + 1) 3 i0 (.int .i64 0) 1 8 Try.underlying44 hii hz0 hz1 hz2 rfl (by decide) _ _ _ rfl (R.out.out.alloc _) ⟨wr.heap.size, 0, none⟩ 1 1 [.int .i64 (k : Int)] rfl rfl (cell_one_new _ _ _) (by simp [Value.oneCell']) (by unfold maxLen; omega) (by omega) (by simp; omega) ?_; intro v3 w5 hO3 hG3 _ hat; have R5 := Lib.hid (R.out.app (m2 := m + 1) (xs2 := xs0 ++ [k]) (by rw [nums_app]; exact hO3) hG3 hat); have G5 := Lib.hid (G.out.on2 (R.out.below hbase hG3)); have hbx5 := G5.out.box; clear hO3 hG3 hat))
              have Gd := Lib.hid (G5.out.on (Below.refl _ _).drew)
              go_region_held3 (fun w' => w'.cell? ⟨W.heap.size, 0, none⟩ = some (.slice a n c))
                (first
                  | exact hbx5
                  | exact (hb7.cell (p := ⟨W.heap.size, 0, none⟩) Gd.out.lt).trans Gd.out.box)
                (first
                  | (go_at_call 51; refine (cM1.out _ (by exact Gd.out)).mono ?_; rintro e w7 ⟨v7, rfl, hO7, hb7⟩; obtain ⟨a9, c9, rfl, hS9⟩ := own_nums hO7; have C9 := hS9.cap; have T9 := hS9.top; have hne7 : (Value.slice a9 ml c9).ownBlock ≠ some gb := (fun e => by have h1 := (own_ge hO7 e).1; have h2 := (own_ge R5.out.bef (g := gb) rfl).2; simp at h1; omega); clear hS9))
              have HNe := Lib.hid hne7
              have HL7 := Lib.hid (own_down hO7 (Nat.zero_le _))
              have R7 := Lib.hid ((R5.out.drew).on hb7)
              have G7 := Lib.hid (Gd.out.on hb7)
              clear hne7 hO7 hb7 hbx5 Gd G5 R5 R G cM1 hcb hcw
              go_wp2_with fail
              obtain ⟨wo, rfl⟩ : ∃ wo : World, wo = wr := ⟨_, rfl⟩
              go_loopw [56] (fun p wr => ∃ i : Nat, i ≤ ml ∧ p = .int .i64 i ∧ Hid (SP (W.heap.size + 1) wr v3 (m + 1) (xs0 ++ [k]) gb gw nn (hit k (l.take i) bs0) wl 3 (.slice none 0 0) 0 []) ∧ Hid (wr.ownsRow 0 3 1 (.slice a9 ml c9) ml (nums l)) ∧ Hid (Gv W wr a n c t)) (fun p _ => ml - (intOf p).toNat)
              case atStart => exact ⟨0, Nat.zero_le _, rfl, R7, HL7, G7⟩
              case round =>
                clear R7 HL7 G7
                obtain ⟨i, hi, rfl, R, HL, G⟩ := hrel
                have hbase2 : W.heap.size + 1 ≤ wr.heap.size := G.out.lt
                by_cases hlt2 : i < ml
                · obtain ⟨j, hj⟩ : ∃ j, l[i]? = some j := ⟨_, List.getElem?_eq_getElem (by rw [HMl.out]; exact hlt2)⟩
                  obtain ⟨b9, o9, e9, _, hc⟩ := (Sl.of_own HL.out).spot i _ (nums_at hj)
                  subst e9
                  have hij := HIn.out j (List.mem_of_getElem? hj)
                  have HHit := Lib.hid (hit_succ (k := k) (b := bs0) hj)
                  have hcm := R.out.marked (k + j) hij
                  have hfz := R.out.bef.frozenAt (k + j)
                  obtain ⟨bq, hbq⟩ : ∃ bq, (hit k (l.take i) bs0).getD (k + j) false = bq := ⟨_, rfl⟩
                  rw [hbq] at hcm
                  have hkj1 : (0 : Int) ≤ (k : Int) + (j : Int) := by omega
                  have hkj2 : (k : Int) + (j : Int) < (nn : Int) := by omega
                  have hkj3 : ((k : Int) + (j : Int)).toNat = k + j := by omega
                  have R8 := Lib.hid (R.out.mark (k + j))
                  have G8 := Lib.hid (G.out.on2 (R.out.mark_below (k + j) hbase2))
                  have HL8 := Lib.hid (R.out.mark_far (k + j) HL.out HNe.out)
                  clear hj hij hbq
                  go_wp2_with fail
                  go_roundw
                  case rel => exact ⟨i + 1, by omega, by go_num, Lib.hid (by rw [HHit.out]; exact R8.out), HL8, G8⟩
                  case measure => simp [intOf]; omega
                · have HF : Hid (hit k (l.take i) bs0 = (rch ws (tx s) wl nn (k + 1)).1) := Lib.hid (by rw [List.take_of_length_le (by rw [HMl.out]; omega), HNx.out])
                  have HF2 : Hid (xs0 ++ [k] = (rch ws (tx s) wl nn (k + 1)).2) := Lib.hid (by rw [HNx.out])
                  go_wp2_with fail
                  go_roundw
                  case rel => exact ⟨k + 1, m + 1, _, by omega, by omega, rfl, by first | rfl | go_num, Lib.hid (by rw [← HF2.out, List.length_append, HM.out]; rfl), Lib.hid (by rw [← HF.out, ← HF2.out]; exact R.out), G⟩
                  case measure => first | (simp [intOf]; done) | (simp [intOf]; omega)
        · have hkn : k = nn := by omega
          subst hkn
          go_wp2_with fail
          go_ret2
          exact ⟨_, by rw [HOk.out]; rfl, by rw [HXs.out, HM.out]; exact own_down R.out.out (by omega), G.out.bel⟩

theorem lit_ownP {W : World} {o : Obj} (e : TypeId) : ((W.alloc o).alloc (.cells #[] e)).ownsRow (W.heap.size + 1) e 1 (.slice (some ⟨W.heap.size + 1, 0, none⟩) 0 0) 0 [] := by
  have := World.ownsRow_lit (base := W.heap.size + 1) (e := e) (size := 1) (W.alloc o) #[] 0 (by simp) (by unfold maxLen; omega) rfl
  simpa using this

/-- the rows at the start, the list of what is marked made behind the numbers -/
theorem sp_after {base : Nat} {w3 w4 : World} {g0 nn gw mA c3 : Nat} {a3 : Option Addr} {ws : List Txt} {wl : List Int} {cz : Array Value} (hb : base ≤ w3.heap.size) (hnn : nn ≤ 1000)
    (h0 : w3.ownsRow base 3 1 (.slice (some ⟨g0, 0, none⟩) 0 0) 0 []) (hW : w3.ownsRow base 9 1 (.slice a3 mA c3) mA (ws.map (fun x => Value.string (bx x)))) (hd : (Value.slice a3 mA c3).ownBlock ≠ some g0)
    (hgw : w3.heap.size ≤ gw) (hb4 : Below w3.heap.size w3 w4) (hO : w4.ownsRow base 3 1 (.slice (some ⟨gw, 0, none⟩) nn nn) nn (wl.map (Value.int .i64))) (hcz : cz.size = nn) (hcz2 : cz.toList = (List.replicate nn false).map Value.bool) :
    SP base (w4.alloc (.cells cz 4)) (.slice (some ⟨g0, 0, none⟩) 0 0) 0 [] w4.heap.size gw nn (List.replicate nn false) wl 9 (.slice a3 mA c3) mA (ws.map (fun x => Value.string (bx x))) := by
  have h1 := (own_ge h0 (g := g0) rfl).2
  have h2 := hb4.size
  have h3 := (own_ge hO (g := gw) rfl).2
  refine ⟨(own_stay h0 hb4).alloc _, ?_, hO.alloc _, (own_stay hW hb4).alloc _, ?_, ?_, by omega, .inr hd, ?_⟩
  · have := World.ownsRow_lit (base := base) (e := 4) (size := 1) w4 cz nn (by omega) (by unfold maxLen; omega) (by omega)
    rw [hcz2] at this
    exact this
  · simp [Value.ownBlock]; omega
  · simp [Value.ownBlock]; omega
  · intro e
    have := (own_ge hW e).2
    omega

theorem sp_before {base : Nat} {w3 w4 : World} {g0 nn gw mA c3 : Nat} {a3 : Option Addr} {ws : List Txt} {wl : List Int} {cz : Array Value} (hb : base ≤ w3.heap.size) (hnn : nn ≤ 1000)
    (h0 : w3.ownsRow base 3 1 (.slice (some ⟨g0, 0, none⟩) 0 0) 0 []) (hW : w3.ownsRow base 9 1 (.slice a3 mA c3) mA (ws.map (fun x => Value.string (bx x)))) (hd : (Value.slice a3 mA c3).ownBlock ≠ some g0)
    (hgw : w3.heap.size < gw) (hb4 : Below (w3.alloc (.cells cz 4)).heap.size (w3.alloc (.cells cz 4)) w4) (hO : w4.ownsRow base 3 1 (.slice (some ⟨gw, 0, none⟩) nn nn) nn (wl.map (Value.int .i64))) (hcz : cz.size = nn) (hcz2 : cz.toList = (List.replicate nn false).map Value.bool) :
    SP base w4 (.slice (some ⟨g0, 0, none⟩) 0 0) 0 [] w3.heap.size gw nn (List.replicate nn false) wl 9 (.slice a3 mA c3) mA (ws.map (fun x => Value.string (bx x))) := by
  have h1 := (own_ge h0 (g := g0) rfl).2
  refine ⟨own_stay (h0.alloc _) hb4, ?_, hO, own_stay (hW.alloc _) hb4, ?_, ?_, by omega, .inr hd, ?_⟩
  · have := World.ownsRow_lit (base := base) (e := 4) (size := 1) w3 cz nn (by omega) (by unfold maxLen; omega) (by omega)
    rw [hcz2] at this
    exact own_stay this hb4
  · simp [Value.ownBlock]; omega
  · simp [Value.ownBlock]; omega
  · intro e
    have := (own_ge hW e).2
    omega

set_option maxRecDepth 1000000 in
set_option maxHeartbeats 4000000 in
theorem specPlaces (t : List Nd) (n c : Nat) (s : ByteArray) (hn : n ≤ 1048576) (hs : s.size ≤ 9223372036854775807) (xs : List Nat) (ok : Bool) (hf : PlacesFacts t s xs ok) (W : World) (a : Option Addr) (hN : Nds W.heap.size W a n c t) :
    Calls Try.prog 24 #[.agg #[.slice a n c], .string s] W (ownI.OwnNums W xs ok) := by
  have G1 := Lib.hid (Gv.start hN)
  have cG := Lib.hid (fun W w a (G : Gv W w a n c t) => l3Good_any W.heap.size a n c t s w G.bel.size G.nds hn hs)
  have HOk := Lib.hid hf.okEq
  have HY := Lib.hid hf.yes
  have HNo := Lib.hid hf.no
  have HO1 := Lib.hid (lit_ownP (W := W) (o := .cells #[.slice a n c] 30) 3)
  have G1' : Hid (Gv W ((W.alloc (.cells #[.slice a n c] 30)).alloc (.cells #[] 3)) a n c t) := Lib.hid (G1.out.on ((Below.refl _ _).alloc (Nat.le_refl _) _))
  have hbx := G1'.out.box
  obtain ⟨qq, hq⟩ : ∃ qq, (trieB t && okP s) = qq := ⟨_, rfl⟩
  have HQ := Lib.hid hq
  rw [hq] at cG HOk
  clear hq hN hf
  cases qq with
  | false =>
    go_enter Try.func24, Try.ntmps24
    go_wp2_with (first
      | (go_at_call 43; refine (cG.out _ _ _ G1'.out).mono ?_; rintro e w2 ⟨rfl, hb2⟩; have G2 := Lib.hid (G1'.out.on hb2); have HO2 := Lib.hid (own_stay HO1.out hb2); clear hb2))
    go_ret2
    exact ⟨_, by rw [HOk.out]; rfl, by rw [HNo.out HOk.out]; exact own_down HO2.out (by omega), G2.out.bel⟩
  | true =>
    have h12 := HQ.out
    rw [Bool.and_eq_true] at h12
    have HT := Lib.hid h12.1
    have hs60 := (okP_iff.1 h12.2).1
    have HLow := Lib.hid (okP_iff.1 h12.2).2
    have HXs := Lib.hid (HY.out HOk.out)
    have HAs : Hid (Asc (wordsOf t)) := Lib.hid (by
      obtain ⟨ps, hv⟩ := trieB_iff.1 HT.out
      rw [wordsOf_eq hv]; exact hv.wordsAsc)
    have cW := Lib.hid (fun W w a (G : Gv W w a n c t) => specWords_own W.heap.size a n c t w G.bel.size G.nds hn (trieB_iff.1 HT.out))
    have hm40 := wordsOf_size t
    have HSh := Lib.hid (wordsOf_short t)
    clear h12 HY HNo
    obtain ⟨ws, hws⟩ : ∃ ws, wordsOf t = ws := ⟨_, rfl⟩
    rw [hws] at cW hm40 HSh HAs HXs
    clear hws
    obtain ⟨mA, hmA⟩ : ∃ mA, ws.length = mA := ⟨_, rfl⟩
    rw [hmA] at cW hm40
    clear hmA
    have cY := Lib.hid (fun B a c w (hB : B ≤ w.heap.size) (hW : Wds B w a mA c ws) => l3Ways_any B a mA c ws s w hB hW HAs.out HSh.out hm40 hs60)
    have cM := Lib.hid (fun B a c w (k : Nat) (hB : B ≤ w.heap.size) (hW : Wds B w a mA c ws) (hk : k ≤ s.size) => l3Matches_any B a mA c ws s k w hB hW HAs.out HSh.out hm40 hs60 hk)
    obtain ⟨nn, hnn⟩ : ∃ nn, s.size + 1 = nn := ⟨_, rfl⟩
    have hwl := telv_len (T := sumT) (ws := ws) (e := 1) (tx s)
    rw [tx_len, hnn] at hwl
    obtain ⟨wl, hwle⟩ : ∃ wl, telv sumT ws 1 (tx s) = wl := ⟨_, rfl⟩
    rw [hwle] at cY HXs hwl
    have HWl := Lib.hid hwl
    have HNN := Lib.hid hnn
    rw [hnn] at cY HXs
    have hnn1 : 1 ≤ nn := by omega
    have hnn61 : nn ≤ 61 := by omega
    have hn1 : (0 : Int) < (nn : Int) := by omega
    have hsn : IntKind.i64.wrap ((s.size : Int) + 1) = (nn : Int) := by rw [IntWalk.i64_in _ (by omega)]; omega
    have HSN := Lib.hid hsn
    clear hnn hwl hwle hsn
    obtain ⟨i0, hii, hz0, hz1, hz2⟩ := info_parts infoI
    obtain ⟨cz, hcz1, hcz2, hmk0⟩ := make_run (P := Try.prog) 67 4 (.bool false) 1 Try.underlying67 infoBo rfl nn (by omega) (by omega)
    have HCZ : Hid (cz.toList = (List.replicate nn false).map Value.bool) := Lib.hid (by rw [hcz2]; simp)
    have HMk := Lib.hid hmk0
    clear hcz2 hmk0
    go_enter Try.func24, Try.ntmps24
    go_wp2_with fail
    refine (cG.out _ _ _ G1'.out).mono ?_
    rintro e w2 ⟨rfl, hb2⟩
    have G2 := Lib.hid (G1'.out.on hb2)
    have HO2 := Lib.hid (own_stay HO1.out hb2)
    have hbx2 := G2.out.box
    have hsz2 : W.heap.size + 1 < w2.heap.size := by have := hb2.size; simp at this; omega
    clear hb2 hbx
    go_wp2_with fail
    refine (cW.out _ _ _ G2.out).mono ?_
    rintro e w3 ⟨a3, c3, rfl, hW3, hb3⟩
    have HO3 := Lib.hid (own_stay HO2.out hb3)
    have hd3 : (Value.slice a3 mA c3).ownBlock ≠ some (W.heap.size + 1) := fun e => by have := (own_ge hW3 e).1; omega
    have HD3 := Lib.hid hd3
    have HW3 := Lib.hid (own_down hW3 (show W.heap.size + 1 ≤ w2.heap.size by omega))
    have G3 := Lib.hid (G2.out.on hb3)
    have hsz3 : W.heap.size + 1 < w3.heap.size := Nat.lt_of_lt_of_le hsz2 hb3.size
    clear hb3 hbx2 hW3 hd3
    have cY3 : Hid (∀ W', Below w3.heap.size w3 W' → Calls Try.prog 44 #[.slice a3 mA c3, .string s] W' fun en w' => ∃ gw, gw = W'.heap.size ∧ en = .returned (.slice (some ⟨gw, 0, none⟩) nn nn) ∧ w'.ownsRow W'.heap.size 3 1 (.slice (some ⟨gw, 0, none⟩) nn nn) nn (wl.map (Value.int .i64)) ∧ Below W'.heap.size W' w') := Lib.hid (fun W' hb => by
      have hWd : Wds w3.heap.size w3 a3 mA c3 ws := by
        obtain ⟨a', c', e', hW⟩ := own_wds HW3.out (fun x hx => by have := HSh.out x hx; omega)
        injection e' with e1 _ e2
        rw [e1, e2]; exact hW
      refine (cY.out w3.heap.size a3 c3 W' hb.size (hWd.keep hb)).mono ?_
      rintro en w' ⟨h1, h2, h3⟩
      exact ⟨_, rfl, h1, h2, h3⟩)
    have hmk := HMk.out
    have hsn := HSN.out
    go_wp2_with fail
    go_region_held3 (fun w' => True) (trivial)
      (first
        | (go_at_call 44; with_reducible refine (cY3.out _ (Below.refl _ _).drew).mono ?_; rintro e w4 ⟨gw, hgw, rfl, hO4, hb4⟩; have HGw := Lib.hid hgw; clear hgw)
        | (go_at_call 44; refine (cY3.out _ (((Below.refl _ _).alloc (Nat.le_refl _) _).drew)).mono ?_; rintro e w4 ⟨gw, hgw, rfl, hO4, hb4⟩; have HGw := Lib.hid hgw; clear hgw))
    all_goals
      first
        | (have S5 := Lib.hid (sp_after (g0 := W.heap.size + 1) (base := W.heap.size + 1) (Nat.le_of_lt hsz3) (by omega) HO3.out HW3.out HD3.out (by rw [HGw.out]; exact Nat.le_refl _) ((Below.refl _ _).drew.trans hb4) (own_down hO4 (Nat.le_of_lt hsz3)) hcz1 HCZ.out); have G5 := Lib.hid ((G3.out.on ((Below.refl _ _).drew.trans hb4)).on ((Below.refl _ _).alloc (Nat.le_refl _) (.cells cz 4))))
        | (have S5 := Lib.hid (sp_before (g0 := W.heap.size + 1) (base := W.heap.size + 1) (Nat.le_of_lt hsz3) (by omega) HO3.out HW3.out HD3.out (by rw [HGw.out]; simp) ((Below.refl _ _).drew.trans hb4) (own_down hO4 (by simp; omega)) hcz1 HCZ.out); have G5 := Lib.hid (G3.out.on (((Below.refl _ _).alloc (Nat.le_refl _) (.cells cz 4)).trans (((Below.refl _ _).drew.trans hb4).mono (by simp)))))
      clear hO4 hb4 hcz1 HCZ HGw hmk hsn HMk cY3 HW3 HO3 HD3 G3 G2 HO2 hsz3 hsz2
      first
        | (obtain ⟨wx, hwx⟩ : ∃ wx, w4.alloc (.cells cz 4) = wx := ⟨_, rfl⟩; rw [hwx] at S5 G5 ⊢; clear hwx; obtain ⟨gb, hgb⟩ : ∃ gb, w4.heap.size = gb := ⟨_, rfl⟩; rw [hgb] at S5 ⊢; clear hgb)
        | (obtain ⟨wx, hwx⟩ : ∃ wx, w4 = wx := ⟨_, rfl⟩; rw [hwx] at S5 G5 ⊢; clear hwx; obtain ⟨gb, hgb⟩ : ∃ gb, w3.heap.size = gb := ⟨_, rfl⟩; rw [hgb] at S5 ⊢; clear hgb)
      have hcb0 := S5.out.marked 0 (by omega)
      have hfz0 := S5.out.bef.frozenAt 0
      obtain ⟨bz, hbz⟩ : ∃ bz, (List.replicate nn false).getD 0 false = bz := ⟨_, rfl⟩
      rw [hbz] at hcb0
      clear hbz
      have S6 : Hid (SP (W.heap.size + 1) (wx.setCell ⟨gb, 0, none⟩ (.bool true)) (.slice (some ⟨W.heap.size + 1, 0, none⟩) 0 0) 0 (rch ws (tx s) wl nn 0).2 gb gw nn (rch ws (tx s) wl nn 0).1 wl 9 (.slice a3 mA c3) mA (ws.map (fun x => Value.string (bx x)))) := Lib.hid (S5.out.mark 0)
      have G6 : Hid (Gv W (wx.setCell ⟨gb, 0, none⟩ (.bool true)) a n c t) := Lib.hid (G5.out.on2 (S5.out.mark_below 0 (by have := G5.out.lt; omega)))
      go_wp2_with fail
      go_loopw [6, 10] (fun o p wr => ∃ (k m : Nat) (v : Value), k ≤ nn ∧ m ≤ k ∧ o = v ∧ p = .int .i64 k ∧ Hid ((rch ws (tx s) wl nn k).2.length = m) ∧ Hid (SP (W.heap.size + 1) wr v m (rch ws (tx s) wl nn k).2 gb gw nn (rch ws (tx s) wl nn k).1 wl 9 (.slice a3 mA c3) mA (ws.map (fun x => Value.string (bx x)))) ∧ Hid (Gv W wr a n c t)) (fun _ p _ => nn - (intOf p).toNat)
      case atStart => exact ⟨0, 0, _, Nat.zero_le _, Nat.le_refl _, rfl, rfl, Lib.hid rfl, S6, G6⟩
      case round =>
        clear S6 G6 S5 G5 hcb0 hfz0
        obtain ⟨k, m, v, hk, hmk, rfl, rfl, HM, R, G⟩ := hrel
        have hbase : W.heap.size + 1 ≤ wr.heap.size := G.out.lt
        by_cases hlt : k < nn
        · have hks : (k : Int) ≤ (s.size : Int) := by have := HNN.out; omega
          have hcb := R.out.marked k hlt
          have hcw := R.out.ways k hlt
          have hk3 : (k : Int) < (nn : Int) := by omega
          obtain ⟨bk, hbk⟩ : ∃ bk, (rch ws (tx s) wl nn k).1.getD k false = bk := ⟨_, rfl⟩
          obtain ⟨z, hz⟩ : ∃ z, wl.getD k 0 = z := ⟨_, rfl⟩
          have HBk := Lib.hid hbk
          have HZ := Lib.hid hz
          rw [hbk] at hcb
          rw [hz] at hcw
          clear hbk hz
          cases bk with
          | false =>
            have HNx := Lib.hid (rch_no (ws := ws) (x := tx s) (wl := wl) (nn := nn) (k := k) (.inl HBk.out))
            go_wp2_with fail
            go_roundw
            case rel => exact ⟨k + 1, m, _, by omega, by omega, rfl, by go_num, Lib.hid (by rw [HNx.out]; exact HM.out), Lib.hid (by rw [HNx.out]; exact R.out), G⟩
            case measure => simp [intOf]; omega
          | true =>
            by_cases hz0 : z = 0
            · subst hz0
              have HNx := Lib.hid (rch_no (ws := ws) (x := tx s) (wl := wl) (nn := nn) (k := k) (.inr HZ.out))
              go_wp2_with fail
              go_roundw
              case rel => exact ⟨k + 1, m, _, by omega, by omega, rfl, by go_num, Lib.hid (by rw [HNx.out]; exact HM.out), Lib.hid (by rw [HNx.out]; exact R.out), G⟩
              case measure => simp [intOf]; omega
            · have hz1' : (z == 0) = false := by simpa using hz0
              have HNx := Lib.hid (rch_yes (ws := ws) (x := tx s) (wl := wl) (nn := nn) (k := k) HBk.out (by rw [HZ.out]; exact hz0))
              have HLB : Hid ((rch ws (tx s) wl nn k).1.length = nn) := Lib.hid (rch_len ws (tx s) wl nn k).1
              have HIn : Hid (∀ j ∈ Mt ws ((tx s).drop k), k + j < nn) := Lib.hid (fun j hj => by
                have := mt_in hj
                rw [List.length_drop, tx_len] at this
                have := HNN.out
                omega)
              have hml : (Mt ws ((tx s).drop k)).length ≤ 1000 := by
                rw [mt_upTo HAs.out]
                have h9 := upTo_len ws ((tx s).drop k) ((tx s).drop k).length
                rw [List.length_drop, tx_len] at h9
                rw [List.length_drop, tx_len]
                omega
              have cMk := Lib.hid (fun (w9 : World) (hW : Wds w9.heap.size w9 a3 mA c3 ws) => cM.out w9.heap.size a3 c3 w9 k (Nat.le_refl _) hW (by have := HNN.out; omega))
              obtain ⟨l, hl⟩ : ∃ l, Mt ws ((tx s).drop k) = l := ⟨_, rfl⟩
              rw [hl] at cMk HIn hml HNx
              clear hl
              obtain ⟨ml, hmll⟩ : ∃ ml, l.length = ml := ⟨_, rfl⟩
              have HMl := Lib.hid hmll
              rw [hmll] at cMk hml
              obtain ⟨xs0, hxs0⟩ : ∃ xs0, (rch ws (tx s) wl nn k).2 = xs0 := ⟨_, rfl⟩
              obtain ⟨bs0, hbs0⟩ : ∃ bs0, (rch ws (tx s) wl nn k).1 = bs0 := ⟨_, rfl⟩
              rw [hxs0, hbs0] at R HNx
              rw [hxs0] at HM
              rw [hbs0] at HLB
              clear hmll hxs0 hbs0 HBk HZ hz0
              have hkn : k + 1 ≤ nn := hlt
              go_wp2_with (first
                | (at_builtin; refine wpList_append_own_at _ rfl _ _ 44 rfl (W.heap.size + 1) 3 i0 (.int .i64 0) 1 8 Try.underlying44 hii hz0 hz1 hz2 rfl (by decide) _ _ _ rfl (R.out.out.alloc _) ⟨wr.heap.size, 0, none⟩ 1 1 [.int .i64 (k : Int)] rfl rfl (cell_one_new _ _ _) (by simp [Value.oneCell']) (by unfold maxLen; omega) (by omega) (by simp; omega) ?_; intro v3 w5 hO3 hG3 _ hat; have R5 := Lib.hid (R.out.app (m2 := m + 1) (xs2 := xs0 ++ [k]) (by rw [nums_app]; exact hO3) hG3 hat); have G5 := Lib.hid (G.out.on2 (R.out.below hbase hG3)); clear hO3 hG3 hat))
              have hWd5 : Wds w5.heap.size w5 a3 mA c3 ws := by
                obtain ⟨a', c', e', hW⟩ := own_wds R5.out.ext (fun x hx => by have := HSh.out x hx; omega)
                injection e' with e1 _ e2
                rw [e1, e2]; exact hW
              refine (cMk.out w5 hWd5).mono ?_
              rintro e w7 ⟨v7, rfl, hO7, hb7⟩
              obtain ⟨a9, c9, rfl, hS9⟩ := own_nums hO7
              have C9 := hS9.cap
              have T9 := hS9.top
              have hne7 : (Value.slice a9 ml c9).ownBlock ≠ some gb := fun e => by have h1 := (own_ge hO7 e).1; have h2 := (own_ge R5.out.bef (g := gb) rfl).2; omega
              have HNe := Lib.hid hne7
              have HL7 := Lib.hid (own_down hO7 (Nat.zero_le _))
              have R7 := Lib.hid (R5.out.on hb7)
              have G7 := Lib.hid (G5.out.on hb7)
              clear hne7 hO7 hb7 hWd5 hS9 G5 R5 R G cMk hcb hcw
              go_wp2_with fail
              obtain ⟨wo, rfl⟩ : ∃ wo : World, wo = wr := ⟨_, rfl⟩
              go_loopw [12] (fun p wr => ∃ i : Nat, i ≤ ml ∧ p = .int .i64 i ∧ Hid (SP (W.heap.size + 1) wr v3 (m + 1) (xs0 ++ [k]) gb gw nn (hit k (l.take i) bs0) wl 9 (.slice a3 mA c3) mA (ws.map (fun x => Value.string (bx x)))) ∧ Hid (wr.ownsRow 0 3 1 (.slice a9 ml c9) ml (nums l)) ∧ Hid (Gv W wr a n c t)) (fun p _ => ml - (intOf p).toNat)
              case atStart => exact ⟨0, Nat.zero_le _, rfl, R7, HL7, G7⟩
              case round =>
                clear R7 HL7 G7
                obtain ⟨i, hi, rfl, R, HL, G⟩ := hrel
                have hbase2 : W.heap.size + 1 ≤ wr.heap.size := G.out.lt
                by_cases hlt2 : i < ml
                · obtain ⟨j, hj⟩ : ∃ j, l[i]? = some j := ⟨_, List.getElem?_eq_getElem (by rw [HMl.out]; exact hlt2)⟩
                  obtain ⟨b9, o9, e9, _, hc⟩ := (Sl.of_own HL.out).spot i _ (nums_at hj)
                  subst e9
                  have hij := HIn.out j (List.mem_of_getElem? hj)
                  have HHit := Lib.hid (hit_succ (k := k) (b := bs0) hj)
                  have hcm := R.out.marked (k + j) hij
                  have hfz := R.out.bef.frozenAt (k + j)
                  obtain ⟨bq, hbq⟩ : ∃ bq, (hit k (l.take i) bs0).getD (k + j) false = bq := ⟨_, rfl⟩
                  rw [hbq] at hcm
                  have hkj1 : (0 : Int) ≤ (k : Int) + (j : Int) := by omega
                  have hkj2 : (k : Int) + (j : Int) < (nn : Int) := by omega
                  have hkj3 : ((k : Int) + (j : Int)).toNat = k + j := by omega
                  have R8 := Lib.hid (R.out.mark (k + j))
                  have G8 := Lib.hid (G.out.on2 (R.out.mark_below (k + j) hbase2))
                  have HL8 := Lib.hid (R.out.mark_far (k + j) HL.out HNe.out)
                  clear hj hij hbq
                  go_wp2_with fail
                  go_roundw
                  case rel => exact ⟨i + 1, by omega, by go_num, Lib.hid (by rw [HHit.out]; exact R8.out), HL8, G8⟩
                  case measure => simp [intOf]; omega
                · have HF : Hid (hit k (l.take i) bs0 = (rch ws (tx s) wl nn (k + 1)).1) := Lib.hid (by rw [List.take_of_length_le (by rw [HMl.out]; omega), HNx.out])
                  have HF2 : Hid (xs0 ++ [k] = (rch ws (tx s) wl nn (k + 1)).2) := Lib.hid (by rw [HNx.out])
                  go_wp2_with fail
                  go_roundw
                  case rel => exact ⟨k + 1, m + 1, _, by omega, by omega, rfl, by first | rfl | go_num, Lib.hid (by rw [← HF2.out, List.length_append, HM.out]; rfl), Lib.hid (by rw [← HF.out, ← HF2.out]; exact R.out), G⟩
                  case measure => first | (simp [intOf]; done) | (simp [intOf]; omega)
        · have hkn : k = nn := by omega
          have hks : ¬ (k : Int) ≤ (s.size : Int) := by have := HNN.out; omega
          subst hkn
          go_wp2_with fail
          go_ret2
          exact ⟨_, by rw [HOk.out]; rfl, by rw [HXs.out, HM.out]; exact own_down R.out.out (by omega), G.out.bel⟩

theorem agreeSplitPlaces (t : List Nd) (n c : Nat) (s : ByteArray) (hn : n ≤ 1048576) (hs : s.size ≤ 9223372036854775807) : ∃ (xs : List Nat) (ok : Bool), xs.length ≤ 1000 ∧ PlacesFacts t s xs ok ∧
    (∀ (W : World) (a : Option Addr), Nds W.heap.size W a n c t → Calls Try.prog 24 #[.agg #[.slice a n c], .string s] W (ownI.OwnNums W xs ok)) ∧
    (∀ (W : World) (a : Option Addr), Nds W.heap.size W a n c t → Calls Try.prog 25 #[.agg #[.slice a n c], .string s] W (ownI.OwnNums W xs ok)) := by
  obtain ⟨ok, hok⟩ : ∃ ok, (trieB t && okP s) = ok := ⟨_, rfl⟩
  obtain ⟨xs, h1, hf⟩ : ∃ (xs : List Nat), xs.length ≤ 1000 ∧ PlacesFacts t s xs ok := by
    cases ok with
    | false => exact ⟨[], by simp, hok.symm, (fun e => by cases e), fun _ => rfl⟩
    | true =>
      rw [Bool.and_eq_true] at hok
      have h60 := (okP_iff.1 hok.2).1
      have g1 := (rch_len (wordsOf t) (tx s) (telv sumT (wordsOf t) 1 (tx s)) (s.size + 1) (s.size + 1)).2
      exact ⟨_, Nat.le_trans g1 (by omega), by rw [hok.1, hok.2]; rfl, (fun _ => rfl), fun e => by cases e⟩
  exact ⟨xs, ok, h1, hf, fun W a hN => specPlaces t n c s hn hs xs ok hf W a hN, fun W a hN => implPlaces t n c s hn hs xs ok hf W a hN⟩

end Go.Proofs.Ytknoafkgeaibpab.cap
