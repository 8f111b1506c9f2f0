/-
  The longest words taken from a passage again and again: the reference and the program answer the same.
-/
import Derived.Test.YtknoafkgeaibpabOW
import Derived.Test.YtknoafkgeaibpabGrd
import Derived.Test.YtknoafkgeaibpabMarkOwnS
namespace Go.Proofs.Ytknoafkgeaibpab.cap
open Go.RowKit
set_option linter.unusedVariables false

structure GreedyFacts (t : List Nd) (s : ByteArray) (xs : List Txt) (q : Nat) (ok : Bool) : Prop where
  okEq : ok = (trieB t && okP s)
  yes : ok = true → xs = (grd (wordsOf t) (tx s).length (tx s)).1 ∧ q = (grd (wordsOf t) (tx s).length (tx s)).2.length
  no : ok = false → xs = [] ∧ q = 0

def OwnTexts3 (w : World) (xs : List Txt) (q : Int) (ok : Bool) (e : Ending) (w' : World) : Prop :=
  ∃ v, e = .returned (.tuple #[v, .int .i64 q, .bool ok]) ∧ w'.ownsRow w.heap.size 9 1 v xs.length (xs.map (fun x => Value.string (bx x))) ∧ Below w.heap.size w w'

/-- the facts that hold where the search stands -/
theorem mt_lastD {ws : List Txt} {s : ByteArray} {m k : Nat} (h1 : (Mt ws (tx s)).length = m + 1) (h2 : (Mt ws (tx s))[m]? = some k) : Mt ws (tx s) ≠ [] ∧ (Mt ws (tx s)).getLastD 0 = k := by
  constructor
  · intro e; rw [e] at h1; simp at h1
  · rw [List.getLastD_eq_getLast?, List.getLast?_eq_getElem?, h1]
    simp only [Nat.add_sub_cancel]
    rw [h2]; rfl

theorem lit_own {W : World} {o : Obj} (e : TypeId) : ((W.alloc o).alloc (.cells #[] e)).ownsRow (W.heap.size + 1) e 1 (.slice (some ⟨W.heap.size + 1, 0, none⟩) 0 0) 0 [] := by
  have := World.ownsRow_lit (base := W.heap.size + 1) (e := e) (size := 1) (W.alloc o) #[] 0 (by simp) (by unfold maxLen; omega) rfl
  simpa using this

set_option maxRecDepth 1000000 in
set_option maxHeartbeats 2000000 in
theorem specGreedy (t : List Nd) (n c : Nat) (s : ByteArray) (hn : n ≤ 1048576) (hs : s.size ≤ 9223372036854775807) (xs : List Txt) (q : Nat) (ok : Bool) (hf : GreedyFacts t s xs q ok) (W : World) (a : Option Addr) (hN : Nds W.heap.size W a n c t) :
    Calls Try.prog 22 #[.agg #[.slice a n c], .string s] W (OwnTexts3 W xs (q : Int) ok) := by
  have G1 := Lib.hid (Gv.start hN)
  have cG := Lib.hid (fun W w a (G : Gv W w a n c t) => l3Good_any W.heap.size a n c t s w G.bel.size G.nds hn hs)
  have HOk := Lib.hid hf.okEq
  have HY := Lib.hid hf.yes
  have HNo := Lib.hid hf.no
  have HO1 := Lib.hid (lit_own (W := W) (o := .cells #[.slice a n c] 30) 9)
  have G1' : Hid (Gv W ((W.alloc (.cells #[.slice a n c] 30)).alloc (.cells #[] 9)) a n c t) := Lib.hid (G1.out.on ((Below.refl _ _).alloc (Nat.le_refl _) _))
  have hbx := G1'.out.box
  obtain ⟨qq, hq⟩ : ∃ qq, (trieB t && okP s) = qq := ⟨_, rfl⟩
  have HQ := Lib.hid hq
  rw [hq] at cG HOk
  clear hq hN hf
  cases qq with
  | false =>
    go_enter Try.func22, Try.ntmps22
    go_wp2_with (first
      | (go_at_call 43; refine (cG.out _ _ _ G1'.out).mono ?_; rintro e w2 ⟨rfl, hb2⟩; have G2 := Lib.hid (G1'.out.on hb2); have HO2 := Lib.hid (own_stay HO1.out hb2); clear hb2))
    go_ret3
    obtain ⟨e1, e2⟩ := HNo.out HOk.out
    exact ⟨_, by rw [e2, HOk.out]; rfl, by rw [e1]; exact own_down HO2.out (by omega), G2.out.bel⟩
  | true =>
    have h12 := HQ.out
    rw [Bool.and_eq_true] at h12
    have HT := Lib.hid h12.1
    have hs60 := (okP_iff.1 h12.2).1
    have HLow := Lib.hid (okP_iff.1 h12.2).2
    obtain ⟨e1, e2⟩ := HY.out HOk.out
    have GA : Hid (GrdAt (wordsOf t) (tx s) xs q [] (tx s)) := Lib.hid ⟨by simpa using e1, e2⟩
    have hxs : xs.length ≤ 60 := by rw [e1]; have := grd_len (wordsOf t) (tx s).length (tx s); have h9 := tx_len s; omega
    have HAs : Hid (Asc (wordsOf t)) := Lib.hid (by
      obtain ⟨ps, hv⟩ := trieB_iff.1 HT.out
      rw [wordsOf_eq hv]; exact hv.wordsAsc)
    have cW := Lib.hid (fun W w a (G : Gv W w a n c t) => specWords_own W.heap.size a n c t w G.bel.size G.nds hn (trieB_iff.1 HT.out))
    have hm40 := wordsOf_size t
    have HSh := Lib.hid (wordsOf_short t)
    clear h12 e1 e2 HY HNo
    obtain ⟨ws, hws⟩ : ∃ ws, wordsOf t = ws := ⟨_, rfl⟩
    rw [hws] at cW hm40 HSh HAs GA
    clear hws
    obtain ⟨mA, hmA⟩ : ∃ mA, ws.length = mA := ⟨_, rfl⟩
    rw [hmA] at cW hm40
    clear hmA
    have cM := Lib.hid (fun B a c w (k : Nat) (hB : B ≤ w.heap.size) (hW : Wds B w a mA c ws) (hk : k ≤ s.size) => l3Matches_any B a mA c ws s k w hB hW HAs.out HSh.out hm40 hs60 hk)
    obtain ⟨i0, hii, hz0, hz1, hz2⟩ := info_parts infoS
    go_enter Try.func22, Try.ntmps22
    go_wp2_with fail
    refine (cG.out _ _ _ G1'.out).mono ?_
    rintro e w2 ⟨rfl, hb2⟩
    have G2 := Lib.hid (G1'.out.on hb2)
    have HO2 := Lib.hid (own_stay HO1.out hb2)
    have hbx2 := G2.out.box
    have hsz2 : W.heap.size + 1 < w2.heap.size := by have := hb2.size; simp at this; omega
    clear hb2 hbx
    go_wp2_with fail
    refine (cW.out _ _ _ G2.out).mono ?_
    rintro e w3 ⟨a3, c3, rfl, hW3, hb3⟩
    have R3 := Lib.hid (OW.start HO2.out hsz2 hb3 (by omega) hW3)
    have G3 := Lib.hid (G2.out.on hb3)
    have hsz3 : W.heap.size + 1 < w3.heap.size := Nat.lt_of_lt_of_le hsz2 hb3.size
    clear hb3 hbx2 hW3
    go_wp2_with fail
    refine (cM.out _ _ _ w3 0 (Nat.le_refl _) (R3.out.wds HSh.out) (Nat.zero_le _)).mono ?_
    rintro e w4 ⟨v4, rfl, hO4, hb4⟩
    have R4 := Lib.hid (R3.out.on hb4)
    have G4 := Lib.hid (G3.out.on hb4)
    have hsz4 : W.heap.size + 1 < w4.heap.size := Nat.lt_of_lt_of_le hsz3 hb4.size
    have hO4' : w4.ownsRow 0 3 1 v4 (Mt ws ((tx s).drop 0)).length (nums (Mt ws ((tx s).drop 0))) := own_down hO4 (Nat.zero_le _)
    have HO4 := Lib.hid hO4'
    clear hb4 hO4 hO4'
    go_wp2_with fail
    go_loopw [7, 9, 10] (fun o p l wr => ∃ (k m : Nat) (v vl : Value) (done : List Txt), k ≤ s.size ∧ m ≤ k ∧ o = v ∧ p = .int .i64 k ∧ l = vl ∧ Hid (done.length = m) ∧ Hid (OW (W.heap.size + 1) wr 9 1 v m (done.map (fun x => Value.string (bx x))) a3 mA c3 ws) ∧ Hid (wr.ownsRow 0 3 1 vl (Mt ws ((tx s).drop k)).length (nums (Mt ws ((tx s).drop k)))) ∧ Hid (GrdAt ws (tx s) xs q done ((tx s).drop k)) ∧ Hid (Gv W wr a n c t) ∧ W.heap.size + 1 < wr.heap.size) (fun _ p _ _ => s.size - (intOf p).toNat)
    case atStart => exact ⟨0, 0, _, _, [], Nat.zero_le _, Nat.le_refl _, rfl, rfl, rfl, Lib.hid rfl, R4, HO4, Lib.hid (by rw [List.drop_zero]; exact GA.out), G4, hsz4⟩
    case round =>
      clear GA
      obtain ⟨k, m, v, vl, done, hk, hmk, rfl, rfl, rfl, HM, R, HO, GA, G, hsz⟩ := hrel
      have HE : Hid (tx (s.extract k s.size) = (tx s).drop k) := Lib.hid (by rw [tx_ext, List.take_of_length_le (by rw [List.length_drop, tx_len]; exact Nat.le_refl _)])
      have hmp := mt_parts ws (s.extract k s.size)
      have hes : (s.extract k s.size).size = s.size - k := by rw [ByteArray.size_extract]; omega
      rcases hmp with ⟨e1, _, _⟩ | ⟨m1, k1, e1, e2, h1, h2, _, _⟩
      · rw [HE.out] at e1
        obtain ⟨f1, f2⟩ := GA.out.stop e1
        have HF1 := Lib.hid f1
        have HF2 : Hid ((q : Int) = (s.size : Int) - (k : Int)) := Lib.hid (by rw [f2, List.length_drop, tx_len]; omega)
        rw [e1] at HO
        clear e1 f1 f2 hes
        obtain ⟨a9, c9, rfl, _⟩ := own_nums HO.out
        have z : (decide ((0 : Int) < ((([] : List Nat).length : Nat) : Int))) = false := rfl
        go_wp2_with fail
        go_ret3
        exact ⟨_, by rw [HF2.out, HOk.out]; rfl, by rw [HF1.out, HM.out]; exact own_down R.out.out (by omega), G.out.bel⟩
      · obtain ⟨g1, g2⟩ := mt_lastD e1 e2
        rw [HE.out] at e1 e2 g1 g2
        rw [hes] at h2
        have HE2 := Lib.hid e2
        have HGA : Hid (GrdAt ws (tx s) xs q (done ++ [((tx s).drop k).take k1]) ((tx s).drop (k + k1))) := Lib.hid (by
          have := GA.out.step g1 g2 h1 (by rw [List.length_drop, tx_len]; exact h2)
          rwa [List.drop_drop] at this)
        obtain ⟨l1, hl1⟩ : ∃ l1, Mt ws ((tx s).drop k) = l1 := ⟨_, rfl⟩
        rw [hl1] at HO HE2 e1
        rw [e1] at HO
        clear e1 e2 g1 g2 hl1 hes
        obtain ⟨a9, c9, rfl, hS⟩ := own_nums HO.out
        obtain ⟨b9, o9, e9, _, hc⟩ := hS.spot m1 _ (nums_at HE2.out)
        subst e9
        have C9 := hS.cap
        have T9 := hS.top
        clear hS
        have hb0 := G.out.bel.size
        have hW : Hid (tx (s.extract k (k + k1)) = ((tx s).drop k).take k1) := Lib.hid (by rw [tx_ext]; congr 1; omega)
        have hlm : (0 : Int) < ((m1 + 1 : Nat) : Int) := by omega
        have hkk : (k : Int) ≤ (k : Int) + (k1 : Int) := by omega
        have hkk2 : (k : Int) + (k1 : Int) ≤ (s.size : Int) := by omega
        go_wp2_with (first
          | (at_builtin; refine wpList_append_own_at _ rfl _ _ 36 rfl (W.heap.size + 1) 9 i0 (.string ByteArray.empty) 1 16 Try.underlying36 hii hz0 hz1 hz2 rfl (by decide) _ _ _ rfl (R.out.out.alloc _) ⟨wr.heap.size, 0, none⟩ 1 1 [.string (s.extract k (k + k1))] rfl rfl (cell_one_new _ _ _) (by simp [Value.oneCell']) (by unfold maxLen; omega) (by omega) (by simp; omega) ?_; intro v3 w5 hO3 hG3 _ hat; have R5 := Lib.hid (R.out.app hO3 hG3 hat); have HB5 := Lib.hid (R.out.below (by omega) hG3); have hsz5 := hG3.size; simp only [World.size_alloc] at hsz5; clear hO3 hG3 hat)
          | (go_at_call 48; refine (cM.out _ _ _ w5 (k + k1) (Nat.le_refl _) (R5.out.wds HSh.out) (by omega)).mono ?_; rintro e w6 ⟨v6, rfl, hO6, hb6⟩; have R6 := Lib.hid (R5.out.on hb6); have HO6 := Lib.hid (own_down hO6 (Nat.zero_le _)); have G6 := Lib.hid ((G.out.on2 HB5.out).on hb6); have hsz6 := hb6.size; clear hO6 hb6))
        go_roundw
        case rel => exact ⟨k + k1, m + 1, v3, _, done ++ [((tx s).drop k).take k1], by omega, by omega, rfl, by go_num, rfl, Lib.hid (by rw [List.length_append, HM.out]; rfl), Lib.hid (by rw [← hW.out]; simpa [bx_tx] using R6.out), HO6, HGA, G6, by omega⟩
        case measure => simp [intOf]; omega

set_option maxRecDepth 1000000 in
set_option maxHeartbeats 2000000 in
theorem implGreedy (t : List Nd) (n c : Nat) (s : ByteArray) (hn : n ≤ 1048576) (hs : s.size ≤ 9223372036854775807) (xs : List Txt) (q : Nat) (ok : Bool) (hf : GreedyFacts t s xs q ok) (W : World) (a : Option Addr) (hN : Nds W.heap.size W a n c t) :
    Calls Try.prog 23 #[.agg #[.slice a n c], .string s] W (OwnTexts3 W xs (q : Int) ok) := by
  have G1 := Lib.hid (Gv.start hN)
  have hbx := G1.out.box
  have cT := Lib.hid (fun W w a (G : Gv W w a n c t) => isTrie_any W.heap.size a n c t w G.bel.size G.nds)
  have cP := Lib.hid (fun w => isPassage_any s w hs)
  have HOk := Lib.hid hf.okEq
  have HY := Lib.hid hf.yes
  have HNo := Lib.hid hf.no
  obtain ⟨q1, hq1⟩ : ∃ q1, trieB t = q1 := ⟨_, rfl⟩
  obtain ⟨q2, hq2⟩ : ∃ q2, okP s = q2 := ⟨_, rfl⟩
  have HQ := Lib.hid hq1
  have HQ2 := Lib.hid hq2
  rw [hq1] at cT HOk
  rw [hq2] at cP HOk
  clear hq1 hq2 hN hf
  cases q1 with
  | false =>
    go_enter Try.func23, Try.ntmps23
    go_wp2_with (first
      | (go_at_call 45; refine (cT.out _ _ _ G1.out).mono ?_; rintro e w2 ⟨rfl, hb2⟩; have G2 := Lib.hid (G1.out.on hb2); clear hb2))
    go_ret3
    obtain ⟨e1, e2⟩ := HNo.out HOk.out
    exact ⟨_, by rw [e2, HOk.out]; rfl, by rw [e1]; exact World.ownsRow_nil _ _ _ _, G2.out.bel⟩
  | true =>
    cases q2 with
    | false =>
      go_enter Try.func23, Try.ntmps23
      go_wp2_with (first
        | (go_at_call 45; refine (cT.out _ _ _ G1.out).mono ?_; rintro e w2 ⟨rfl, hb2⟩; have G2 := Lib.hid (G1.out.on hb2); clear hb2)
        | (go_at_call 46; refine (cP.out _).mono ?_; rintro e w3 ⟨rfl, hb3⟩; have G3 := Lib.hid (G2.out.on hb3); clear hb3))
      go_ret3
      obtain ⟨e1, e2⟩ := HNo.out HOk.out
      exact ⟨_, by rw [e2, HOk.out]; rfl, by rw [e1]; exact World.ownsRow_nil _ _ _ _, G3.out.bel⟩
    | true =>
      obtain ⟨ps, hv⟩ := trieB_iff.1 HQ.out
      have hs60 := (okP_iff.1 HQ2.out).1
      have HLow := Lib.hid (okP_iff.1 HQ2.out).2
      obtain ⟨e1, e2⟩ := HY.out HOk.out
      have GA : Hid (GrdAt (wordsOf t) (tx s) xs q [] (tx s)) := Lib.hid ⟨by simpa using e1, e2⟩
      have hxs : xs.length ≤ 60 := by rw [e1]; have := grd_len (wordsOf t) (tx s).length (tx s); have h9 := tx_len s; omega
      have cL := Lib.hid (fun (r : ByteArray) (w : World) (G : Gv W w a n c t) (h1 : Low (tx r)) (h2 : r.size ≤ 100) => longestOf_any W.heap.size a n c t ps r w G.bel.size G.nds hv h1 h2)
      rw [← wordsOf_eq hv] at cL
      clear hv e1 e2 HY HNo
      obtain ⟨ws, hws⟩ : ∃ ws, wordsOf t = ws := ⟨_, rfl⟩
      rw [hws] at cL GA
      clear hws
      obtain ⟨i0, hii, hz0, hz1, hz2⟩ := info_parts infoS
      go_enter Try.func23, Try.ntmps23
      go_wp2_with fail
      refine (cT.out _ _ _ G1.out).mono ?_
      rintro e w2 ⟨rfl, hb2⟩
      have G2 := Lib.hid (G1.out.on hb2)
      have hbx2 := G2.out.box
      clear hb2 hbx
      go_wp2_with fail
      refine (cP.out _).mono ?_
      rintro e w3 ⟨rfl, hb3⟩
      have G3 := Lib.hid (G2.out.on hb3)
      have hsz3 := G3.out.lt
      have HO3 := Lib.hid (World.ownsRow_lit (base := W.heap.size + 1) (e := 9) (size := 1) w3 #[] 0 (by omega) (by unfold maxLen; omega) rfl)
      have G3' : Hid (Gv W (w3.alloc (.cells #[] 9)) a n c t) := Lib.hid (G3.out.on ((Below.refl _ _).alloc (Nat.le_refl _) _))
      have hbx3 := G3'.out.box
      clear hb3 hbx2
      go_wp2_with fail
      refine (cL.out s _ G3'.out HLow.out (by omega)).mono ?_
      rintro e w4 ⟨rfl, hb4⟩
      have HO4 := Lib.hid (own_stay HO3.out hb4)
      have G4 := Lib.hid (G3'.out.on hb4)
      clear hb4 hbx3
      go_wp2_with fail
      go_loopw [7, 8, 9, 10] (fun o p l f wr => ∃ (r lv : ByteArray) (lok : Bool) (m : Nat) (v : Value) (done : List Txt), m + r.size ≤ s.size ∧ o = v ∧ p = .string r ∧ l = .string lv ∧ f = .bool lok ∧ Hid (lv = longV ws r ∧ lok = longOk ws r) ∧ Hid (Low (tx r)) ∧ Hid (done.length = m) ∧ Hid (wr.ownsRow (W.heap.size + 1) 9 1 v m (done.map (fun x => Value.string (bx x)))) ∧ Hid (GrdAt ws (tx s) xs q done (tx r)) ∧ Hid (Gv W wr a n c t)) (fun _ p _ _ _ => match p with | .string r => r.size | _ => 0)
      case atStart => exact ⟨s, _, _, 0, _, [], by omega, rfl, rfl, rfl, rfl, Lib.hid ⟨rfl, rfl⟩, HLow, Lib.hid rfl, HO4, GA, G4⟩
      case round =>
        clear GA HO4 HO3
        obtain ⟨r, lv, lok, m, v, done, hmr, rfl, rfl, rfl, rfl, HLv, HLo, HM, HO, GA, G⟩ := hrel
        have hb0 := G.out.lt
        have hbx := G.out.box
        rcases mt_parts ws r with ⟨e1, e2, e3⟩ | ⟨m1, k1, e1, e2, h1, h2, e3, e4⟩
        · obtain ⟨f1, f2⟩ := GA.out.stop e1
          have HF1 := Lib.hid f1
          have HF2 : Hid ((q : Int) = (r.size : Int)) := Lib.hid (by rw [f2, tx_len])
          have hlk : lok = false := HLv.out.2.trans e3
          subst hlk
          clear e1 e2 e3 f1 f2
          go_wp2_with fail
          go_ret3
          exact ⟨_, by rw [HF2.out, HOk.out]; rfl, by rw [HF1.out, HM.out]; exact own_down HO.out (by omega), G.out.bel⟩
        · obtain ⟨g1, g2⟩ := mt_lastD e1 e2
          have hlk : lok = true := HLv.out.2.trans e4
          subst hlk
          have hlsz : lv.size = k1 := by rw [HLv.out.1, e3, ByteArray.size_extract]; omega
          have HW : Hid (tx lv = (tx r).take k1) := Lib.hid (by rw [HLv.out.1, e3, tx_extract])
          have HR : Hid (tx (r.extract lv.size r.size) = (tx r).drop k1) := Lib.hid (by rw [tx_ext, hlsz, List.take_of_length_le (by rw [List.length_drop, tx_len]; exact Nat.le_refl _)])
          have hrs : (r.extract lv.size r.size).size = r.size - lv.size := by rw [ByteArray.size_extract]; omega
          have HGA : Hid (GrdAt ws (tx s) xs q (done ++ [tx lv]) (tx (r.extract lv.size r.size))) := Lib.hid (by
            rw [HW.out, HR.out]
            exact GA.out.step g1 g2 h1 (by rw [tx_len]; exact h2))
          have hlow2 : Low (tx (r.extract lv.size r.size)) := by
            rw [HR.out]
            exact fun c hc => HLo.out c (List.mem_of_mem_drop hc)
          have hl1 : 1 ≤ lv.size := by omega
          have hl2 : lv.size ≤ r.size := by omega
          clear e1 e2 e3 e4 g1 g2 h1 h2 hlsz HLv
          have cL1 : Hid (∀ w, Gv W w a n c t → _) := Lib.hid (fun (w : World) (G : Gv W w a n c t) => cL.out (r.extract lv.size r.size) w G hlow2 (by omega))
          have HLow2 := Lib.hid hlow2
          have HRs := Lib.hid hrs
          clear hlow2 hrs
          go_wp2_with (first
            | (at_builtin; refine wpList_append_sl rfl _ _ 36 rfl (W.heap.size + 1) 9 i0 (.string ByteArray.empty) 16 Try.underlying36 hii hz0 hz1 hz2 rfl _ _ _ rfl (HO.out.alloc _) rfl (sl_new _ _ _) (by simp [Value.oneCell']) (by unfold maxLen; omega) (by omega) (by simp; omega) ?_; intro v2 w5 hO2 hG2; have HO5 := Lib.hid hO2; have G5 : Hid (Gv W w5 a n c t) := Lib.hid (G.out.on2 (((Below.refl _ wr).alloc (by omega) _).trans (below_grown (HO.out.alloc _) (Nat.le_refl _) (by simp; omega) hG2))); have hbx5 := G5.out.box; clear hO2 hG2))
          refine (cL1.out _ G5.out).mono ?_
          rintro e w6 ⟨rfl, hb6⟩
          have HO6 := Lib.hid (own_stay HO5.out hb6)
          have G6 := Lib.hid (G5.out.on hb6)
          clear hb6 hbx5
          go_wp2_with fail
          go_roundw
          case rel => exact ⟨r.extract lv.size r.size, _, _, m + 1, v2, done ++ [tx lv], by rw [HRs.out]; omega, rfl, rfl, rfl, rfl, Lib.hid ⟨rfl, rfl⟩, HLow2, Lib.hid (by rw [List.length_append, HM.out]; rfl), Lib.hid (by simpa [bx_tx] using HO6.out), HGA, G6⟩
          case measure => show (r.extract lv.size r.size).size < r.size; rw [HRs.out]; omega

theorem agreeGreedySplit (t : List Nd) (n c : Nat) (s : ByteArray) (hn : n ≤ 1048576) (hs : s.size ≤ 9223372036854775807) : ∃ (xs : List Txt) (q : Nat) (ok : Bool), xs.length ≤ 1000 ∧ q ≤ 1000 ∧ (∀ x ∈ xs, x.length ≤ 9223372036854775807) ∧ GreedyFacts t s xs q ok ∧
    (∀ (W : World) (a : Option Addr), Nds W.heap.size W a n c t → Calls Try.prog 22 #[.agg #[.slice a n c], .string s] W (OwnTexts3 W xs (q : Int) ok)) ∧
    (∀ (W : World) (a : Option Addr), Nds W.heap.size W a n c t → Calls Try.prog 23 #[.agg #[.slice a n c], .string s] W (OwnTexts3 W xs (q : Int) ok)) := by
  obtain ⟨ok, hok⟩ : ∃ ok, (trieB t && okP s) = ok := ⟨_, rfl⟩
  obtain ⟨xs, q, h1, h2, h3, hf⟩ : ∃ (xs : List Txt) (q : Nat), xs.length ≤ 1000 ∧ q ≤ 1000 ∧ (∀ x ∈ xs, x.length ≤ 9223372036854775807) ∧ GreedyFacts t s xs q ok := by
    cases ok with
    | false => exact ⟨[], 0, by simp, by omega, by simp, hok.symm, (fun e => by cases e), fun _ => ⟨rfl, rfl⟩⟩
    | true =>
      rw [Bool.and_eq_true] at hok
      have h60 := (okP_iff.1 hok.2).1
      have hl := tx_len s
      have g1 := grd_len (wordsOf t) (tx s).length (tx s)
      have g2 := grd_rest_len (wordsOf t) (tx s).length (tx s)
      exact ⟨_, _, by omega, by omega, fun x hx => by have := grd_short _ _ _ x hx; omega, by rw [hok.1, hok.2]; rfl, fun _ => ⟨rfl, rfl⟩, fun e => by cases e⟩
  exact ⟨xs, q, ok, h1, h2, h3, hf, fun W a hN => specGreedy t n c s hn hs xs q ok hf W a hN, fun W a hN => implGreedy t n c s hn hs xs q ok hf W a hN⟩

end Go.Proofs.Ytknoafkgeaibpab.cap
