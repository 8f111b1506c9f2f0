/-
  The number of splits of a passage: the reference and the program answer the same.
-/
import Derived.Test.YtknoafkgeaibpabSplitsOf
import Derived.Test.YtknoafkgeaibpabWays
namespace Go.Proofs.Ytknoafkgeaibpab.cap
open Go.RowKit
set_option linter.unusedVariables false

structure CountFacts (t : List Nd) (s : ByteArray) (v : Int) (ok : Bool) : Prop where
  okEq : ok = (trieB t && okP s)
  yes : ok = true → (telv sumT (wordsOf t) 1 (tx s))[0]? = some v
  no : ok = false → v = 0

theorem CountFacts.mk1 {t : List Nd} {s : ByteArray} (h : trieB t = false) : CountFacts t s 0 false := ⟨by rw [h]; rfl, (fun e => by cases e), fun _ => rfl⟩
theorem CountFacts.mk2 {t : List Nd} {s : ByteArray} (h : okP s = false) : CountFacts t s 0 false := ⟨by rw [h, Bool.and_false], (fun e => by cases e), fun _ => rfl⟩

set_option maxRecDepth 1000000 in
set_option maxHeartbeats 2000000 in
theorem agreeCountSplits (t : List Nd) (n c : Nat) (s : ByteArray) (hn : n ≤ 1048576) (hs : s.size ≤ 9223372036854775807) : ∃ (v : Int) (ok : Bool), CountFacts t s v ok ∧
    (∀ (W : World) (a : Option Addr), Nds W.heap.size W a n c t → Calls Try.prog 14 #[.agg #[.slice a n c], .string s] W fun e w' => e = .returned (.tuple #[.int .i64 v, .bool ok]) ∧ Below W.heap.size W w') ∧
    (∀ (W : World) (a : Option Addr), Nds W.heap.size W a n c t → Calls Try.prog 15 #[.agg #[.slice a n c], .string s] W fun e w' => e = .returned (.tuple #[.int .i64 v, .bool ok]) ∧ Below W.heap.size W w') := by
  have cG := Lib.hid (fun W w a (G : Gv W w a n c t) => l3Good_any W.heap.size a n c t s w G.bel.size G.nds hn hs)
  have cT := Lib.hid (fun W w a (G : Gv W w a n c t) => isTrie_any W.heap.size a n c t w G.bel.size G.nds)
  have cP := Lib.hid (fun w => isPassage_any s w hs)
  obtain ⟨q, hq⟩ : ∃ q, trieB t = q := ⟨_, rfl⟩
  obtain ⟨q2, hq2⟩ : ∃ q2, okP s = q2 := ⟨_, rfl⟩
  have HQ := Lib.hid hq
  have HQ2 := Lib.hid hq2
  rw [hq, hq2] at cG
  rw [hq] at cT
  rw [hq2] at cP
  clear hq hq2
  cases q with
  | false =>
    refine ⟨0, false, CountFacts.mk1 HQ.out, fun W a hN => ?_, fun W a hN => ?_⟩
    · have G1 := Lib.hid (Gv.start hN)
      have hbx := G1.out.box
      clear hN
      go_enter Try.func14, Try.ntmps14
      go_wp2_with (first
        | (go_at_call 43; refine (cG.out _ _ _ G1.out).mono ?_; rintro e w2 ⟨rfl, hb2⟩; have G2 := Lib.hid (G1.out.on hb2); clear hb2))
      go_ret2
      exact ⟨rfl, G2.out.bel⟩
    · have G1 := Lib.hid (Gv.start hN)
      have hbx := G1.out.box
      clear hN
      go_enter Try.func15, Try.ntmps15
      go_wp2_with (first
        | (go_at_call 45; refine (cT.out _ _ _ G1.out).mono ?_; rintro e w2 ⟨rfl, hb2⟩; have G2 := Lib.hid (G1.out.on hb2); clear hb2))
      go_ret2
      exact ⟨rfl, G2.out.bel⟩
  | true =>
    cases q2 with
    | false =>
      refine ⟨0, false, CountFacts.mk2 HQ2.out, fun W a hN => ?_, fun W a hN => ?_⟩
      · have G1 := Lib.hid (Gv.start hN)
        have hbx := G1.out.box
        clear hN
        go_enter Try.func14, Try.ntmps14
        go_wp2_with (first
          | (go_at_call 43; refine (cG.out _ _ _ G1.out).mono ?_; rintro e w2 ⟨rfl, hb2⟩; have G2 := Lib.hid (G1.out.on hb2); clear hb2))
        go_ret2
        exact ⟨rfl, G2.out.bel⟩
      · have G1 := Lib.hid (Gv.start hN)
        have hbx := G1.out.box
        clear hN
        go_enter Try.func15, Try.ntmps15
        go_wp2_with (first
          | (go_at_call 45; refine (cT.out _ _ _ G1.out).mono ?_; rintro e w2 ⟨rfl, hb2⟩; have G2 := Lib.hid (G1.out.on hb2); clear hb2)
          | (go_at_call 46; refine (cP.out _).mono ?_; rintro e w3 ⟨rfl, hb3⟩; have G3 := Lib.hid (G2.out.on hb3); clear hb3))
        go_ret2
        exact ⟨rfl, G3.out.bel⟩
    | true =>
      obtain ⟨ps, hv⟩ := trieB_iff.1 HQ.out
      have hs60 := (okP_iff.1 HQ2.out).1
      have HLow := Lib.hid (okP_iff.1 HQ2.out).2
      have HV := Lib.hid hv
      have HWo := Lib.hid (wordsOf_eq hv)
      clear hv
      have cW := Lib.hid (fun W w a (G : Gv W w a n c t) => specWords_read W.heap.size a n c t w G.bel.size G.nds hn (trieB_iff.1 HQ.out))
      have hm40 := wordsOf_size t
      have hsh := wordsOf_short t
      have has : Asc (wordsOf t) := by rw [HWo.out]; exact HV.out.wordsAsc
      obtain ⟨ws, hws⟩ : ∃ ws, wordsOf t = ws := ⟨_, rfl⟩
      have HWs := Lib.hid hws
      have HWd : Hid (wds t ps = ws) := Lib.hid (HWo.out.symm.trans hws)
      rw [hws] at cW hm40 hsh has
      have HSh := Lib.hid hsh
      have HAs := Lib.hid has
      clear hws hsh has
      have cR := Lib.hid (fun W w a (G : Gv W w a n c t) => splitsOfRests_any W.heap.size a n c t ps s w G.bel.size G.nds HV.out HLow.out hs60)
      rw [HWd.out] at cR
      obtain ⟨mA, hmA⟩ : ∃ mA, ws.length = mA := ⟨_, rfl⟩
      have HMA := Lib.hid hmA
      rw [hmA] at cW hm40
      clear hmA
      have cY : Hid (∀ B a c w, B ≤ w.heap.size → Wds B w a mA c ws → _) := Lib.hid (fun B a c w hB hW => l3Ways_any B a mA c ws s w hB hW HAs.out HSh.out hm40 hs60)
      obtain ⟨v, r, hvr⟩ : ∃ (v : Int) (r : List Int), telv sumT ws 1 (tx s) = v :: r := by
        cases h9 : telv sumT ws 1 (tx s) with
        | nil => have := telv_len (T := sumT) (ws := ws) (e := 1) (tx s); rw [h9] at this; simp at this
        | cons v r => exact ⟨v, r, rfl⟩
      have HVR := Lib.hid hvr
      rw [hvr, List.map_cons] at cR cY
      clear hvr
      obtain ⟨nn, hnn⟩ : ∃ nn, s.size + 1 = nn := ⟨_, rfl⟩
      rw [hnn] at cR cY
      have hn0 : 0 < nn := by omega
      have hn1 : (0 : Int) < (nn : Int) := by omega
      clear hnn
      refine ⟨v, true, ⟨by rw [HQ.out, HQ2.out]; rfl, (fun _ => by rw [HWs.out, HVR.out]; rfl), (fun e => by cases e)⟩, fun W a hN => ?_, fun W a hN => ?_⟩
      · have G1 := Lib.hid (Gv.start hN)
        have hbx := G1.out.box
        clear hN
        go_enter Try.func14, Try.ntmps14
        go_wp2_with fail
        refine (cG.out _ _ _ G1.out).mono ?_
        rintro e w2 ⟨rfl, hb2⟩
        have G2 := Lib.hid (G1.out.on hb2)
        have hbx2 := G2.out.box
        clear hb2 hbx
        go_wp2_with fail
        refine (cW.out _ _ _ G2.out).mono ?_
        rintro e w3 ⟨a3, c3, rfl, hW3, hb3⟩
        have HW3 := Lib.hid hW3
        have G3 := Lib.hid (G2.out.on hb3)
        have hbx3 := G3.out.box
        clear hb3 hbx2 hW3
        go_wp2_with fail
        refine (cY.out _ _ _ w3 (Nat.le_refl _) HW3.out).mono ?_
        rintro e w4 ⟨rfl, hO4, hb4⟩
        have hc4 := hO4.cellAt 0 (by omega)
        rw [List.getElem?_cons_zero] at hc4
        have G4 := Lib.hid (G3.out.on hb4)
        clear hO4 hb4
        go_wp2_with fail
        go_ret2
        exact ⟨rfl, G4.out.bel⟩
      · have G1 := Lib.hid (Gv.start hN)
        have hbx := G1.out.box
        clear hN
        go_enter Try.func15, Try.ntmps15
        go_wp2_with fail
        refine (cT.out _ _ _ G1.out).mono ?_
        rintro e w2 ⟨rfl, hb2⟩
        have G2 := Lib.hid (G1.out.on hb2)
        have hbx2 := G2.out.box
        clear hb2 hbx
        go_wp2_with fail
        refine (cP.out _).mono ?_
        rintro e w3 ⟨rfl, hb3⟩
        have G3 := Lib.hid (G2.out.on hb3)
        have hbx3 := G3.out.box
        clear hb3 hbx2
        go_wp2_with fail
        refine (cR.out _ _ _ G3.out).mono ?_
        rintro e w4 ⟨g, rfl, hO4, hb4⟩
        have hc4 := hO4.cellAt 0 (by omega)
        rw [List.getElem?_cons_zero] at hc4
        have G4 := Lib.hid (G3.out.on hb4)
        clear hO4 hb4
        go_wp2_with fail
        go_ret2
        exact ⟨rfl, G4.out.bel⟩


end Go.Proofs.Ytknoafkgeaibpab.cap
