/-
  The words that begin with a prefix: the reference and the program answer the same.
-/
import Derived.Test.YtknoafkgeaibpaaUnd
import Derived.Test.YtknoafkgeaibpaaMarkOwnS
namespace Go.Proofs.Ytknoafkgeaibpaa.cap
open Go.RowKit
set_option linter.unusedVariables false

set_option maxRecDepth 1000000 in
set_option maxHeartbeats 2000000 in
theorem agreeWordsUnder (t : List Nd) (n c : Nat) (s : ByteArray) (hn : n ≤ 1048576) (hs : s.size ≤ 9223372036854775807) : ∃ (xs : List Txt) (ok : Bool), xs.length ≤ 1000 ∧ (∀ x ∈ xs, x.length ≤ 9223372036854775807) ∧
    (∀ (W : World) (a : Option Addr), Nds W.heap.size W a n c t → Calls Try.prog 29 #[.agg #[.slice a n c], .string s] W fun e w' => ownS.OwnTexts W xs ok e w') ∧
    (∀ (W : World) (a : Option Addr), Nds W.heap.size W a n c t → Calls Try.prog 30 #[.agg #[.slice a n c], .string s] W fun e w' => ownS.OwnTexts W xs ok e w') := by
  have cG := Lib.hid (fun W w a (G : Gv W w a n c t) => l2Trie_any W.heap.size a n c t w G.bel.size G.nds hn)
  have cG2 := Lib.hid (fun w => l2Word_any s w hs)
  have cT := Lib.hid (fun W w a (G : Gv W w a n c t) => isTrie_any W.heap.size a n c t w G.bel.size G.nds)
  have cP := Lib.hid (fun w => implIsWord_any s w hs)
  obtain ⟨q, hq⟩ : ∃ q, trieB t = q := ⟨_, rfl⟩
  obtain ⟨q2, hq2⟩ : ∃ q2, okW s = q2 := ⟨_, rfl⟩
  have HQ := Lib.hid hq
  have HQ2 := Lib.hid hq2
  rw [hq] at cG cT
  rw [hq2] at cG2 cP
  clear hq hq2
  cases q with
  | false =>
    refine ⟨[], false, by simp, by simp, fun W a hN => ?_, fun W a hN => ?_⟩
    · have G1 := Lib.hid (Gv.start hN)
      have hbx := G1.out.box
      clear hN
      go_enter Try.func29, Try.ntmps29
      go_wp2_with (first
        | (go_at_call 47; refine (cG.out _ _ _ G1.out).mono ?_; rintro e w2 ⟨rfl, hb2⟩; have G2 := Lib.hid (G1.out.on hb2); clear hb2))
      go_ret2
      exact ⟨_, rfl, ownS.own_lit0 G2.out.bel.size, G2.out.bel.alloc G2.out.bel.size _⟩
    · have G1 := Lib.hid (Gv.start hN)
      have hbx := G1.out.box
      clear hN
      go_enter Try.func30, Try.ntmps30
      go_wp2_with (first
        | (go_at_call 39; refine (cT.out _ _ _ G1.out).mono ?_; rintro e w2 ⟨rfl, hb2⟩; have G2 := Lib.hid (G1.out.on hb2); clear hb2))
      go_ret2
      exact ⟨_, rfl, World.ownsRow_nil _ _ _ _, G2.out.bel⟩
  | true =>
    cases q2 with
    | false =>
      refine ⟨[], false, by simp, by simp, fun W a hN => ?_, fun W a hN => ?_⟩
      · have G1 := Lib.hid (Gv.start hN)
        have hbx := G1.out.box
        clear hN
        go_enter Try.func29, Try.ntmps29
        go_wp2_with (first
          | (go_at_call 47; refine (cG.out _ _ _ G1.out).mono ?_; rintro e w2 ⟨rfl, hb2⟩; have G2 := Lib.hid (G1.out.on hb2); clear hb2)
          | (go_at_call 55; refine (cG2.out _).mono ?_; rintro e w3 ⟨rfl, rfl⟩))
        go_ret2
        exact ⟨_, rfl, ownS.own_lit0 G2.out.bel.size, G2.out.bel.alloc G2.out.bel.size _⟩
      · have G1 := Lib.hid (Gv.start hN)
        have hbx := G1.out.box
        clear hN
        go_enter Try.func30, Try.ntmps30
        go_wp2_with (first
          | (go_at_call 39; refine (cT.out _ _ _ G1.out).mono ?_; rintro e w2 ⟨rfl, hb2⟩; have G2 := Lib.hid (G1.out.on hb2); clear hb2)
          | (go_at_call 57; refine (cP.out _).mono ?_; rintro e w3 ⟨rfl, hb3⟩; have G3 := Lib.hid (G2.out.on hb3); clear hb3))
        go_ret2
        exact ⟨_, rfl, World.ownsRow_nil _ _ _ _, G3.out.bel⟩
    | true =>
      obtain ⟨ps, hv⟩ := trieB_iff.1 HQ.out
      have hs12 : s.size ≤ 12 := by have := (okW_iff.1 HQ2.out).1; rwa [tx_len] at this
      have HLow := Lib.hid (okW_iff.1 HQ2.out).2
      have HV := Lib.hid hv
      have HWo := Lib.hid (wordsOf_eq hv)
      clear hv
      have cW := Lib.hid (fun W w a (G : Gv W w a n c t) => specWords_read W.heap.size a n c t w G.bel.size G.nds hn (trieB_iff.1 HQ.out))
      have hm40 := wordsOf_size t
      have hsh := wordsOf_short t
      have has : Asc (wordsOf t) := by rw [HWo.out]; exact HV.out.wordsAsc
      obtain ⟨ws, hws⟩ : ∃ ws, wordsOf t = ws := ⟨_, rfl⟩
      have HWs := Lib.hid hws
      have HWd : Hid (wds t ps = ws) := Lib.hid (HWo.out.symm.trans hws)
      rw [hws] at cW hm40 hsh has
      have HSh := Lib.hid hsh
      have HAs := Lib.hid has
      clear hws hsh has
      obtain ⟨mA, hmA⟩ : ∃ mA, ws.length = mA := ⟨_, rfl⟩
      have HMA := Lib.hid hmA
      rw [hmA] at cW hm40
      clear hmA
      have cU : Hid (∀ B a c w, B ≤ w.heap.size → Wds B w a mA c ws → _) := Lib.hid (fun B a c w hB hW => l3Under_any B a mA c ws s w hB hW HSh.out hm40 (by omega))
      refine ⟨undr (tx s) ws, true, Nat.le_trans (undr_le _ _) (by rw [HMA.out]; omega), fun x hx => Nat.le_trans (HSh.out x (mem_undr.1 hx).1) (by omega), fun W a hN => ?_, fun W a hN => ?_⟩
      · have G1 := Lib.hid (Gv.start hN)
        have hbx := G1.out.box
        clear hN
        go_enter Try.func29, Try.ntmps29
        go_wp2_with fail
        refine (cG.out _ _ _ G1.out).mono ?_
        rintro e w2 ⟨rfl, hb2⟩
        have G2 := Lib.hid (G1.out.on hb2)
        have hbx2 := G2.out.box
        clear hb2 hbx
        go_wp2_with fail
        refine (cG2.out _).mono ?_
        rintro e w2b ⟨rfl, rfl⟩
        go_wp2_with fail
        refine (cW.out _ _ _ G2.out).mono ?_
        rintro e w3 ⟨a3, c3, rfl, hW3, hb3⟩
        have HW3 := Lib.hid hW3
        have G3 := Lib.hid (G2.out.on hb3)
        have hbx3 := G3.out.box
        clear hb3 hbx2 hW3
        go_wp2_with fail
        refine (cU.out _ _ _ w3 (Nat.le_refl _) HW3.out).mono ?_
        rintro e w4 ⟨v4, rfl, hO4, hb4⟩
        have HO4 := Lib.hid hO4
        have G4 := Lib.hid (G3.out.on hb4)
        clear hO4 hb4
        go_wp2_with fail
        go_ret2
        exact ⟨_, rfl, own_down HO4.out G3.out.bel.size, G4.out.bel⟩
      · have G1 := Lib.hid (Gv.start hN)
        have hbx := G1.out.box
        clear hN
        go_enter Try.func30, Try.ntmps30
        go_wp2_with fail
        refine (cT.out _ _ _ G1.out).mono ?_
        rintro e w2 ⟨rfl, hb2⟩
        have G2 := Lib.hid (G1.out.on hb2)
        have hbx2 := G2.out.box
        clear hb2 hbx
        go_wp2_with fail
        refine (cP.out _).mono ?_
        rintro e w3 ⟨rfl, hb3⟩
        have G3 := Lib.hid (G2.out.on hb3)
        have hbx3 := G3.out.box
        clear hb3 hbx2
        have cPl := Lib.hid (placeOf_any W.heap.size a n c t ps s w3 G3.out.bel.size G3.out.nds HV.out HQ2.out)
        go_wp2_with fail
        refine cPl.out.mono ?_
        rintro e w4 ⟨j, ok, rfl, hyes, hno, hb4⟩
        have G4 := Lib.hid (G3.out.on hb4)
        have hbx4 := G4.out.box
        have HYes := Lib.hid hyes
        have HNo := Lib.hid hno
        clear hb4 hbx3 hyes hno
        cases ok with
        | false =>
          have HE : Hid (undr (tx s) ws = []) := Lib.hid (by rw [← HWd.out]; exact undr_none HV.out (HNo.out rfl).2)
          go_wp2_with fail
          go_ret2
          exact ⟨_, rfl, by rw [HE.out]; exact ownS.own_lit0 G4.out.bel.size, G4.out.bel.alloc G4.out.bel.size _⟩
        | true =>
          have HJ := Lib.hid (HYes.out rfl)
          have hjn : j < n := by have h1 := (List.getElem?_eq_some_iff.1 HJ.out).1; have h2 := HV.out.lenEq; have h3 := G4.out.len; omega
          have cB := Lib.hid (wordsBelow_any W.heap.size a n c j t ps w4 G4.out.bel.size G4.out.nds HV.out hjn)
          go_wp2_with fail
          refine cB.out.mono ?_
          rintro e w5 ⟨v5, b5, rfl, hBh, hO5, hb5⟩
          have HO5 : Hid (w5.ownsRow w4.heap.size 9 1 v5 (undr (tx s) ws).length ((undr (tx s) ws).map (fun x => Value.string (bx x)))) := Lib.hid (by rw [undr_under HV.out hBh HJ.out, HWd.out] at hO5; exact hO5)
          have G5 := Lib.hid (G4.out.on hb5)
          clear hO5 hb5 hBh
          go_wp2_with fail
          go_ret2
          exact ⟨_, rfl, own_down HO5.out G4.out.bel.size, G5.out.bel⟩


end Go.Proofs.Ytknoafkgeaibpaa.cap
