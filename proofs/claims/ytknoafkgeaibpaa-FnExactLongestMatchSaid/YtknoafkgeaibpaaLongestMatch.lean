/-
  The longest word that stands at the beginning of a passage: the reference and the program answer the same.
-/
import Derived.Test.YtknoafkgeaibpaaGv
namespace Go.Proofs.Ytknoafkgeaibpaa.cap
open Go.RowKit
set_option linter.unusedVariables false

set_option maxRecDepth 1000000 in
set_option maxHeartbeats 2000000 in
theorem agreeLongestMatch (t : List Nd) (n c : Nat) (s : ByteArray) (hn : n ≤ 1048576) (hs : s.size ≤ 9223372036854775807) : ∃ (v : ByteArray) (ok : Bool),
    (∀ (W : World) (a : Option Addr), Nds W.heap.size W a n c t → Calls Try.prog 10 #[.agg #[.slice a n c], .string s] W fun e w' => e = .returned (.tuple #[.string v, .bool ok]) ∧ Below W.heap.size W w') ∧
    (∀ (W : World) (a : Option Addr), Nds W.heap.size W a n c t → Calls Try.prog 12 #[.agg #[.slice a n c], .string s] W fun e w' => e = .returned (.tuple #[.string v, .bool ok]) ∧ Below W.heap.size W w') := by
  have cG := Lib.hid (fun W w a (G : Gv W w a n c t) => l3Good_any W.heap.size a n c t s w G.bel.size G.nds hn hs)
  have cT := Lib.hid (fun W w a (G : Gv W w a n c t) => isTrie_any W.heap.size a n c t w G.bel.size G.nds)
  have cP := Lib.hid (fun w => isPassage_any s w hs)
  obtain ⟨q, hq⟩ : ∃ q, trieB t = q := ⟨_, rfl⟩
  obtain ⟨q2, hq2⟩ : ∃ q2, okP s = q2 := ⟨_, rfl⟩
  have HQ := Lib.hid hq
  have HQ2 := Lib.hid hq2
  rw [hq, hq2] at cG
  rw [hq] at cT
  rw [hq2] at cP
  clear hq hq2
  cases q with
  | false =>
    refine ⟨⟨#[]⟩, false, fun W a hN => ?_, fun W a hN => ?_⟩
    · have G1 := Lib.hid (Gv.start hN)
      have hbx := G1.out.box
      clear hN
      go_enter Try.func10, Try.ntmps10
      go_wp2_with (first
        | (go_at_call 35; refine (cG.out _ _ _ G1.out).mono ?_; rintro e w2 ⟨rfl, hb2⟩; have G2 := Lib.hid (G1.out.on hb2); clear hb2))
      go_ret2
      exact ⟨rfl, G2.out.bel⟩
    · have G1 := Lib.hid (Gv.start hN)
      have hbx := G1.out.box
      clear hN
      go_enter Try.func12, Try.ntmps12
      go_wp2_with (first
        | (go_at_call 39; refine (cT.out _ _ _ G1.out).mono ?_; rintro e w2 ⟨rfl, hb2⟩; have G2 := Lib.hid (G1.out.on hb2); clear hb2))
      go_ret2
      exact ⟨rfl, G2.out.bel⟩
  | true =>
    cases q2 with
    | false =>
      refine ⟨⟨#[]⟩, false, fun W a hN => ?_, fun W a hN => ?_⟩
      · have G1 := Lib.hid (Gv.start hN)
        have hbx := G1.out.box
        clear hN
        go_enter Try.func10, Try.ntmps10
        go_wp2_with (first
          | (go_at_call 35; refine (cG.out _ _ _ G1.out).mono ?_; rintro e w2 ⟨rfl, hb2⟩; have G2 := Lib.hid (G1.out.on hb2); clear hb2))
        go_ret2
        exact ⟨rfl, G2.out.bel⟩
      · have G1 := Lib.hid (Gv.start hN)
        have hbx := G1.out.box
        clear hN
        go_enter Try.func12, Try.ntmps12
        go_wp2_with (first
          | (go_at_call 39; refine (cT.out _ _ _ G1.out).mono ?_; rintro e w2 ⟨rfl, hb2⟩; have G2 := Lib.hid (G1.out.on hb2); clear hb2)
          | (go_at_call 40; refine (cP.out _).mono ?_; rintro e w3 ⟨rfl, hb3⟩; have G3 := Lib.hid (G2.out.on hb3); clear hb3))
        go_ret2
        exact ⟨rfl, G3.out.bel⟩
    | true =>
      obtain ⟨ps, hv⟩ := trieB_iff.1 HQ.out
      have hs60 := (okP_iff.1 HQ2.out).1
      have HLow := Lib.hid (okP_iff.1 HQ2.out).2
      have HV := Lib.hid hv
      have HWo := Lib.hid (wordsOf_eq hv)
      clear hv
      have cW := Lib.hid (fun W w a (G : Gv W w a n c t) => specWords_read W.heap.size a n c t w G.bel.size G.nds hn (trieB_iff.1 HQ.out))
      have hm40 := wordsOf_size t
      have cM := Lib.hid (fun B a c w (hB : B ≤ w.heap.size) (hW : Wds B w a (wordsOf t).length c (wordsOf t)) => l3Matches_any B a (wordsOf t).length c (wordsOf t) s 0 w hB hW (by rw [HWo.out]; exact HV.out.wordsAsc) (wordsOf_short t) hm40 hs60 (Nat.zero_le _))
      have cL := Lib.hid (fun W w a (G : Gv W w a n c t) => longestOf_any W.heap.size a n c t ps s w G.bel.size G.nds HV.out HLow.out (by omega))
      rw [← HWo.out] at cL
      rw [List.drop_zero] at cM
      have hmp := mt_parts (wordsOf t) s
      obtain ⟨ws, hws⟩ : ∃ ws, wordsOf t = ws := ⟨_, rfl⟩
      have HWs := Lib.hid hws
      rw [hws] at cW cM cL hm40 hmp
      clear hws
      refine ⟨longV ws s, longOk ws s, fun W a hN => ?_, fun W a hN => ?_⟩
      · have G1 := Lib.hid (Gv.start hN)
        have hbx := G1.out.box
        clear hN
        go_enter Try.func10, Try.ntmps10
        go_wp2_with fail
        refine (cG.out _ _ _ G1.out).mono ?_
        rintro e w2 ⟨rfl, hb2⟩
        have G2 := Lib.hid (G1.out.on hb2)
        have hbx2 := G2.out.box
        clear hb2 hbx
        obtain ⟨mA, hmA⟩ : ∃ mA, ws.length = mA := ⟨_, rfl⟩
        rw [hmA] at cW cM hm40
        clear hmA
        go_wp2_with fail
        refine (cW.out _ _ _ G2.out).mono ?_
        rintro e w3 ⟨a3, c3, rfl, hW3, hb3⟩
        have HW3 := Lib.hid hW3
        have G3 := Lib.hid (G2.out.on hb3)
        have hbx3 := G3.out.box
        clear hb3 hbx2 hW3
        have cM3 := Lib.hid (cM.out _ _ _ w3 (Nat.le_refl _) HW3.out)
        go_wp2_with fail
        rcases hmp with ⟨e1, e2, e3⟩ | ⟨m, k, e1, e2, h1, h2, e3, e4⟩
        · rw [e1] at cM3
          have HE2 := Lib.hid e2
          have HE3 := Lib.hid e3
          clear e1 e2 e3
          refine cM3.out.mono ?_
          rintro e w4 ⟨v4, rfl, hO4, hb4⟩
          obtain ⟨a9, c9, rfl, _⟩ := own_nums hO4
          have G4 := Lib.hid (G3.out.on hb4)
          clear hO4 hb4
          have z : ((([] : List Nat).length : Int) == 0) = true := rfl
          go_wp2_with fail
          go_ret2
          exact ⟨ret_sb HE2.out.symm HE3.out.symm, G4.out.bel⟩
        · have HE3 := Lib.hid e3
          have HE4 := Lib.hid e4
          have HE2 := Lib.hid e2
          obtain ⟨l, hl⟩ : ∃ l, Mt ws (tx s) = l := ⟨_, rfl⟩
          rw [hl] at cM3 HE2 e1
          rw [e1] at cM3
          clear e1 e2 e3 e4 hl
          refine cM3.out.mono ?_
          rintro e w4 ⟨v4, rfl, hO4, hb4⟩
          obtain ⟨a9, c9, rfl, hS⟩ := own_nums hO4
          obtain ⟨b9, o9, e9, _, hc⟩ := hS.spot m _ (nums_at HE2.out)
          subst e9
          have C9 := hS.cap
          have T9 := hS.top
          have G4 := Lib.hid (G3.out.on hb4)
          clear hO4 hb4 hS
          go_wp2_with fail
          go_ret2
          exact ⟨ret_sb HE3.out.symm HE4.out.symm, G4.out.bel⟩
      · have G1 := Lib.hid (Gv.start hN)
        have hbx := G1.out.box
        clear hN
        go_enter Try.func12, Try.ntmps12
        go_wp2_with fail
        refine (cT.out _ _ _ G1.out).mono ?_
        rintro e w2 ⟨rfl, hb2⟩
        have G2 := Lib.hid (G1.out.on hb2)
        have hbx2 := G2.out.box
        clear hb2 hbx
        go_wp2_with fail
        refine (cP.out _).mono ?_
        rintro e w3 ⟨rfl, hb3⟩
        have G3 := Lib.hid (G2.out.on hb3)
        have hbx3 := G3.out.box
        clear hb3 hbx2
        go_wp2_with (first
          | (go_at_call 41; refine (cL.out _ _ _ G3.out).mono ?_; rintro e w4 ⟨rfl, hb4⟩; have G4 := Lib.hid (G3.out.on hb4); clear hb4))
        go_ret2
        exact ⟨rfl, G4.out.bel⟩


end Go.Proofs.Ytknoafkgeaibpaa.cap
