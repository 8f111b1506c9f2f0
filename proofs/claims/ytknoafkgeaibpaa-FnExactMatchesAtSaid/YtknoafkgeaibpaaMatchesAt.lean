/-
  The words that stand in a passage at a place: the reference and the program answer the same.
-/
import Derived.Test.YtknoafkgeaibpaaGv
import Derived.Test.YtknoafkgeaibpaaMarkOwnI
namespace Go.Proofs.Ytknoafkgeaibpaa.cap
open Go.RowKit
set_option linter.unusedVariables false

set_option maxRecDepth 1000000 in
set_option maxHeartbeats 2000000 in
theorem agreeMatchesAt (t : List Nd) (n c : Nat) (s : ByteArray) (x1 : Int) (hn : n ≤ 1048576) (hs : s.size ≤ 9223372036854775807) (hx1 : -9223372036854775808 ≤ x1 ∧ x1 ≤ 9223372036854775807) : ∃ (xs : List Nat) (ok : Bool), xs.length ≤ 1000 ∧
    (∀ (W : World) (a : Option Addr), Nds W.heap.size W a n c t → Calls Try.prog 14 #[.agg #[.slice a n c], .string s, .int .i64 x1] W fun e w' => ownI.OwnNums W xs ok e w') ∧
    (∀ (W : World) (a : Option Addr), Nds W.heap.size W a n c t → Calls Try.prog 15 #[.agg #[.slice a n c], .string s, .int .i64 x1] W fun e w' => ownI.OwnNums W xs ok e w') := by
  have cG := Lib.hid (fun W w a (G : Gv W w a n c t) => l3Good_any W.heap.size a n c t s w G.bel.size G.nds hn hs)
  have cT := Lib.hid (fun W w a (G : Gv W w a n c t) => isTrie_any W.heap.size a n c t w G.bel.size G.nds)
  have cP := Lib.hid (fun w => isPassage_any s w hs)
  obtain ⟨q, hq⟩ : ∃ q, trieB t = q := ⟨_, rfl⟩
  obtain ⟨q2, hq2⟩ : ∃ q2, okP s = q2 := ⟨_, rfl⟩
  have HQ := Lib.hid hq
  have HQ2 := Lib.hid hq2
  rw [hq, hq2] at cG
  rw [hq] at cT
  rw [hq2] at cP
  clear hq hq2
  cases q with
  | false =>
    refine ⟨[], false, by simp, fun W a hN => ?_, fun W a hN => ?_⟩
    · have G1 := Lib.hid (Gv.start hN)
      have hbx := G1.out.box
      clear hN
      go_enter Try.func14, Try.ntmps14
      go_wp2_with (first
        | (go_at_call 35; refine (cG.out _ _ _ G1.out).mono ?_; rintro e w2 ⟨rfl, hb2⟩; have G2 := Lib.hid (G1.out.on hb2); clear hb2))
      go_ret2
      exact ⟨_, rfl, ownI.own_lit0 G2.out.bel.size, G2.out.bel.alloc G2.out.bel.size _⟩
    · have G1 := Lib.hid (Gv.start hN)
      have hbx := G1.out.box
      clear hN
      go_enter Try.func15, Try.ntmps15
      go_wp2_with (first
        | (go_at_call 39; refine (cT.out _ _ _ G1.out).mono ?_; rintro e w2 ⟨rfl, hb2⟩; have G2 := Lib.hid (G1.out.on hb2); clear hb2))
      go_ret2
      exact ⟨_, rfl, World.ownsRow_nil _ _ _ _, G2.out.bel⟩
  | true =>
    cases q2 with
    | false =>
      refine ⟨[], false, by simp, fun W a hN => ?_, fun W a hN => ?_⟩
      · have G1 := Lib.hid (Gv.start hN)
        have hbx := G1.out.box
        clear hN
        go_enter Try.func14, Try.ntmps14
        go_wp2_with (first
          | (go_at_call 35; refine (cG.out _ _ _ G1.out).mono ?_; rintro e w2 ⟨rfl, hb2⟩; have G2 := Lib.hid (G1.out.on hb2); clear hb2))
        go_ret2
        exact ⟨_, rfl, ownI.own_lit0 G2.out.bel.size, G2.out.bel.alloc G2.out.bel.size _⟩
      · have G1 := Lib.hid (Gv.start hN)
        have hbx := G1.out.box
        clear hN
        go_enter Try.func15, Try.ntmps15
        go_wp2_with (first
          | (go_at_call 39; refine (cT.out _ _ _ G1.out).mono ?_; rintro e w2 ⟨rfl, hb2⟩; have G2 := Lib.hid (G1.out.on hb2); clear hb2)
          | (go_at_call 40; refine (cP.out _).mono ?_; rintro e w3 ⟨rfl, hb3⟩; have G3 := Lib.hid (G2.out.on hb3); clear hb3))
        go_ret2
        exact ⟨_, rfl, World.ownsRow_nil _ _ _ _, G3.out.bel⟩
    | true =>
      obtain ⟨ps, hv⟩ := trieB_iff.1 HQ.out
      have hs60 := (okP_iff.1 HQ2.out).1
      have HLow := Lib.hid (okP_iff.1 HQ2.out).2
      have HV := Lib.hid hv
      have HWo := Lib.hid (wordsOf_eq hv)
      clear hv
      have cW := Lib.hid (fun W w a (G : Gv W w a n c t) => specWords_read W.heap.size a n c t w G.bel.size G.nds hn (trieB_iff.1 HQ.out))
      have hm40 := wordsOf_size t
      have hsh := wordsOf_short t
      have has : Asc (wordsOf t) := by rw [HWo.out]; exact HV.out.wordsAsc
      obtain ⟨ws, hws⟩ : ∃ ws, wordsOf t = ws := ⟨_, rfl⟩
      have HWs := Lib.hid hws
      have HWd : Hid (wds t ps = ws) := Lib.hid (HWo.out.symm.trans hws)
      rw [hws] at cW hm40 hsh has
      have HSh := Lib.hid hsh
      have HAs := Lib.hid has
      clear hws hsh has
      obtain ⟨mA, hmA⟩ : ∃ mA, ws.length = mA := ⟨_, rfl⟩
      have HMA := Lib.hid hmA
      rw [hmA] at cW hm40
      clear hmA
      have cM : Hid (∀ B a c w (k : Nat), B ≤ w.heap.size → Wds B w a mA c ws → k ≤ s.size → _) := Lib.hid (fun B a c w k hB hW hk => l3Matches_any B a mA c ws s k w hB hW HAs.out HSh.out hm40 hs60 hk)
      have hl0 : ((s.size : Nat) : Int) ≤ 60 := by omega
      by_cases hat : 0 ≤ x1 ∧ x1 ≤ (s.size : Int)
      · obtain ⟨k, rfl⟩ : ∃ k : Nat, x1 = k := ⟨x1.toNat, by omega⟩
        have hk : k ≤ s.size := by omega
        have hat0 : (0 : Int) ≤ (k : Int) := by omega
        have cI := Lib.hid (fun w => l1In_yes (x := (k : Int)) (a := 0) (b := (s.size : Int)) w hat)
        clear hat
        refine ⟨Mt ws ((tx s).drop k), true, Nat.le_trans mt_le (by rw [HMA.out]; omega), fun W a hN => ?_, fun W a hN => ?_⟩
        · have G1 := Lib.hid (Gv.start hN)
          have hbx := G1.out.box
          clear hN
          go_enter Try.func14, Try.ntmps14
          go_wp2_with fail
          refine (cG.out _ _ _ G1.out).mono ?_
          rintro e w2 ⟨rfl, hb2⟩
          have G2 := Lib.hid (G1.out.on hb2)
          have hbx2 := G2.out.box
          clear hb2 hbx
          go_wp2_with fail
          refine (cI.out _).mono ?_
          rintro e w2b ⟨rfl, rfl⟩
          go_wp2_with fail
          refine (cW.out _ _ _ G2.out).mono ?_
          rintro e w3 ⟨a3, c3, rfl, hW3, hb3⟩
          have HW3 := Lib.hid hW3
          have G3 := Lib.hid (G2.out.on hb3)
          have hbx3 := G3.out.box
          clear hb3 hbx2 hW3
          go_wp2_with fail
          refine (cM.out _ _ _ w3 k (Nat.le_refl _) HW3.out hk).mono ?_
          rintro e w4 ⟨v4, rfl, hO4, hb4⟩
          have HO4 := Lib.hid hO4
          have G4 := Lib.hid (G3.out.on hb4)
          clear hO4 hb4
          go_wp2_with fail
          go_ret2
          exact ⟨_, rfl, own_down HO4.out G3.out.bel.size, G4.out.bel⟩
        · have G1 := Lib.hid (Gv.start hN)
          have hbx := G1.out.box
          clear hN
          go_enter Try.func15, Try.ntmps15
          go_wp2_with fail
          refine (cT.out _ _ _ G1.out).mono ?_
          rintro e w2 ⟨rfl, hb2⟩
          have G2 := Lib.hid (G1.out.on hb2)
          have hbx2 := G2.out.box
          clear hb2 hbx
          go_wp2_with fail
          refine (cP.out _).mono ?_
          rintro e w3 ⟨rfl, hb3⟩
          have G3 := Lib.hid (G2.out.on hb3)
          have hbx3 := G3.out.box
          clear hb3 hbx2
          have hlow2 : Low (tx (s.extract k s.size)) := by
            rw [tx_ext]
            intro c hc
            exact HLow.out c (List.mem_of_mem_drop (List.mem_of_mem_take hc))
          have hsz2 : (s.extract k s.size).size ≤ 100 := by rw [ByteArray.size_extract]; omega
          have etx : tx (s.extract k s.size) = (tx s).drop k := by rw [tx_ext, List.take_of_length_le (by rw [List.length_drop, tx_len]; exact Nat.le_refl _)]
          have cMo : Hid (∀ W' (G : Gv W W' a n c t), _) := Lib.hid (fun W' (G : Gv W W' a n c t) => matchesOf_any W.heap.size a n c t ps (s.extract k s.size) W' G.bel.size G.nds HV.out hlow2 hsz2)
          rw [etx, HWd.out] at cMo
          clear hlow2 hsz2 etx
          have Gd := Lib.hid (G3.out.on (Below.refl _ _).drew)
          go_wp2_with fail
          go_region_held3 (fun w' => w'.cell? ⟨W.heap.size, 0, none⟩ = some (.slice a n c))
            (first
              | exact hbx3
              | exact (hb4.cell (p := ⟨W.heap.size, 0, none⟩) Gd.out.lt).trans Gd.out.box)
            (first
              | (go_at_call 44; refine (cMo.out _ (by exact Gd.out)).mono ?_; rintro e w4 ⟨v4, rfl, hO4, hb4⟩))
          have G4 := Lib.hid (Gd.out.on hb4)
          have HO4 := Lib.hid hO4
          clear hb4 hO4
          go_wp2_with fail
          go_ret2
          exact ⟨_, rfl, own_down HO4.out Gd.out.bel.size, G4.out.bel⟩
      · have cI := Lib.hid (fun w => l1In_no (x := x1) (a := 0) (b := (s.size : Int)) w hat)
        refine ⟨[], false, by simp, fun W a hN => ?_, fun W a hN => ?_⟩
        · have G1 := Lib.hid (Gv.start hN)
          have hbx := G1.out.box
          clear hN
          go_enter Try.func14, Try.ntmps14
          go_wp2_with fail
          refine (cG.out _ _ _ G1.out).mono ?_
          rintro e w2 ⟨rfl, hb2⟩
          have G2 := Lib.hid (G1.out.on hb2)
          have hbx2 := G2.out.box
          clear hb2 hbx
          go_wp2_with fail
          refine (cI.out _).mono ?_
          rintro e w2b ⟨rfl, rfl⟩
          go_wp2_with fail
          go_ret2
          exact ⟨_, rfl, ownI.own_lit0 G2.out.bel.size, G2.out.bel.alloc G2.out.bel.size _⟩
        · by_cases h0 : x1 < 0
          all_goals
            have h1 : 0 ≤ x1 → (s.size : Int) < x1 := fun h => by omega
            have G1 := Lib.hid (Gv.start hN)
            have hbx := G1.out.box
            clear hN hat
            try have h2 := h1 (by omega)
            clear h1
            go_enter Try.func15, Try.ntmps15
            go_wp2_with fail
            refine (cT.out _ _ _ G1.out).mono ?_
            rintro e w2 ⟨rfl, hb2⟩
            have G2 := Lib.hid (G1.out.on hb2)
            have hbx2 := G2.out.box
            clear hb2 hbx
            go_wp2_with fail
            refine (cP.out _).mono ?_
            rintro e w3 ⟨rfl, hb3⟩
            have G3 := Lib.hid (G2.out.on hb3)
            clear hb3 hbx2
            go_wp2_with fail
            go_ret2
            exact ⟨_, rfl, World.ownsRow_nil _ _ _ _, G3.out.bel⟩


end Go.Proofs.Ytknoafkgeaibpaa.cap
