/-
  The most letters that a cover has: the reference and the program answer the same.
-/
import Derived.Test.YtknoafkgeaibpabRestsMost
import Derived.Test.YtknoafkgeaibpabOW2
import Derived.Test.YtknoafkgeaibpabWays
import Derived.Test.YtknoafkgeaibpabMost1
import Derived.StillTailTactics
import Derived.Deep.RegionHeld3
namespace Go.Proofs.Ytknoafkgeaibpab.cap
open Go.RowKit
set_option linter.unusedVariables false

structure MostFacts (t : List Nd) (s : ByteArray) (v : Int) (ok : Bool) : Prop where
  okEq : ok = (trieB t && okP s)
  yes : ok = true → (telv mostT (wordsOf t) 0 (tx s))[0]? = some v
  no : ok = false → v = 0

theorem MostFacts.mk1 {t : List Nd} {s : ByteArray} (h : trieB t = false) : MostFacts t s 0 false := ⟨by rw [h]; rfl, (fun e => by cases e), fun _ => rfl⟩
theorem MostFacts.mk2 {t : List Nd} {s : ByteArray} (h : okP s = false) : MostFacts t s 0 false := ⟨by rw [h, Bool.and_false], (fun e => by cases e), fun _ => rfl⟩

set_option maxRecDepth 1000000 in
set_option maxHeartbeats 2000000 in
theorem agreeMostCovered (t : List Nd) (n c : Nat) (s : ByteArray) (hn : n ≤ 1048576) (hs : s.size ≤ 9223372036854775807) : ∃ (v : Int) (ok : Bool), MostFacts t s v ok ∧
    (∀ (W : World) (a : Option Addr), Nds W.heap.size W a n c t → Calls Try.prog 29 #[.agg #[.slice a n c], .string s] W fun e w' => e = .returned (.tuple #[.int .i64 v, .bool ok]) ∧ Below W.heap.size W w') ∧
    (∀ (W : World) (a : Option Addr), Nds W.heap.size W a n c t → Calls Try.prog 30 #[.agg #[.slice a n c], .string s] W fun e w' => e = .returned (.tuple #[.int .i64 v, .bool ok]) ∧ Below W.heap.size W w') := by
  have cG := Lib.hid (fun W w a (G : Gv W w a n c t) => l3Good_any W.heap.size a n c t s w G.bel.size G.nds hn hs)
  have cT := Lib.hid (fun W w a (G : Gv W w a n c t) => isTrie_any W.heap.size a n c t w G.bel.size G.nds)
  have cP := Lib.hid (fun w => isPassage_any s w hs)
  obtain ⟨q, hq⟩ : ∃ q, trieB t = q := ⟨_, rfl⟩
  obtain ⟨q2, hq2⟩ : ∃ q2, okP s = q2 := ⟨_, rfl⟩
  have HQ := Lib.hid hq
  have HQ2 := Lib.hid hq2
  rw [hq, hq2] at cG
  rw [hq] at cT
  rw [hq2] at cP
  clear hq hq2
  cases q with
  | false =>
    refine ⟨0, false, MostFacts.mk1 HQ.out, fun W a hN => ?_, fun W a hN => ?_⟩
    · have G1 := Lib.hid (Gv.start hN)
      have hbx := G1.out.box
      clear hN
      go_enter Try.func29, Try.ntmps29
      go_wp2_with (first
        | (go_at_call 43; refine (cG.out _ _ _ G1.out).mono ?_; rintro e w2 ⟨rfl, hb2⟩; have G2 := Lib.hid (G1.out.on hb2); clear hb2))
      go_ret2
      exact ⟨rfl, G2.out.bel⟩
    · have G1 := Lib.hid (Gv.start hN)
      have hbx := G1.out.box
      clear hN
      go_enter Try.func30, Try.ntmps30
      go_wp2_with (first
        | (go_at_call 45; refine (cT.out _ _ _ G1.out).mono ?_; rintro e w2 ⟨rfl, hb2⟩; have G2 := Lib.hid (G1.out.on hb2); clear hb2))
      go_ret2
      exact ⟨rfl, G2.out.bel⟩
  | true =>
    cases q2 with
    | false =>
      refine ⟨0, false, MostFacts.mk2 HQ2.out, fun W a hN => ?_, fun W a hN => ?_⟩
      · have G1 := Lib.hid (Gv.start hN)
        have hbx := G1.out.box
        clear hN
        go_enter Try.func29, Try.ntmps29
        go_wp2_with (first
          | (go_at_call 43; refine (cG.out _ _ _ G1.out).mono ?_; rintro e w2 ⟨rfl, hb2⟩; have G2 := Lib.hid (G1.out.on hb2); clear hb2))
        go_ret2
        exact ⟨rfl, G2.out.bel⟩
      · have G1 := Lib.hid (Gv.start hN)
        have hbx := G1.out.box
        clear hN
        go_enter Try.func30, Try.ntmps30
        go_wp2_with (first
          | (go_at_call 45; refine (cT.out _ _ _ G1.out).mono ?_; rintro e w2 ⟨rfl, hb2⟩; have G2 := Lib.hid (G1.out.on hb2); clear hb2)
          | (go_at_call 46; refine (cP.out _).mono ?_; rintro e w3 ⟨rfl, hb3⟩; have G3 := Lib.hid (G2.out.on hb3); clear hb3))
        go_ret2
        exact ⟨rfl, G3.out.bel⟩
    | true =>
      obtain ⟨ps, hv⟩ := trieB_iff.1 HQ.out
      have hs60 := (okP_iff.1 HQ2.out).1
      have HLow := Lib.hid (okP_iff.1 HQ2.out).2
      have HV := Lib.hid hv
      have HWo := Lib.hid (wordsOf_eq hv)
      clear hv
      have cW := Lib.hid (fun W w a (G : Gv W w a n c t) => specWords_own W.heap.size a n c t w G.bel.size G.nds hn (trieB_iff.1 HQ.out))
      have hm40 := wordsOf_size t
      have hsh := wordsOf_short t
      have has : Asc (wordsOf t) := by rw [HWo.out]; exact HV.out.wordsAsc
      obtain ⟨ws, hws⟩ : ∃ ws, wordsOf t = ws := ⟨_, rfl⟩
      have HWs := Lib.hid hws
      have HWd : Hid (wds t ps = ws) := Lib.hid (HWo.out.symm.trans hws)
      rw [hws] at cW hm40 hsh has
      have HSh := Lib.hid hsh
      have HAs := Lib.hid has
      clear hws hsh has
      have cR := Lib.hid (fun W w a (G : Gv W w a n c t) => restsMost_any W.heap.size a n c t ps s 0 w G.bel.size G.nds HV.out HLow.out hs60)
      rw [HWd.out] at cR
      obtain ⟨mA, hmA⟩ : ∃ mA, ws.length = mA := ⟨_, rfl⟩
      have HMA := Lib.hid hmA
      rw [hmA] at cW hm40
      clear hmA
      obtain ⟨v, r, hvr⟩ : ∃ (v : Int) (r : List Int), telv mostT ws 0 (tx s) = v :: r := by
        cases h9 : telv mostT ws 0 (tx s) with
        | nil => have := telv_len (T := mostT) (ws := ws) (e := 0) (tx s); rw [h9] at this; simp at this
        | cons v r => exact ⟨v, r, rfl⟩
      have HVR := Lib.hid hvr
      rw [hvr, List.map_cons] at cR
      clear hvr
      obtain ⟨nn, hnn⟩ : ∃ nn, s.size + 1 = nn := ⟨_, rfl⟩
      have HNN := Lib.hid hnn
      rw [hnn] at cR
      have hn0 : 0 < nn := by omega
      have hn1 : (0 : Int) < (nn : Int) := by omega
      have hnn61 : nn ≤ 61 := by omega
      have hsn : IntKind.i64.wrap ((s.size : Int) + 1) = (nn : Int) := by rw [IntWalk.i64_in _ (by omega)]; omega
      have HSN := Lib.hid hsn
      clear hnn hsn
      refine ⟨v, true, ⟨by rw [HQ.out, HQ2.out]; rfl, (fun _ => by rw [HWs.out, HVR.out]; rfl), (fun e => by cases e)⟩, fun W a hN => ?_, fun W a hN => ?_⟩
      · have G1 := Lib.hid (Gv.start hN)
        have hbx := G1.out.box
        clear hN
        go_enter Try.func29, Try.ntmps29
        go_wp2_with fail
        refine (cG.out _ _ _ G1.out).mono ?_
        rintro e w2 ⟨rfl, hb2⟩
        have G2 := Lib.hid (G1.out.on hb2)
        have hbx2 := G2.out.box
        clear hb2 hbx
        obtain ⟨cz, hcz1, hcz2, hmk0⟩ := make_run (P := Try.prog) 44 3 (.int .i64 0) 8 Try.underlying44 infoI rfl nn (by omega) (by omega)
        have HCZ := Lib.hid hcz2
        have hmk := hmk0
        have hsn := HSN.out
        clear hcz2 hmk0
        have Gd := Lib.hid (G2.out.on (Below.refl _ _).drew)
        have cWd := Lib.hid (cW.out W (w2.drew) a Gd.out)
        have cWa := Lib.hid (fun o => cW.out W ((w2.alloc o).drew) a (G2.out.on (((Below.refl _ _).alloc (Nat.le_refl _) o).drew)))
        go_wp2_with fail
        go_region_held3 (fun w' => w'.cell? ⟨W.heap.size, 0, none⟩ = some (.slice a n c))
          (first
            | exact hbx2
            | exact Gd.out.box
            | exact (hb3.cell (p := ⟨W.heap.size, 0, none⟩) (by first | exact Gd.out.lt | (have := G2.out.lt; simp; omega))).trans (by first | exact Gd.out.box | exact (G2.out.on (((Below.refl _ _).alloc (Nat.le_refl _) _).drew)).box)
            | exact (World.cell?_alloc_lt _ _ _ (by have := hb3.size; have := G2.out.lt; simp at *; omega)).trans ((hb3.cell (p := ⟨W.heap.size, 0, none⟩) Gd.out.lt).trans Gd.out.box)
            | exact (G2.out.on ((Below.refl _ _).alloc (Nat.le_refl _) _)).box
            | exact (G2.out.on (((Below.refl _ _).alloc (Nat.le_refl _) _).drew)).box)
          (first
            | (go_at_call 35; with_reducible refine (cWd.out).mono ?_; rintro e w3 ⟨a3, c3, rfl, hW3, hb3⟩)
            | (go_at_call 35; refine (cWa.out _).mono ?_; rintro e w3 ⟨a3, c3, rfl, hW3, hb3⟩))
        all_goals
          have hbase : W.heap.size + 1 ≤ w2.heap.size := G2.out.lt
          first
            | (have R0 := Lib.hid (OW.after (e := 3) (base := W.heap.size + 1) (Nat.le_trans hbase hb3.size) (by omega) hcz1 (own_down hW3 hbase)); have Gx := Lib.hid ((Gd.out.on hb3).on ((Below.refl _ _).alloc (Nat.le_refl _) (.cells cz 3))); have hgl : w3.heap.size < (w3.alloc (.cells cz 3)).heap.size := by simp)
            | (have R0 := Lib.hid (OW.before (e := 3) (base := W.heap.size + 1) hbase (by omega) hcz1 ((Below.refl _ _).drew.trans hb3) hW3); have Gx := Lib.hid ((G2.out.on (((Below.refl _ _).alloc (Nat.le_refl _) (.cells cz 3)).drew)).on hb3); have hgl : w2.heap.size < w3.heap.size := by have := hb3.size; simp at this; omega)
          rw [HCZ.out] at R0
          clear hW3 hb3 hcz1 hmk cWd cWa Gd G2 hbase hbx2 hsn HCZ
          first
            | (obtain ⟨wx, hwx⟩ : ∃ wx, w3.alloc (.cells cz 3) = wx := ⟨_, rfl⟩; rw [hwx] at R0 Gx hgl ⊢; clear hwx; obtain ⟨g, hg⟩ : ∃ g, w3.heap.size = g := ⟨_, rfl⟩; rw [hg] at R0 hgl ⊢; clear hg)
            | (obtain ⟨wx, hwx⟩ : ∃ wx, w3 = wx := ⟨_, rfl⟩; rw [hwx] at R0 Gx hgl ⊢; clear hwx; obtain ⟨g, hg⟩ : ∃ g, w2.heap.size = g := ⟨_, rfl⟩; rw [hg] at R0 hgl ⊢; clear hg)
          have R1 : Hid (OW (W.heap.size + 1) wx 3 1 (.slice (some ⟨g, 0, none⟩) nn nn) nn (trow s.size (telv mostT ws 0 ((tx s).drop s.size))) a3 mA c3 ws) := Lib.hid (by
            have e0 : telv mostT ws 0 ((tx s).drop s.size) = [0] := by rw [← tx_len]; exact telv_end _
            rw [e0, ← trow_zero, HNN.out]
            have := R0.out
            simpa [trow] using this)
          clear R0
          go_wp2_with fail
          go_loopw [8] (fun p wr => ∃ k : Nat, k ≤ s.size ∧ p = .int .i64 ((k : Int) - 1) ∧ Hid (OW (W.heap.size + 1) wr 3 1 (.slice (some ⟨g, 0, none⟩) nn nn) nn (trow k (telv mostT ws 0 ((tx s).drop k))) a3 mA c3 ws) ∧ Hid (Gv W wr a n c t)) (fun p _ => (intOf p + 1).toNat)
          case atStart => exact ⟨s.size, Nat.le_refl _, rfl, R1, Gx⟩
          case round =>
            clear R1 Gx hgl
            obtain ⟨k, hk, rfl, R, G⟩ := hrel
            cases k with
            | zero =>
              have hneg : ¬ ((0 : Int) ≤ ((0 : Nat) : Int) - 1) := by omega
              have hc0 : wr.cell? ⟨g, 0, none⟩ = some (.int .i64 v) := (R.out.out.cellAt 0 (by omega)).trans (by rw [List.drop_zero, HVR.out]; rfl)
              go_wp2_with fail
              go_ret2
              exact ⟨rfl, G.out.bel⟩
            | succ k =>
              have e1 : ((k + 1 : Nat) : Int) - 1 = (k : Int) := by omega
              rw [e1]
              clear e1
              have hk0 : (0 : Int) ≤ (k : Int) := by omega
              have hk2 : (k : Int) + 1 < (nn : Int) := by have := HNN.out; omega
              have hk3 : (k : Int) < (nn : Int) := by omega
              have HStep : Hid (telv mostT ws 0 ((tx s).drop k) = mostT (Mt ws ((tx s).drop k)) (fun j => (telv mostT ws 0 ((tx s).drop (k + 1))).getD (j - 1) 0) :: telv mostT ws 0 ((tx s).drop (k + 1))) := Lib.hid (telv_step (tx s) (by rw [tx_len]; omega))
              have HIn : Hid (∀ j ∈ Mt ws ((tx s).drop k), 1 ≤ j ∧ k + j < nn) := Lib.hid (fun j hj => by
                have := mt_in hj
                rw [List.length_drop, tx_len] at this
                have := HNN.out
                omega)
              have HLen : Hid ((telv mostT ws 0 ((tx s).drop (k + 1))).length = s.size - k) := Lib.hid (by rw [telv_len, List.length_drop, tx_len]; omega)
              have hml : (Mt ws ((tx s).drop k)).length ≤ 1000 := by
                rw [mt_upTo HAs.out]
                have h9 := upTo_len ws ((tx s).drop k) ((tx s).drop k).length
                rw [List.length_drop, tx_len] at h9
                rw [List.length_drop, tx_len]
                omega
              obtain ⟨L, hL⟩ : ∃ L, telv mostT ws 0 ((tx s).drop (k + 1)) = L := ⟨_, rfl⟩
              rw [hL] at HStep HLen R
              clear hL
              obtain ⟨b1, hb1⟩ : ∃ b1, L.getD 0 0 = b1 := ⟨_, rfl⟩
              have HB1 := Lib.hid hb1
              have hld : wr.cell? ⟨g, k + 1, none⟩ = some (.int .i64 b1) := (R.out.out.cellAt (k + 1) (by omega)).trans (by
                have := trow_at (k := k + 1) (j := 0) (l := L) (by rw [HLen.out]; omega)
                rw [Nat.add_zero] at this
                rw [this, hb1])
              have hfz := R.out.out.frozenAt k
              have hck : wr.cell? ⟨g, k, none⟩ = some (.int .i64 0) := (R.out.out.cellAt k (by omega)).trans (by rw [trow_zero]; exact trow_head _ _ _)
              have HR1 : Hid (OW (W.heap.size + 1) (wr.setCell ⟨g, k, none⟩ (.int .i64 b1)) 3 1 (.slice (some ⟨g, 0, none⟩) nn nn) nn (trow k (b1 :: L)) a3 mA c3 ws) := Lib.hid (by
                have := R.out.set k (.int .i64 b1)
                rw [trow_zero, trow_put] at this
                exact this)
              have HG1 : Hid (Gv W (wr.setCell ⟨g, k, none⟩ (.int .i64 b1)) a n c t) := Lib.hid (G.out.on2 (R.out.set_below k _ (by have := G.out.lt; omega)))
              clear hb1
              have ht1 : ((k : Int) + 1).toNat = k + 1 := by omega
              go_wp2_with fail
              refine (matches_beside HR1.out HAs.out HSh.out hm40 (g := g) rfl s hs60 k (by omega)).mono ?_
              rintro e w4 ⟨a9, c9, rfl, hO9, hR9, hne9, hb9⟩
              have HL9 := Lib.hid (own_down hO9 (Nat.zero_le _))
              have HNe := Lib.hid hne9
              obtain ⟨l, hl⟩ : ∃ l, Mt ws ((tx s).drop k) = l := ⟨_, rfl⟩
              rw [hl] at HStep HIn hml HL9 HNe
              rw [hl]
              clear hl
              obtain ⟨m, hm⟩ : ∃ m, l.length = m := ⟨_, rfl⟩
              have HLm := Lib.hid hm
              rw [hm] at hml HL9 HNe
              rw [hm]
              clear hm
              have HR9 : Hid (OW (W.heap.size + 1) w4 3 1 (.slice (some ⟨g, 0, none⟩) nn nn) nn (trow k (mostT (l.take 0) (fun j => L.getD (j - 1) 0) :: L)) a3 mA c3 ws) := Lib.hid (by
                have e9 : mostT (l.take 0) (fun j => L.getD (j - 1) 0) = b1 := HB1.out
                rw [e9]; exact hR9)
              have HG9 := Lib.hid (HG1.out.on hb9)
              clear hO9 hR9 hne9 hb9 HR1 HG1 R G hld hfz hck ht1 HB1
              go_wp2_with fail
              obtain ⟨wo, rfl⟩ : ∃ wo : World, wo = wr := ⟨_, rfl⟩
              go_loopw [10] (fun p wr => ∃ i : Nat, i ≤ m ∧ p = .int .i64 i ∧ Hid (OW (W.heap.size + 1) wr 3 1 (.slice (some ⟨g, 0, none⟩) nn nn) nn (trow k (mostT (l.take i) (fun j => L.getD (j - 1) 0) :: L)) a3 mA c3 ws) ∧ Hid (wr.ownsRow 0 3 1 (.slice a9 m c9) m (nums l)) ∧ Hid (Gv W wr a n c t)) (fun p _ => m - (intOf p).toNat)
              case atStart => exact ⟨0, Nat.zero_le _, rfl, HR9, HL9, HG9⟩
              case round =>
                clear HR9 HL9 HG9
                obtain ⟨i, hi, rfl, R, HL, G⟩ := hrel
                have C9 := (Sl.of_own HL.out).cap
                have T9 := (Sl.of_own HL.out).top
                by_cases hlt : i < m
                · obtain ⟨j, hj⟩ : ∃ j, l[i]? = some j := ⟨_, List.getElem?_eq_getElem (by rw [HLm.out]; exact hlt)⟩
                  obtain ⟨b9, o9, e9, _, hc⟩ := (Sl.of_own HL.out).spot i _ (nums_at hj)
                  subst e9
                  have hij := HIn.out j (List.mem_of_getElem? hj)
                  have HS := Lib.hid (mostT_succ (b := fun j => L.getD (j - 1) 0) hj)
                  have hc1 : wr.cell? ⟨g, k, none⟩ = some (.int .i64 (mostT (l.take i) (fun j => L.getD (j - 1) 0))) := (R.out.out.cellAt k (by omega)).trans (trow_head _ _ _)
                  have hc2 : wr.cell? ⟨g, k + j, none⟩ = some (.int .i64 (L.getD (j - 1) 0)) := (R.out.out.cellAt (k + j) (by omega)).trans (trow_behind hij.1 (by rw [HLen.out]; have := HNN.out; omega))
                  have hfz := R.out.out.frozenAt k
                  obtain ⟨q, hq⟩ : ∃ q, mostT (l.take i) (fun j => L.getD (j - 1) 0) = q := ⟨_, rfl⟩
                  obtain ⟨z, hz⟩ : ∃ z, L.getD (j - 1) 0 = z := ⟨_, rfl⟩
                  obtain ⟨wz, hwz⟩ : ∃ wz, wrap64 ((j : Int) + z) = wz := ⟨_, rfl⟩
                  obtain ⟨q2, hq2⟩ : ∃ q2, (if wz < q then q else wz) = q2 := ⟨_, rfl⟩
                  have HQ2 : Hid (mostT (l.take (i + 1)) (fun j => L.getD (j - 1) 0) = q2) := Lib.hid (by
                    rw [HS.out, hq, hz, hwz, ← hq2]
                    unfold mx
                    split <;> split <;> omega)
                  have hsum : IntKind.i64.wrap ((j : Int) + z) = wz := by rw [IntWalk.i64_left]; exact hwz
                  have cX := Lib.hid (fun W' => l1Most_is q wz W')
                  rw [hq2] at cX
                  have hkj : IntKind.i64.wrap ((k : Int) + (j : Int)) = (k : Int) + (j : Int) := IntWalk.i64_in _ (by omega)
                  have hkj1 : (0 : Int) ≤ (k : Int) + (j : Int) := by omega
                  have hkj2 : (k : Int) + (j : Int) < (nn : Int) := by omega
                  have hkj3 : ((k : Int) + (j : Int)).toNat = k + j := by omega
                  have hi0 : (0 : Int) ≤ (i : Int) := by omega
                  have hi1 : (i : Int) < (m : Int) := by omega
                  have HST := Lib.hid (R.out.set k (.int .i64 q2))
                  have HSB := Lib.hid (R.out.set_below k (.int .i64 q2) (by have := G.out.lt; omega))
                  have HSL : Hid ((wr.setCell ⟨g, k, none⟩ (.int .i64 q2)).ownsRow 0 3 1 (.slice (some ⟨b9, o9, none⟩) m c9) m (nums l)) := Lib.hid (HL.out.kept (R.out.out.stored k (.int .i64 q2)).2 (.inr HNe.out))
                  rw [hq] at hc1 HST
                  rw [hz] at hc2
                  rw [trow_put] at HST
                  clear hj hij hq hz hq2 hwz HS
                  go_wp2_with fail
                  refine wp_region_still_tail 22 (by kernel_rfl) (by kernel_rfl) ?_
                  simp only [List.take_succ_cons, List.take_zero, List.drop_succ_cons, List.drop_zero]
                  repeat still_step
                  still_call (cX.out _)
                  repeat still_step
                  try refine wpStill_nil ?_
                  go_wp2_with fail
                  go_roundw
                  case rel =>
                    refine ⟨i + 1, by omega, by go_num, Lib.hid ?_, Lib.hid ?_, Lib.hid ?_⟩
                    · rw [HQ2.out]
                      exact HST.out.drew
                    · exact HSL.out.drew
                    · exact (G.out.on2 HSB.out).on (Below.refl _ _).drew
                  case measure => simp [intOf]; omega
                · have HF : Hid (trow k (mostT (l.take i) (fun j => L.getD (j - 1) 0) :: L) = trow k (telv mostT ws 0 ((tx s).drop k))) := Lib.hid (by
                    rw [List.take_of_length_le (by rw [HLm.out]; omega), HStep.out])
                  go_wp2_with fail
                  go_roundw
                  case rel => exact ⟨k, by omega, by first | rfl | go_num, Lib.hid (by rw [← HF.out]; exact R.out), G⟩
                  case measure => first | (simp [intOf]; done) | (simp [intOf]; omega)
      · have G1 := Lib.hid (Gv.start hN)
        have hbx := G1.out.box
        clear hN
        go_enter Try.func30, Try.ntmps30
        go_wp2_with fail
        refine (cT.out _ _ _ G1.out).mono ?_
        rintro e w2 ⟨rfl, hb2⟩
        have G2 := Lib.hid (G1.out.on hb2)
        have hbx2 := G2.out.box
        clear hb2 hbx
        go_wp2_with fail
        refine (cP.out _).mono ?_
        rintro e w3 ⟨rfl, hb3⟩
        have G3 := Lib.hid (G2.out.on hb3)
        have hbx3 := G3.out.box
        clear hb3 hbx2
        go_wp2_with fail
        refine (cR.out _ _ _ G3.out).mono ?_
        rintro e w4 ⟨g, rfl, hO4, hb4⟩
        have hc4 := hO4.cellAt 0 (by omega)
        rw [List.getElem?_cons_zero] at hc4
        have G4 := Lib.hid (G3.out.on hb4)
        clear hO4 hb4
        go_wp2_with fail
        go_ret2
        exact ⟨rfl, G4.out.bel⟩


end Go.Proofs.Ytknoafkgeaibpab.cap
