/-
  How many splits each rest of a passage has: the reference's list.
-/
import Derived.Test.YtknoafkgeaibpabTellSplits
import Derived.Test.YtknoafkgeaibpabL3
import Derived.IntWalk
import Derived.StillTailTactics
namespace Go.Proofs.Ytknoafkgeaibpab
open Go.RowKit
set_option linter.unusedVariables false

theorem made_zeroW {w : World} {base n : Nat} {v : Value} (h : w.ownsRow base 3 1 v n (madeCells (Value.int .i64 0).cells (n * 1)).toList) : w.ownsRow base 3 1 v n (List.replicate n (.int .i64 0)) := by
  have e9 : (madeCells (Value.int .i64 0).cells (n * 1)).toList = List.replicate n (.int .i64 0) := by rw [Nat.mul_one]; exact toList_madeCells_one _ _
  rwa [e9] at h

theorem rep_atW {n j : Nat} {v : Value} (h : j < n) : (List.replicate n v)[j]? = some v := by rw [List.getElem?_replicate, if_pos h]

theorem trow_zero (k : Nat) (l : List Int) : trow (k + 1) l = trow k (0 :: l) := by
  unfold trow
  rw [List.replicate_succ', List.append_assoc]
  rfl

theorem trow_head (k : Nat) (z : Int) (l : List Int) : (trow k (z :: l))[k]? = some (.int .i64 z) := by
  have := trow_at (k := k) (j := 0) (l := z :: l) (by simp)
  simpa using this

theorem trow_put (k : Nat) (z q : Int) (l : List Int) : (trow k (z :: l)).set k (.int .i64 q) = trow k (q :: l) := by
  unfold trow
  rw [List.set_append_right _ _ (by simp)]
  simp

theorem trow_behind {k j : Nat} {z : Int} {l : List Int} (hj : 1 ≤ j) (h : j - 1 < l.length) : (trow k (z :: l))[k + j]? = some (.int .i64 (l.getD (j - 1) 0)) := by
  have := trow_at (k := k) (j := j) (l := z :: l) (by simp; omega)
  rw [this]
  obtain ⟨i, rfl⟩ : ∃ i, j = i + 1 := ⟨j - 1, by omega⟩
  simp

set_option maxRecDepth 1000000 in
set_option maxHeartbeats 4000000 in
theorem l3Ways_any (B : Nat) (a : Option Addr) (n c : Nat) (ws : List Txt) (s : ByteArray) (w : World) (hB : B ≤ w.heap.size) (h : Wds B w a n c ws) (hasc : Asc ws) (hsh : ∀ x ∈ ws, x.length ≤ 12) (hn : n ≤ 40) (hs : s.size ≤ 60) :
    Calls Try.prog 44 #[.slice a n c, .string s] w fun en w' => en = .returned (.slice (some ⟨w.heap.size, 0, none⟩) (s.size + 1) (s.size + 1)) ∧ w'.ownsRow w.heap.size 3 1 (.slice (some ⟨w.heap.size, 0, none⟩) (s.size + 1) (s.size + 1)) (s.size + 1) ((telv sumT ws 1 (tx s)).map (Value.int .i64)) ∧ Below w.heap.size w w' := by
  have H := Lib.hid h
  have HB := Lib.hid hB
  have HAsc := Lib.hid hasc
  have cM := Lib.hid (fun (W : World) (k : Nat) (hW : Below w.heap.size w W) (hk : k ≤ s.size) => l3Matches_any w.heap.size a n c ws s k W hW.size (Strs.keep (Strs.mono h hB) hW) hasc hsh hn hs hk)
  clear h hB hasc hsh
  obtain ⟨i0, hii, hz0, hz1, hz2⟩ := info_parts infoI
  obtain ⟨nn, hnn⟩ : ∃ nn, s.size + 1 = nn := ⟨_, rfl⟩
  have hsn : ((s.size : Nat) : Int) + 1 = (nn : Int) := by omega
  have HSN := Lib.hid hsn
  have HNN := Lib.hid hnn
  rw [hnn]
  clear hsn
  go_enter Try.func44, Try.ntmps44
  go_wp2_with (first
    | (at_make; refine wpList_make_full _ rfl _ _ 44 rfl w.heap.size 3 i0 (.int .i64 0) 1 Try.underlying44 hii hz0 hz1 .i64 .i64 _ _ nn rfl rfl HSN.out HSN.out (by rw [hz2]; omega) (by unfold maxLen; omega) (Nat.le_refl _) ?_; intro w1 hown hgrow; have hown1 := made_zeroW hown; have HO1 := Lib.hid hown1; have HB1 : Hid (Below w.heap.size w w1) := Lib.hid ((Below.refl _ _).grown hgrow (Nat.le_refl _) (fun k e => by cases e)); have hs1 : w.heap.size < w1.heap.size := own_lt hown1; have hfz := hown1.frozenAt s.size; have hcz := (hown1.cellAt s.size (by omega)).trans (rep_atW (by omega)); clear hown hown1 hgrow))
  have htr : List.replicate nn (Value.int .i64 0) = trow nn [] := by simp [trow]
  have hst := (HO1.out.stored s.size (.int .i64 1))
  rw [htr, ← hnn, trow_set, hnn] at hst
  have HO2 : Hid ((w1.setCell ⟨w.heap.size, s.size, none⟩ (.int .i64 1)).ownsRow w.heap.size 3 1 (.slice (some ⟨w.heap.size, 0, none⟩) nn nn) nn (trow s.size (telv sumT ws 1 ((tx s).drop s.size)))) := Lib.hid (by
    have e0 : telv sumT ws 1 ((tx s).drop s.size) = [1] := by rw [← tx_len]; exact telv_end _
    rw [e0]; exact hst.1)
  have HB2 : Hid (Below w.heap.size w (w1.setCell ⟨w.heap.size, s.size, none⟩ (.int .i64 1))) := Lib.hid (HB1.out.grown hst.2 (by omega) (fun k e => by injection e with e; omega))
  clear hst htr hfz hcz HO1 HB1
  obtain ⟨W2, hW2⟩ : ∃ W2, w1.setCell ⟨w.heap.size, s.size, none⟩ (.int .i64 1) = W2 := ⟨_, rfl⟩
  rw [hW2] at HO2 HB2 ⊢
  clear hW2 hs1
  go_loopw [6] (fun p wr => ∃ k : Nat, k ≤ s.size ∧ p = .int .i64 ((k : Int) - 1) ∧ Hid (wr.ownsRow w.heap.size 3 1 (.slice (some ⟨w.heap.size, 0, none⟩) nn nn) nn (trow k (telv sumT ws 1 ((tx s).drop k)))) ∧ Hid (Below w.heap.size w wr)) (fun p _ => (intOf p + 1).toNat)
  case atStart => exact ⟨s.size, Nat.le_refl _, rfl, HO2, HB2⟩
  case round =>
    clear HO2 HB2
    obtain ⟨k, hk, rfl, HO, HBw⟩ := hrel
    cases k with
    | zero =>
      have hneg : ¬ ((0 : Int) ≤ ((0 : Nat) : Int) - 1) := by omega
      go_wp2
      go_ret
      have h9 := HO.out
      rw [List.drop_zero] at h9
      exact ⟨rfl, by simpa [trow] using h9, HBw.out⟩
    | succ k =>
      have e1 : ((k + 1 : Nat) : Int) - 1 = (k : Int) := by omega
      rw [e1]
      clear e1
      have hk0 : (0 : Int) ≤ (k : Int) := by omega
      have hk2 : (k : Int) < (nn : Int) := by have := HNN.out; omega
      have cM1 := Lib.hid (cM.out wr k HBw.out (by omega))
      have HStep : Hid (telv sumT ws 1 ((tx s).drop k) = sumT (Mt ws ((tx s).drop k)) (fun j => (telv sumT ws 1 ((tx s).drop (k + 1))).getD (j - 1) 0) :: telv sumT ws 1 ((tx s).drop (k + 1))) := Lib.hid (telv_step (tx s) (by rw [tx_len]; omega))
      have HIn : Hid (∀ j ∈ Mt ws ((tx s).drop k), 1 ≤ j ∧ k + j < nn) := Lib.hid (fun j hj => by
        have := mt_in hj
        rw [List.length_drop, tx_len] at this
        have := HNN.out
        omega)
      have HLen : Hid ((telv sumT ws 1 ((tx s).drop (k + 1))).length = s.size - k) := Lib.hid (by rw [telv_len, List.length_drop, tx_len]; omega)
      have hml : (Mt ws ((tx s).drop k)).length ≤ 1000 := by
        rw [mt_upTo HAsc.out]
        have h9 := upTo_len ws ((tx s).drop k) ((tx s).drop k).length
        rw [List.length_drop, tx_len] at h9
        rw [List.length_drop, tx_len]
        omega
      obtain ⟨l, hl⟩ : ∃ l, Mt ws ((tx s).drop k) = l := ⟨_, rfl⟩
      obtain ⟨L, hL⟩ : ∃ L, telv sumT ws 1 ((tx s).drop (k + 1)) = L := ⟨_, rfl⟩
      rw [hl] at cM1 HStep HIn hml
      rw [hL] at HStep HLen HO
      clear hl hL
      obtain ⟨m, hm⟩ : ∃ m, l.length = m := ⟨_, rfl⟩
      have HLm := Lib.hid hm
      rw [hm] at cM1 hml
      clear hm
      go_wp2_with fail
      refine cM1.out.mono ?_
      rintro e w4 ⟨v4, rfl, hO4, hb4⟩
      obtain ⟨a9, c9, rfl, hS9⟩ := own_nums hO4
      have C9 := hS9.cap
      have T9 := hS9.top
      have hne : (Value.slice a9 m c9).ownBlock ≠ some w.heap.size := fun e => by have := (own_ge hO4 e).1; have := own_lt HO.out; omega
      have HNe := Lib.hid hne
      have HL4 : Hid (w4.ownsRow w.heap.size 3 1 (.slice a9 m c9) m (nums l)) := Lib.hid (own_down hO4 HBw.out.size)
      have HO4 : Hid (w4.ownsRow w.heap.size 3 1 (.slice (some ⟨w.heap.size, 0, none⟩) nn nn) nn (trow k (sumT (l.take 0) (fun j => L.getD (j - 1) 0) :: L))) := Lib.hid (by
        have := own_stay HO.out hb4
        rw [trow_zero] at this
        exact this)
      have HB4 := Lib.hid (HBw.out.trans (hb4.mono HBw.out.size))
      clear hO4 hb4 hS9 hne HO HBw cM1
      go_wp2_with fail
      obtain ⟨wo, rfl⟩ : ∃ wo : World, wo = wr := ⟨_, rfl⟩
      go_loopw [8] (fun p wr => ∃ i : Nat, i ≤ m ∧ p = .int .i64 i ∧ Hid (wr.ownsRow w.heap.size 3 1 (.slice (some ⟨w.heap.size, 0, none⟩) nn nn) nn (trow k (sumT (l.take i) (fun j => L.getD (j - 1) 0) :: L))) ∧ Hid (wr.ownsRow w.heap.size 3 1 (.slice a9 m c9) m (nums l)) ∧ Hid (Below w.heap.size w wr)) (fun p _ => m - (intOf p).toNat)
      case atStart => exact ⟨0, Nat.zero_le _, rfl, HO4, HL4, HB4⟩
      case round =>
        clear HO4 HL4 HB4
        obtain ⟨i, hi, rfl, HO, HL, HBw⟩ := hrel
        by_cases hlt : i < m
        · obtain ⟨j, hj⟩ : ∃ j, l[i]? = some j := ⟨_, List.getElem?_eq_getElem (by rw [HLm.out]; exact hlt)⟩
          obtain ⟨b9, o9, e9, _, hc⟩ := (Sl.of_own HL.out).spot i _ (nums_at hj)
          subst e9
          have hij := HIn.out j (List.mem_of_getElem? hj)
          have HS := Lib.hid (sumT_succ (b := fun j => L.getD (j - 1) 0) hj)
          have hc1 : wr.cell? ⟨w.heap.size, k, none⟩ = some (.int .i64 (sumT (l.take i) (fun j => L.getD (j - 1) 0))) := (HO.out.cellAt k (by omega)).trans (trow_head _ _ _)
          have hc2 : wr.cell? ⟨w.heap.size, k + j, none⟩ = some (.int .i64 (L.getD (j - 1) 0)) := (HO.out.cellAt (k + j) (by omega)).trans (trow_behind hij.1 (by rw [HLen.out]; have := HNN.out; omega))
          have hfz := HO.out.frozenAt k
          obtain ⟨q, hq⟩ : ∃ q, sumT (l.take i) (fun j => L.getD (j - 1) 0) = q := ⟨_, rfl⟩
          obtain ⟨z, hz⟩ : ∃ z, L.getD (j - 1) 0 = z := ⟨_, rfl⟩
          obtain ⟨q2, hq2⟩ : ∃ q2, sumT (l.take (i + 1)) (fun j => L.getD (j - 1) 0) = q2 := ⟨_, rfl⟩
          have HQ2 := Lib.hid hq2
          have hsum : IntKind.i64.wrap (q + z) = q2 := by rw [IntWalk.i64_left, ← hq2, HS.out, hq, hz]
          have hkj : IntKind.i64.wrap ((k : Int) + (j : Int)) = (k : Int) + (j : Int) := IntWalk.i64_in _ (by omega)
          have hkj1 : (0 : Int) ≤ (k : Int) + (j : Int) := by omega
          have hkj2 : (k : Int) + (j : Int) < (nn : Int) := by omega
          have hkj3 : ((k : Int) + (j : Int)).toNat = k + j := by omega
          have hi0 : (0 : Int) ≤ (i : Int) := by omega
          have hi1 : (i : Int) < (m : Int) := by omega
          have HST := Lib.hid (HO.out.stored k (.int .i64 q2))
          rw [hq] at hc1 HST
          rw [hz] at hc2
          rw [trow_put] at HST
          clear hj hij hq hz hq2 HS
          go_wp2_with fail
          go_still_tail 17, (by kernel_rfl)
          go_wp2_with fail
          go_roundw
          case rel =>
            refine ⟨i + 1, by omega, by go_num, Lib.hid ?_, Lib.hid ?_, Lib.hid ?_⟩
            · rw [HQ2.out]
              exact HST.out.1.drew
            · exact (HL.out.kept HST.out.2 (.inr HNe.out)).drew
            · exact (HBw.out.grown HST.out.2 (by have := HBw.out.size; omega) (fun k e => by injection e with e; omega)).drew
          case measure => simp [intOf]; omega
        · have HF : Hid (trow k (sumT (l.take i) (fun j => L.getD (j - 1) 0) :: L) = trow k (telv sumT ws 1 ((tx s).drop k))) := Lib.hid (by
            rw [List.take_of_length_le (by rw [HLm.out]; omega), HStep.out])
          go_wp2_with fail
          go_roundw
          case rel => exact ⟨k, by omega, by first | rfl | go_num, Lib.hid (by rw [← HF.out]; exact HO.out), HBw⟩
          case measure => first | (simp [intOf]; done) | (simp [intOf]; omega)

end Go.Proofs.Ytknoafkgeaibpab
