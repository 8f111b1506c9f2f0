/-
  The substrings of a text that are wanted, gathered, sorted and told once: the program's walk, with one of its functions.
-/
import Derived.Test.YtmgieahachphmaaPartsA
namespace Go.Proofs.Ytmgieahachphmaa.pwParts
open Go.RowKit
set_option linter.unusedVariables false

set_option maxRecDepth 1000000 in
set_option maxHeartbeats 2000000 in
theorem partsWhere_any (s : ByteArray) (p : Txt → Bool) (w : World) (ht : okT s = true)
    (cc : ∀ (W : World) (t : ByteArray), Below w.heap.size w W → tx t ∈ prt (tx s) → Calls Try.prog 92 #[.string t] W fun e W' => e = .returned (.bool (p (tx t))) ∧ Below W.heap.size W W') :
    Calls Try.prog 91 #[.string s, .func (.func 92) #[] #[]] w fun e w' => ∃ v, e = .returned v ∧ w'.ownsRow w.heap.size 9 1 v ((prt (tx s)).filter p).length (txs ((prt (tx s)).filter p)) ∧ Below w.heap.size w w' := by
  have h16 := okT_size ht
  have HTx := Lib.hid ht
  have HCc := Lib.hid cc
  clear cc
  obtain ⟨i0, hi, hz0, hz1, hz2⟩ := info_parts infoS
  obtain ⟨n, hn⟩ : ∃ n, s.size = n := ⟨_, rfl⟩
  have HNN := Lib.hid hn
  have hnn : n ≤ 16 := by omega
  have cE := Lib.hid (fun W => endsByPlace_any s W ht)
  have hown0 := World.ownsRow_lit (base := w.heap.size) (e := 9) (size := 1) w #[] 0 (Nat.le_refl _) (by unfold maxLen; omega) rfl
  have HO0 := Lib.hid hown0
  have HBl : Hid (Below w.heap.size w (w.alloc (.cells #[] 9))) := Lib.hid ((Below.refl _ _).alloc (Nat.le_refl _) _)
  have hszl : (w.alloc (.cells #[] 9)).heap.size = w.heap.size + 1 := by simp
  have HSzl := Lib.hid hszl
  rw [hn] at cE
  clear ht hn hown0 hszl
  go_enter Try.func91, Try.ntmps91
  go_wp2_with fail
  refine (cE.out _).mono ?_
  rintro e w2 ⟨rfl, hO2, hb2⟩
  rw [HSzl.out] at hO2
  simp only [HSzl.out]
  have HE2 : Hid (w2.ownsRow w.heap.size 9 1 (.slice (some ⟨w.heap.size + 1, 0, none⟩) n n) n (txs (endsL (tx s)))) := Lib.hid (own_down hO2 (by omega))
  have hz2w : w.heap.size + 1 < w2.heap.size := own_lt hO2
  have HB2 : Hid (Below w.heap.size w w2) := Lib.hid (HBl.out.trans (hb2.mono HBl.out.size))
  have HO2 : Hid (w2.ownsRow w.heap.size 9 1 (.slice (some ⟨w.heap.size, 0, none⟩) 0 0) 0 []) := Lib.hid (own_stay HO0.out hb2)
  clear hO2 hb2 HO0
  go_wp2_with fail
  go_loopw [5, 14] (fun o i wr => ∃ (k m g c : Nat), k ≤ n ∧ i = .int .i64 k ∧ o = .slice (some ⟨g, 0, none⟩) m c ∧ (g = w.heap.size ∨ w2.heap.size ≤ g) ∧ Hid (((strs (tx s) k).filter p).length = m) ∧ Hid (wr.ownsRow w.heap.size 9 1 (.slice (some ⟨g, 0, none⟩) m c) m (txs ((strs (tx s) k).filter p))) ∧ Hid (wr.ownsRow w.heap.size 9 1 (.slice (some ⟨w.heap.size + 1, 0, none⟩) n n) n (txs (endsL (tx s)))) ∧ Hid (Below w.heap.size w wr) ∧ w2.heap.size ≤ wr.heap.size) (fun _ i _ => n - (intOf i).toNat)
  case atStart => exact ⟨0, 0, w.heap.size, 0, Nat.zero_le _, rfl, rfl, .inl rfl, Lib.hid rfl, HO2, HE2, HB2, Nat.le_refl _⟩
  case round =>
    clear HO2 HE2 HB2
    obtain ⟨k, m, g, c, hk, rfl, rfl, hg, HM, HO, HE, HB, hzr⟩ := hrel
    by_cases hlt : k < n
    · have HS : Hid (strs (tx s) (k + 1) = strs (tx s) k ++ begs1 ((tx s).drop k) (n - k)) := Lib.hid (by rw [← HNN.out, ← tx_len]; rfl)
      have HStart : Hid (strs (tx s) k ++ begs1 ((tx s).drop k) 0 = strs (tx s) k) := Lib.hid (by rw [begs1_zero, List.append_nil])
      have hc0 := (HE.out.cellAt k (by omega)).trans (txs_at (endsL_get (tx s) k (by rw [tx_len, HNN.out]; exact hlt)))
      obtain ⟨u, hu⟩ : ∃ u, bx ((tx s).drop k) = u := ⟨_, rfl⟩
      rw [hu] at hc0
      have HU : Hid (tx u = (tx s).drop k) := Lib.hid (by rw [← hu, tx_bx])
      have hus : u.size = n - k := by rw [← tx_len, HU.out, List.length_drop, tx_len, HNN.out]
      obtain ⟨n1, hn1⟩ : ∃ n1, u.size = n1 := ⟨_, rfl⟩
      have HN1 := Lib.hid hn1
      have hn1' : n1 = n - k := by omega
      have hn1b : n1 ≤ 16 := by omega
      have HN1' := Lib.hid hn1'
      have HUl : Hid (∀ j (h : j < u.size), u[j].toNat < 128) := Lib.hid (fun j h => by
        have h1 : (tx u)[j]? = some u[j] := by rw [List.getElem?_eq_getElem (by rw [tx_len]; exact h)]; rfl
        rw [HU.out, List.getElem?_drop] at h1
        have h2 := (okT_iff.1 HTx.out).2 u[j] (List.mem_of_getElem? h1)
        omega)
      clear hu hus hn1 hn1'
      rename World => wo
      have hio0 : wo.heap.size < (wo.alloc (.stringIter u 0)).heap.size := by simp
      go_wp2_with fail
      go_loopw [5] (fun o wr => ∃ (j m g c : Nat), j ≤ n1 ∧ o = .slice (some ⟨g, 0, none⟩) m c ∧ (g = w.heap.size ∨ w2.heap.size ≤ g) ∧ Hid (((strs (tx s) k ++ begs1 ((tx s).drop k) j).filter p).length = m) ∧ Hid (wr.ownsRow w.heap.size 9 1 (.slice (some ⟨g, 0, none⟩) m c) m (txs ((strs (tx s) k ++ begs1 ((tx s).drop k) j).filter p))) ∧ Hid (wr.ownsRow w.heap.size 9 1 (.slice (some ⟨w.heap.size + 1, 0, none⟩) n n) n (txs (endsL (tx s)))) ∧ Hid (wr.heap[wo.heap.size]? = some (.stringIter u j)) ∧ Hid (Below w.heap.size w wr)) (fun _ wr => n1 - wr.iterPos wo.heap.size)
      case atStart => exact ⟨0, m, g, c, Nat.zero_le _, rfl, hg, Lib.hid (by rw [HStart.out]; exact HM.out), Lib.hid (by rw [HStart.out]; exact HO.out.alloc _), Lib.hid (HE.out.alloc _), Lib.hid (World.iter_heap wo u 0), Lib.hid (HB.out.alloc (by omega) _)⟩
      case round =>
        clear HM HO HE HB hc0 hg
        obtain ⟨j, m, g, c, hj, rfl, hg, HM, HO, HE, HIt, HB⟩ := hrel
        have HP0 : Hid (wr.iterPos wo.heap.size = j) := Lib.hid (by simp [World.iterPos, HIt.out])
        have hsI := (Array.getElem?_eq_some_iff.1 HIt.out).1
        by_cases hlt2 : j < n1
        · have hlt' : j < u.size := by have := HN1.out; omega
          have hl := HUl.out j hlt'
          have hnx := fun ty => Lib.run_next_ascii_at (P := Try.prog) wr wo.heap.size u j ty HIt.out hlt' hl
          obtain ⟨W1, hW1⟩ : ∃ W1, wr.iterAt wo.heap.size u (j + 1) = W1 := ⟨_, rfl⟩
          have HI1 : Hid (W1.heap[wo.heap.size]? = some (.stringIter u (j + 1))) := Lib.hid (by rw [← hW1]; exact Lib.iterAt_heap wr _ u j (j + 1) HIt.out)
          have HB1 : Hid (Below w.heap.size w W1) := Lib.hid (by rw [← hW1]; exact Lib.below_iterAt HB.out (by omega) u (j + 1))
          have HO1 : Hid (W1.ownsRow w.heap.size 9 1 (.slice (some ⟨g, 0, none⟩) m c) m (txs ((strs (tx s) k ++ begs1 ((tx s).drop k) j).filter p))) := Lib.hid (by rw [← hW1]; exact own_iterAt HO.out HIt.out)
          have HE1 : Hid (W1.ownsRow w.heap.size 9 1 (.slice (some ⟨w.heap.size + 1, 0, none⟩) n n) n (txs (endsL (tx s)))) := Lib.hid (by rw [← hW1]; exact own_iterAt HE.out HIt.out)
          simp only [hW1] at hnx
          clear hW1 hl
          have hI1z := (Array.getElem?_eq_some_iff.1 HI1.out).1
          obtain ⟨t, htt⟩ : ∃ t, u.extract 0 (j + 1) = t := ⟨_, rfl⟩
          have HT : Hid (tx t = ((tx s).drop k).take (j + 1)) := Lib.hid (by rw [← htt, tx_sub, List.drop_zero, Nat.sub_zero, HU.out])
          have HTT := Lib.hid htt
          have hin : tx t ∈ prt (tx s) := by
            unfold prt stretches
            rw [mem_puts, mem_strs]
            have := HN1'.out
            exact ⟨k, j, by rw [tx_len, HNN.out]; exact hlt, by rw [tx_len, HNN.out]; omega, HT.out⟩
          have cC := HCc.out W1 t HB1.out hin
          obtain ⟨b, hb⟩ : ∃ b, p (tx t) = b := ⟨_, rfl⟩
          have HPb := Lib.hid hb
          rw [hb] at cC
          have CC := Lib.hid cC
          have hmb : m ≤ 1000 := by
            have h1 := HM.out
            have h2 := List.length_filter_le p (strs (tx s) k ++ begs1 ((tx s).drop k) j)
            rw [List.length_append, begs1_len] at h2
            have h3 := strs_len (tx s) k
            rw [tx_len, HNN.out] at h3
            have : k * n ≤ 16 * 16 := Nat.mul_le_mul (by omega) hnn
            omega
          have hj0 : (0 : Int) ≤ (j : Int) + 1 := by omega
          have hj1 : (j : Int) + 1 ≤ (u.size : Int) := by omega
          clear hin hb cC htt
          cases b
          · have HN : Hid ((strs (tx s) k ++ begs1 ((tx s).drop k) (j + 1)).filter p = (strs (tx s) k ++ begs1 ((tx s).drop k) j).filter p) := Lib.hid (by
              have hq := HPb.out
              rw [HT.out] at hq
              rw [begs1_succ, ← List.append_assoc, List.filter_append, List.filter_cons_of_neg (by rw [hq]; simp), List.filter_nil, List.append_nil])
            go_wp2_with (first
              | (go_at_call 92; rw [HTT.out]; refine CC.out.mono ?_; rintro e w4 ⟨rfl, hb4⟩))
            go_roundw
            case rel => exact ⟨j + 1, m, g, c, by omega, rfl, hg, Lib.hid (by rw [HN.out]; exact HM.out), Lib.hid (by rw [HN.out]; exact own_stay HO1.out hb4), Lib.hid (own_stay HE1.out hb4), Lib.hid ((hb4.block _ hI1z).trans HI1.out), Lib.hid (HB1.out.trans (hb4.mono HB1.out.size))⟩
            case measure =>
              have e1 : w4.iterPos wo.heap.size = j + 1 := by
                have := (hb4.block _ hI1z).trans HI1.out
                simp [World.iterPos, this]
              rw [HP0.out, e1]
              omega
          · have HN : Hid ((strs (tx s) k ++ begs1 ((tx s).drop k) (j + 1)).filter p = (strs (tx s) k ++ begs1 ((tx s).drop k) j).filter p ++ [tx t]) := Lib.hid (by
              have hq := HPb.out
              rw [HT.out] at hq
              rw [begs1_succ, ← List.append_assoc, List.filter_append, List.filter_cons_of_pos hq, List.filter_nil, HT.out])
            go_wp2_with (first
              | (go_at_call 92; rw [HTT.out]; refine CC.out.mono ?_; rintro e w4 ⟨rfl, hb4⟩; have HB4 := Lib.hid (HB1.out.trans (hb4.mono HB1.out.size)); have HO4 := Lib.hid (own_stay HO1.out hb4); have HE4 := Lib.hid (own_stay HE1.out hb4); have HI4 := Lib.hid ((hb4.block _ hI1z).trans HI1.out); clear hb4)
              | (at_builtin; refine wpList_append_own_at _ rfl _ _ 22 rfl w.heap.size 9 i0 (.string ByteArray.empty) 1 16 Try.underlying22 hi hz0 hz1 hz2 rfl (by decide) _ _ _ rfl (HO4.out.alloc _) ⟨w4.heap.size, 0, none⟩ 1 1 [.string t] rfl rfl (by rw [← HTT.out]; exact cell_one_new _ _ _) (by simp [Value.oneCell']) (by unfold maxLen; omega) (by omega) (by simp; have := HB4.out.size; omega) ?_; intro v' w5 hown' hgrow _ hat; obtain ⟨g', cap', rfl⟩ := own_succ hown'; have HO5 := Lib.hid hown'; have HG5 : Hid ((w4.alloc (.cells #[.string t] 9)).grownBy w5 (some g)) := Lib.hid hgrow; have HAt : Hid ((some g' : Option Nat) = some g ∨ some g' = some (w4.alloc (.cells #[.string t] 9)).heap.size) := Lib.hid hat; clear hown' hgrow hat))
            have hz4 : w.heap.size ≤ w4.heap.size := HB4.out.size
            have hz4b : w2.heap.size ≤ w4.heap.size := by have h1 := HI4.out; have h2 := (Array.getElem?_eq_some_iff.1 h1).1; omega
            have hI4z := (Array.getElem?_eq_some_iff.1 HI4.out).1
            have hne1 : some wo.heap.size ≠ (Value.slice (some ⟨g, 0, none⟩) m c).ownBlock := own_iter HO4.out HI4.out
            have HI5 : Hid (w5.heap[wo.heap.size]? = some (.stringIter u (j + 1))) := Lib.hid ((HG5.out.block _ (by simp; omega) hne1).trans ((Below.heap_alloc _ _ _ hI4z).trans HI4.out))
            have HE5 : Hid (w5.ownsRow w.heap.size 9 1 (.slice (some ⟨w.heap.size + 1, 0, none⟩) n n) n (txs (endsL (tx s)))) := Lib.hid ((HE4.out.alloc _).kept HG5.out (.inr (by simp only [Value.ownBlock]; intro e; injection e with e; omega)))
            have hag : g' = w.heap.size ∨ w2.heap.size ≤ g' := by
              rcases HAt.out with h | h
              · injection h with h; omega
              · injection h with h; rw [World.size_alloc] at h; have := HB4.out.size; have := hz4b; omega
            have HB5 : Hid (Below w.heap.size w w5) := Lib.hid ((HB4.out.alloc hz4 _).trans (below_grown (HO4.out.alloc _) (by omega) (by simp; omega) HG5.out))
            go_wp2
            go_roundw
            case rel => exact ⟨j + 1, m + 1, g', cap', by omega, rfl, hag, Lib.hid (by rw [HN.out, List.length_append, HM.out]; rfl), Lib.hid (by rw [HN.out, txs_app]; have := HO5.out; simpa [txs, bx_tx] using this), HE5, HI5, HB5⟩
            case measure =>
              have e1 : w5.iterPos wo.heap.size = j + 1 := by simp [World.iterPos, HI5.out]
              rw [HP0.out, e1]
              omega
        · have e : j = n1 := by omega
          have hnx := fun ty => Lib.run_next_end_at (P := Try.prog) wr wo.heap.size u j ty HIt.out (by have := HN1.out; omega)
          have HEq : Hid (strs (tx s) (k + 1) = strs (tx s) k ++ begs1 ((tx s).drop k) j) := Lib.hid (by rw [HS.out, e, HN1'.out])
          clear e
          go_wp2_with fail
          go_roundw
          case rel => exact ⟨k + 1, m, g, c, by omega, by go_num, rfl, hg, Lib.hid (by rw [HEq.out]; exact HM.out), Lib.hid (by rw [HEq.out]; exact HO.out), HE, HB, by omega⟩
          case measure => simp [intOf]; omega
    · have e : k = n := by omega
      have HAll : Hid (strs (tx s) k = stretches (tx s)) := Lib.hid (by unfold stretches; rw [tx_len, HNN.out, e])
      clear e
      have hmb : m ≤ 1000 := by
        have h1 := HM.out
        have h2 := List.length_filter_le p (strs (tx s) k)
        have h3 := strs_len (tx s) k
        rw [tx_len, HNN.out] at h3
        have : k * n ≤ 16 * 16 := Nat.mul_le_mul (by omega) hnn
        omega
      have cS := Lib.hid (sort_own HO.out (by omega))
      go_wp2_with fail
      refine cS.out.mono ?_
      rintro e w5 ⟨rfl, hO5, hg5⟩
      have cC := Lib.hid (compact_own hO5 (by omega))
      have HG5 := Lib.hid hg5
      have HO5 := Lib.hid hO5
      clear hO5 hg5
      go_wp2_with fail
      refine cC.out.mono ?_
      rintro e w6 ⟨rfl, hO6, hg6⟩
      have HO6 := Lib.hid hO6
      have HG6 := Lib.hid hg6
      clear hO6 hg6
      go_wp2
      go_ret
      have HFin := compact_prt (tx s) p
      rw [← HAll.out] at HFin
      have hB := HB.out.size
      exact ⟨_, rfl, by rw [← HFin]; exact HO6.out, (HB.out.trans (below_grown HO.out (by omega) hB HG5.out)).trans (below_grown HO5.out (by omega) (by have := HG5.out.size; omega) HG6.out)⟩

end Go.Proofs.Ytmgieahachphmaa.pwParts
