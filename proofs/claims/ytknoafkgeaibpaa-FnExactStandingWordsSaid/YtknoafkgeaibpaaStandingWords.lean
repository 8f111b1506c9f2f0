/-
  All words that stand in a passage: what the program answers; both answer the same.
-/
import Derived.Test.YtknoafkgeaibpaaStand
import Derived.Test.YtknoafkgeaibpaaMatchesOf
import Derived.Test.YtknoafkgeaibpaaGv
import Derived.StillTailTactics
namespace Go.Proofs.Ytknoafkgeaibpaa.cap
open Go.RowKit
set_option linter.unusedVariables false

set_option maxRecDepth 1000000 in
set_option maxHeartbeats 4000000 in
theorem implStand (t : List Nd) (n c : Nat) (s : ByteArray) (hn : n ≤ 1048576) (hs : s.size ≤ 9223372036854775807) (mm : Nat) (xs : List Nat) (ok : Bool) (hf : StandFacts t s mm xs ok) (W : World) (a : Option Addr) (hN : Nds W.heap.size W a n c t) :
    Calls Try.prog 21 #[.agg #[.slice a n c], .string s] W (ownP.OwnPairs W mm xs ok) := by
  have G1 := Lib.hid (Gv.start hN)
  have hbx := G1.out.box
  have cT := Lib.hid (fun W w a (G : Gv W w a n c t) => isTrie_any W.heap.size a n c t w G.bel.size G.nds)
  have cP := Lib.hid (fun w => isPassage_any s w hs)
  have HOk := Lib.hid hf.okEq
  have HY := Lib.hid hf.yes
  have HNo := Lib.hid hf.no
  obtain ⟨q1, hq1⟩ : ∃ q1, trieB t = q1 := ⟨_, rfl⟩
  obtain ⟨q2, hq2⟩ : ∃ q2, okP s = q2 := ⟨_, rfl⟩
  have HQ := Lib.hid hq1
  have HQ2 := Lib.hid hq2
  rw [hq1] at cT HOk
  rw [hq2] at cP HOk
  clear hq1 hq2 hN hf
  cases q1 with
  | false =>
    go_enter Try.func21, Try.ntmps21
    go_wp2_with (first
      | (go_at_call 39; refine (cT.out _ _ _ G1.out).mono ?_; rintro e w2 ⟨rfl, hb2⟩; have G2 := Lib.hid (G1.out.on hb2); clear hb2))
    go_ret2
    obtain ⟨e1, e2⟩ := HNo.out HOk.out
    exact ⟨_, by rw [HOk.out]; rfl, by rw [e1, e2]; exact World.ownsRow_nil _ _ _ _, G2.out.bel⟩
  | true =>
    cases q2 with
    | false =>
      go_enter Try.func21, Try.ntmps21
      go_wp2_with (first
        | (go_at_call 39; refine (cT.out _ _ _ G1.out).mono ?_; rintro e w2 ⟨rfl, hb2⟩; have G2 := Lib.hid (G1.out.on hb2); clear hb2)
        | (go_at_call 40; refine (cP.out _).mono ?_; rintro e w3 ⟨rfl, hb3⟩; have G3 := Lib.hid (G2.out.on hb3); clear hb3))
      go_ret2
      obtain ⟨e1, e2⟩ := HNo.out HOk.out
      exact ⟨_, by rw [HOk.out]; rfl, by rw [e1, e2]; exact World.ownsRow_nil _ _ _ _, G3.out.bel⟩
    | true =>
      obtain ⟨ps, hv⟩ := trieB_iff.1 HQ.out
      have hs60 := (okP_iff.1 HQ2.out).1
      have HLow := Lib.hid (okP_iff.1 HQ2.out).2
      have HXs := Lib.hid (HY.out HOk.out)
      have hm40 := wordsOf_size t
      have cM : Hid (∀ (r : ByteArray) (W' : World), Gv W W' a n c t → Low (tx r) → r.size ≤ 100 → _) := Lib.hid (fun r W' (G : Gv W W' a n c t) h1 h2 => matchesOf_any W.heap.size a n c t ps r W' G.bel.size G.nds hv h1 h2)
      rw [← wordsOf_eq hv] at cM
      clear hv HY HNo
      obtain ⟨ws, hws⟩ : ∃ ws, wordsOf t = ws := ⟨_, rfl⟩
      rw [hws] at cM hm40 HXs
      clear hws
      have HStn : Hid (∀ k, k ≤ 60 → stn ws (tx s) k ≤ 2400) := Lib.hid (fun k hk => by have := stn_le (x := tx s) hm40 k; omega)
      clear hm40
      obtain ⟨i0, hii, hz0, hz1, hz2⟩ := info_parts infoP2
      go_enter Try.func21, Try.ntmps21
      go_wp2_with fail
      refine (cT.out _ _ _ G1.out).mono ?_
      rintro e w2 ⟨rfl, hb2⟩
      have G2 := Lib.hid (G1.out.on hb2)
      have hbx2 := G2.out.box
      clear hb2 hbx
      go_wp2_with fail
      refine (cP.out _).mono ?_
      rintro e w3 ⟨rfl, hb3⟩
      have G3 := Lib.hid (G2.out.on hb3)
      have hb03 : W.heap.size + 1 ≤ w3.heap.size := G3.out.lt
      clear hb3 hbx2
      have HO4 : Hid (((w3.alloc (.cells #[] 64)).alloc (.stringIter s 0)).ownsRow (W.heap.size + 1) 64 2 (.slice (some ⟨w3.heap.size, 0, none⟩) 0 0) 0 (nums (stf ws (tx s) 0))) := Lib.hid ((World.ownsRow_lit w3 #[] 0 hb03 (by unfold maxLen; omega) rfl).alloc _)
      have G4 : Hid (Gv W ((w3.alloc (.cells #[] 64)).alloc (.stringIter s 0)) a n c t) := Lib.hid ((G3.out.on ((Below.refl _ _).alloc (Nat.le_refl _) _)).on ((Below.refl _ _).alloc (Nat.le_refl _) _))
      have HI4 : Hid (((w3.alloc (.cells #[] 64)).alloc (.stringIter s 0)).heap[w3.heap.size + 1]? = some (.stringIter s 0)) := Lib.hid (by have := World.iter_heap (w3.alloc (.cells #[] 64)) s 0; rw [World.size_alloc] at this; exact this)
      go_wp2_with fail
      go_loopw [6] (fun o wr => ∃ (k m : Nat) (v : Value), k ≤ s.size ∧ v = o ∧ Hid (stn ws (tx s) k = m) ∧ Hid (wr.ownsRow (W.heap.size + 1) 64 2 v m (nums (stf ws (tx s) k))) ∧ Hid (v.ownBlock ≠ some (w3.heap.size + 1)) ∧ Hid (wr.heap[w3.heap.size + 1]? = some (.stringIter s k)) ∧ Hid (Gv W wr a n c t)) (fun _ wr => s.size - wr.iterPos (w3.heap.size + 1))
      case atStart => exact ⟨0, 0, _, Nat.zero_le _, rfl, Lib.hid rfl, HO4, Lib.hid (by simp [Value.ownBlock]), HI4, G4⟩
      case round =>
        clear HO4 HI4 G4
        obtain ⟨k, m, v, hk, rfl, HM, HO, HOb, HIt, G⟩ := hrel
        have hpos0 : wr.iterPos (w3.heap.size + 1) = k := by simp [World.iterPos, HIt.out]
        have HP0 := Lib.hid hpos0
        clear hpos0
        by_cases hlt : k < s.size
        · have hlow := HLow.out s[k] (by
            have : s[k] = (tx s)[k]'(by rw [tx_len]; exact hlt) := rfl
            rw [this]; exact List.getElem_mem _)
          have h128 : s[k].toNat < 128 := by omega
          have hnx := fun ty => Lib.run_next_ascii_at (P := Try.prog) wr (w3.heap.size + 1) s k ty HIt.out hlt h128
          obtain ⟨cn, hcn⟩ : ∃ cn : Int, (s[k].toNat : Int) = cn := ⟨_, rfl⟩
          simp only [hcn] at hnx
          clear hcn hlow h128
          obtain ⟨W1, hW1⟩ : ∃ W1, wr.iterAt (w3.heap.size + 1) s (k + 1) = W1 := ⟨_, rfl⟩
          have HI1 : Hid (W1.heap[w3.heap.size + 1]? = some (.stringIter s (k + 1))) := Lib.hid (by rw [← hW1]; exact Lib.iterAt_heap wr _ s k (k + 1) HIt.out)
          have G1' : Hid (Gv W W1 a n c t) := Lib.hid (by rw [← hW1]; exact G.out.on2 (Lib.below_iterAt (Below.refl _ _) (by omega) s (k + 1)))
          have HO1 : Hid (W1.ownsRow (W.heap.size + 1) 64 2 v m (nums (stf ws (tx s) k))) := Lib.hid (by rw [← hW1]; exact own_iterAt HO.out HIt.out)
          simp only [hW1] at hnx
          clear hW1
          have hs1 : w3.heap.size + 1 < W1.heap.size := (Array.getElem?_eq_some_iff.1 HI1.out).1
          have hbx1 := G1'.out.box
          have hm2 : stn ws (tx s) (k + 1) = m + (Mt ws ((tx s).drop k)).length := by rw [stn, HM.out]
          have hmb : m + (Mt ws ((tx s).drop k)).length ≤ 2400 := by rw [← hm2]; exact HStn.out _ (by omega)
          have HM2 := Lib.hid hm2
          have HF2 : Hid (stf ws (tx s) (k + 1) = stf ws (tx s) k ++ prs k (Mt ws ((tx s).drop k))) := Lib.hid rfl
          have HE : Hid (tx (s.extract k s.size) = (tx s).drop k) := Lib.hid (by rw [tx_ext, List.take_of_length_le (by rw [List.length_drop, tx_len]; exact Nat.le_refl _)])
          have hk0 : (0 : Int) ≤ (k : Int) := by omega
          have hk1 : (k : Int) ≤ (s.size : Int) := by omega
          have cM1 : Hid (∀ W', Gv W W' a n c t → _) := Lib.hid (fun W' (G : Gv W W' a n c t) => cM.out (s.extract k s.size) W' G (by rw [HE.out]; exact fun c hc => HLow.out c (List.mem_of_mem_drop hc)) (by rw [ByteArray.size_extract]; omega))
          rw [HE.out] at cM1
          clear hm2
          obtain ⟨l, hl⟩ : ∃ l, Mt ws ((tx s).drop k) = l := ⟨_, rfl⟩
          rw [hl] at cM1 hmb HM2 HF2
          clear hl
          obtain ⟨ml, hmll⟩ : ∃ ml, l.length = ml := ⟨_, rfl⟩
          have HMl := Lib.hid hmll
          rw [hmll] at cM1 hmb HM2
          obtain ⟨xs0, hxs0⟩ : ∃ xs0, stf ws (tx s) k = xs0 := ⟨_, rfl⟩
          rw [hxs0] at HO1 HF2
          clear hmll hxs0
          have Gd := Lib.hid (G1'.out.on (Below.refl _ _).drew)
          go_wp2_with fail
          go_region_held3 (fun w' => w'.cell? ⟨W.heap.size, 0, none⟩ = some (.slice a n c))
            (first
              | exact hbx1
              | exact (hb7.cell (p := ⟨W.heap.size, 0, none⟩) Gd.out.lt).trans Gd.out.box)
            (first
              | (go_at_call 44; refine (cM1.out _ (by exact Gd.out)).mono ?_; rintro e w7 ⟨v7, rfl, hO7, hb7⟩; obtain ⟨a9, c9, rfl, hS9⟩ := own_nums hO7; have C9 := hS9.cap; have T9 := hS9.top; clear hS9))
          have Q7 : Hid (OX (W.heap.size + 1) w7 64 2 v m (nums (xs0 ++ prs k (l.take 0))) 3 (.slice a9 ml c9) ml (nums l)) := Lib.hid (by
            have := OX.later HO1.out.drew hb7 hO7
            simpa [prs] using this)
          have HI7 : Hid (w7.heap[w3.heap.size + 1]? = some (.stringIter s (k + 1))) := Lib.hid ((hb7.block _ (by first | exact hs1 | simpa using hs1)).trans (by first | exact HI1.out | simpa using HI1.out))
          have G7 := Lib.hid (Gd.out.on hb7)
          clear hO7 hb7 hbx1 Gd G1' G cM1 HO1 HI1 HO
          go_wp2_with fail
          obtain ⟨wo, rfl⟩ : ∃ wo : World, wo = wr := ⟨_, rfl⟩
          go_loopw [6, 30] (fun o p wr => ∃ (i : Nat) (v2 : Value), i ≤ ml ∧ v2 = o ∧ p = .int .i64 i ∧ Hid (OX (W.heap.size + 1) wr 64 2 v2 (m + i) (nums (xs0 ++ prs k (l.take i))) 3 (.slice a9 ml c9) ml (nums l)) ∧ Hid (v2.ownBlock ≠ some (w3.heap.size + 1)) ∧ Hid (wr.heap[w3.heap.size + 1]? = some (.stringIter s (k + 1))) ∧ Hid (Gv W wr a n c t)) (fun _ p _ => ml - (intOf p).toNat)
          case atStart => exact ⟨0, _, Nat.zero_le _, rfl, rfl, Q7, HOb, HI7, G7⟩
          case round =>
            clear Q7 HI7 G7
            obtain ⟨i, v2, hi, rfl, rfl, Q, HOb2, HI, G⟩ := hrel
            have hbase : W.heap.size + 1 ≤ wr.heap.size := G.out.lt
            have hs2 : w3.heap.size + 1 < wr.heap.size := (Array.getElem?_eq_some_iff.1 HI.out).1
            by_cases hlt2 : i < ml
            · obtain ⟨j, hj⟩ : ∃ j, l[i]? = some j := ⟨_, List.getElem?_eq_getElem (by rw [HMl.out]; exact hlt2)⟩
              obtain ⟨b9, o9, e9, _, hc⟩ := (Sl.of_own Q.out.ext).spot i _ (nums_at hj)
              subst e9
              have HP : Hid (nums (xs0 ++ prs k (l.take (i + 1))) = nums (xs0 ++ prs k (l.take i)) ++ [.int .i64 (k : Int), .int .i64 (j : Int)]) := Lib.hid (by rw [prs_succ hj, ← List.append_assoc, nums_app]; rfl)
              have hi0 : (0 : Int) ≤ (i : Int) := by omega
              have hi1 : (i : Int) < (ml : Int) := by omega
              clear hj
              go_wp2_with (first
                | (at_builtin; refine wpList_append_own_at _ rfl _ _ 41 rfl (W.heap.size + 1) 64 i0 (.agg #[.int .i64 0, .int .i64 0]) 2 16 Try.underlying41 hii hz0 hz1 hz2 rfl (by decide) _ _ _ rfl (Q.out.out.alloc _) ⟨wr.heap.size, 0, none⟩ 1 1 [.int .i64 (k : Int), .int .i64 (j : Int)] rfl rfl (news_at (cs := #[.int .i64 (k : Int), .int .i64 (j : Int)]) rfl) (by simp [Value.oneCell']) (by unfold maxLen; omega) (by omega) (by simp; omega) ?_; intro v3 w5 hO3 hG3 _ hat; have Q5 := Lib.hid (Q.out.app (m2 := m + (i + 1)) (xs2 := nums (xs0 ++ prs k (l.take (i + 1)))) (by rw [HP.out]; exact hO3) hG3 hat); have G5 := Lib.hid (G.out.on2 (Q.out.below hbase hG3)); have HI5 : Hid (w5.heap[w3.heap.size + 1]? = some (.stringIter s (k + 1))) := Lib.hid ((hG3.block _ (by simp; omega) (fun e => HOb2.out e.symm)).trans ((heap_alloc_old _ _ _ (by omega)).trans HI.out)); have HOb5 : Hid (v3.ownBlock ≠ some (w3.heap.size + 1)) := Lib.hid (by rcases hat with h | h; (rw [h]; exact HOb2.out); (rw [h]; simp; omega)); clear hO3 hG3 hat))
              go_roundw
              case rel => exact ⟨i + 1, _, by omega, rfl, by go_num, Q5, HOb5, HI5, G5⟩
              case measure => simp [intOf]; omega
            · have e : i = ml := by omega
              have HF : Hid (xs0 ++ prs k (l.take i) = stf ws (tx s) (k + 1)) := Lib.hid (by rw [HF2.out, List.take_of_length_le (by rw [HMl.out]; omega)])
              subst e
              go_wp2_with fail
              go_roundw
              case rel => exact ⟨k + 1, m + i, _, by omega, rfl, HM2, Lib.hid (by rw [← HF.out]; exact Q.out.out), HOb2, HI, G⟩
              case measure =>
                have e1 : wr.iterPos (w3.heap.size + 1) = k + 1 := by simp [World.iterPos, HI.out]
                rw [HP0.out, e1]
                omega
        · have e : k = s.size := by omega
          have hnx := fun ty => Lib.run_next_end_at (P := Try.prog) wr (w3.heap.size + 1) s k ty HIt.out hlt
          obtain ⟨e1, e2⟩ := HXs.out
          have HF1 : Hid (mm = m) := Lib.hid (by rw [e1, ← HM.out, e])
          have HF2 : Hid (xs = stf ws (tx s) k) := Lib.hid (by rw [e2, e])
          clear e e1 e2
          go_wp2_with fail
          go_ret2
          exact ⟨_, by rw [HOk.out]; rfl, by rw [HF1.out, HF2.out]; exact own_down HO.out (by omega), G.out.bel⟩

theorem agreeStandingWords (t : List Nd) (n c : Nat) (s : ByteArray) (hn : n ≤ 1048576) (hs : s.size ≤ 1048576) : ∃ (m : Nat) (xs : List Nat) (ok : Bool), m ≤ 10000 ∧ StandFacts t s m xs ok ∧
    (∀ W a, Nds W.heap.size W a n c t → Calls Try.prog 20 #[.agg #[.slice a n c], .string s] W (ownP.OwnPairs W m xs ok)) ∧
    (∀ W a, Nds W.heap.size W a n c t → Calls Try.prog 21 #[.agg #[.slice a n c], .string s] W (ownP.OwnPairs W m xs ok)) := by
  have hs2 : s.size ≤ 9223372036854775807 := by omega
  obtain ⟨ok, hok⟩ : ∃ ok, (trieB t && okP s) = ok := ⟨_, rfl⟩
  have hx : ∃ (m : Nat) (xs : List Nat), m ≤ 10000 ∧ StandFacts t s m xs ok := by
    cases ok with
    | false => exact ⟨0, [], by omega, hok.symm, (fun h => by cases h), fun _ => ⟨rfl, rfl⟩⟩
    | true =>
      refine ⟨_, _, ?_, hok.symm, fun _ => ⟨rfl, rfl⟩, (fun h => by cases h)⟩
      rw [Bool.and_eq_true] at hok
      have h1 := (okP_iff.1 hok.2).1
      have := stn_le (x := tx s) (wordsOf_size t) s.size
      omega
  obtain ⟨m, xs, hm, hf⟩ := hx
  exact ⟨m, xs, ok, hm, hf, fun W a hN => specStand t n c s hn hs2 m xs ok hf W a hN, fun W a hN => implStand t n c s hn hs2 m xs ok hf W a hN⟩

end Go.Proofs.Ytknoafkgeaibpaa.cap
