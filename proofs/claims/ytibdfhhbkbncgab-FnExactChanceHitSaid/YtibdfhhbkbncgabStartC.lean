/-
  The chance that a random text begins with a text: the program.
-/
import Derived.Test.YtibdfhhbkbncgabSch
import Derived.Test.YtibdfhhbkbncgabFrP
import Derived.Test.YtibdfhhbkbncgabPut
import Derived.Test.YtibdfhhbkbncgabIter
import Derived.Deep.RegionHeld3
namespace Go.Proofs.Ytibdfhhbkbncgab
open Go.RowKit
set_option linter.unusedVariables false
set_option linter.unusedSimpArgs false

theorem pair_heap9 {W : World} {s : Nat} {a b a' b' : Value} {e : TypeId} (h : W.heap[s]? = some (.cells #[a, b] e)) :
    ((W.setCell ⟨s, 0, none⟩ a').setCell ⟨s, 1, none⟩ b').heap[s]? = some (.cells #[a', b'] e) := by
  simp [World.setCell, Array.getElem?_modify, h]
theorem pair_other9 {W : World} {s s' : Nat} {a' b' : Value} (h : s' ≠ s) : ((W.setCell ⟨s, 0, none⟩ a').setCell ⟨s, 1, none⟩ b').heap[s']? = W.heap[s']? := by
  rw [Below.heap_setCell _ _ _ _ (by exact h), Below.heap_setCell _ _ _ _ (by exact h)]

set_option maxRecDepth 1000000 in
set_option maxHeartbeats 2000000 in
theorem startChance_any (k : Nat) (s : ByteArray) (hk1 : 1 ≤ k) (hk : k ≤ 26) (hs : s.size ≤ 12) (hlow : Low (tx s)) (W : World) :
    Calls Try.prog 46 #[.string s, .int .i64 (k : Int)] W fun e w' => e = .returned (fv (sch k (tx s))) ∧ Below W.heap.size W w' := by
  have HB1 : Hid (Below W.heap.size W (W.alloc (.cells #[.int .i64 0, .int .i64 0] 56))) := Lib.hid ((Below.refl _ _).alloc (Nat.le_refl _) _)
  have HR1 := Lib.hid (heap_alloc_new W (.cells #[.int .i64 0, .int .i64 0] 56))
  have hz1 : W.heap.size < (W.alloc (.cells #[.int .i64 0, .int .i64 0] 56)).heap.size := by simp
  have cW := Lib.hid (fun W' => whole_any 1 W')
  have cZ := Lib.hid (fun W' => whole_any 0 W')
  have cD := Lib.hid (fun (j : Nat) (hj : j < 12) W' => dividedBy_any (1, k ^ j) k W' (by simp) (by have := pow_mul_bd hk hj; simp only; omega) (Nat.pow_pos (by omega)) (by omega))
  simp only [fra_one, fv_mk, ← Nat.pow_succ] at cW cZ cD
  obtain ⟨pw, HPw⟩ : ∃ pw : Nat → Nat, ∀ j, k ^ j = pw j := ⟨fun j => k ^ j, fun _ => rfl⟩
  have HP00 : Hid (pw 0 = 1) := Lib.hid (by rw [← HPw 0]; rfl)
  simp only [HPw] at cD
  have HLow := Lib.hid hlow
  obtain ⟨y, hy⟩ : ∃ y, sch k (tx s) = y := ⟨_, rfl⟩
  have HY1 : Hid (fst9 k (tx s) = true → y = (1, pw s.size)) := Lib.hid (fun h => by rw [← hy]; unfold sch; rw [if_pos h, tx_len, HPw])
  have HY0 : Hid (fst9 k (tx s) = false → y = (0, 1)) := Lib.hid (fun h => by rw [← hy]; unfold sch; rw [if_neg (by rw [h]; simp)])
  obtain ⟨y1, y2⟩ := y
  rw [hy]
  clear hy hlow HPw
  go_enter Try.func46, Try.ntmps46
  go_wp2_with fail
  obtain ⟨W1, hW1⟩ : ∃ W1, W.alloc (.cells #[.int .i64 0, .int .i64 0] 56) = W1 := ⟨_, rfl⟩
  rw [hW1] at HB1 HR1 hz1 ⊢
  clear hW1
  refine (cW.out _).mono ?_
  rintro e w2 ⟨rfl, hb2⟩
  have hE2 : W.heap.size < w2.heap.size := Nat.lt_of_lt_of_le hz1 hb2.size
  have HB2 := Lib.hid (HB1.out.trans (hb2.mono HB1.out.size))
  have HR2 := Lib.hid ((hb2.block _ hz1).trans HR1.out)
  have HE3 := Lib.hid (heap_alloc_new w2 (.cells #[.int .i64 1, .int .i64 1] 56))
  have HB3 : Hid (Below w2.heap.size w2 (w2.alloc (.cells #[.int .i64 1, .int .i64 1] 56))) := Lib.hid ((Below.refl _ _).alloc (Nat.le_refl _) _)
  have hz3 : (w2.alloc (.cells #[.int .i64 1, .int .i64 1] 56)).heap.size = w2.heap.size + 1 := by simp
  clear hb2
  go_wp2_with fail
  obtain ⟨W3, hW3⟩ : ∃ W3, w2.alloc (.cells #[.int .i64 1, .int .i64 1] 56) = W3 := ⟨_, rfl⟩
  rw [hW3] at HE3 HB3 hz3
  have HIt : Hid ((W3.iter s 0).heap[W3.heap.size]? = some (.stringIter s 0)) := Lib.hid (World.iter_heap W3 s 0)
  have HB4 : Hid (Below W3.heap.size W3 (W3.iter s 0)) := Lib.hid ((Below.refl _ _).alloc (Nat.le_refl _) (.stringIter s 0))
  obtain ⟨E, hE⟩ : ∃ E, w2.heap.size = E := ⟨_, rfl⟩
  rw [hz3] at HIt HB4
  rw [hE] at HE3 HB3 hz3 hE2 HIt HB4
  have HW3 := Lib.hid hW3
  have HEq := Lib.hid hE
  clear hW3 hE
  have A1 : Hid (Below W.heap.size W (W3.iter s 0)) := Lib.hid ((HB2.out.trans (HB3.out.mono (by omega))).trans (HB4.out.mono (by omega)))
  have A2 : Hid ((W3.iter s 0).heap[W.heap.size]? = some (.cells #[.int .i64 0, .int .i64 0] 56)) := Lib.hid ((HB4.out.block _ (by omega)).trans ((HB3.out.block _ hE2).trans HR2.out))
  have A3 : Hid ((W3.iter s 0).heap[E]? = some (.cells #[.int .i64 1, .int .i64 1] 56)) := Lib.hid ((HB4.out.block _ (by omega)).trans HE3.out)
  simp only [HW3.out, hz3, HEq.out]
  clear HW3 HEq HB2 HB1 HR1 HR2 HB3 HB4 hz1
  obtain ⟨W4, hW4⟩ : ∃ W4, W3.iter s 0 = W4 := ⟨_, rfl⟩
  rw [hW4] at A1 A2 A3 HIt ⊢
  clear hW4 HE3
  go_loopw [7] (fun p wr => ∃ (j : Nat), j ≤ s.size ∧ (∃ v : Value, p = v) ∧ Hid (fst9 k ((tx s).take j) = true) ∧ Hid (wr.heap[E + 1]? = some (.stringIter s j)) ∧ Hid (wr.heap[E]? = some (.cells #[.int .i64 1, .int .i64 (pw j : Int)] 56)) ∧ Hid (wr.heap[W.heap.size]? = some (.cells #[.int .i64 0, .int .i64 0] 56)) ∧ Hid (Below W.heap.size W wr)) (fun _ wr => s.size - wr.iterPos (E + 1))
  case atStart => exact ⟨0, Nat.zero_le _, ⟨_, rfl⟩, Lib.hid rfl, HIt, Lib.hid (by rw [HP00.out]; exact A3.out), A2, A1⟩
  case round =>
    obtain ⟨j, hj, ⟨v0, rfl⟩, HF, HI, HE, HR, HB⟩ := hrel
    have hpos0 : wr.iterPos (E + 1) = j := by simp [World.iterPos, HI.out]
    have HP0 := Lib.hid hpos0
    clear hpos0
    by_cases hlt : j < s.size
    · have hcx : (tx s)[j]? = some s[j] := by
        rw [List.getElem?_eq_getElem (by rw [tx_len]; exact hlt)]
        rfl
      have hlow := HLow.out s[j] (List.mem_of_getElem? hcx)
      have h128 : s[j].toNat < 128 := by omega
      have hnx := fun ty => Lib.run_next_ascii_at (P := Try.prog) wr (E + 1) s j ty HI.out hlt h128
      have HTk : Hid ((tx s).take (j + 1) = (tx s).take j ++ [s[j]]) := Lib.hid (by rw [List.take_succ_eq_append_getElem (by rw [tx_len]; exact hlt)]; rfl)
      have HNo : Hid (k + 97 ≤ s[j].toNat → fst9 k (tx s) = false) := Lib.hid (fst9_no hcx)
      have HYs : Hid (s[j].toNat < k + 97 → fst9 k ((tx s).take (j + 1)) = true) := Lib.hid (fun h => by rw [HTk.out, fst9_app, HF.out, fst9_one, decide_eq_true h]; rfl)
      obtain ⟨W1, hW1⟩ : ∃ W1, wr.iterAt (E + 1) s (j + 1) = W1 := ⟨_, rfl⟩
      have HI1 : Hid (W1.heap[E + 1]? = some (.stringIter s (j + 1))) := Lib.hid (by rw [← hW1]; exact Lib.iterAt_heap wr _ s j (j + 1) HI.out)
      have HE1 : Hid (W1.heap[E]? = some (.cells #[.int .i64 1, .int .i64 (pw j : Int)] 56)) := Lib.hid (by rw [← hW1]; exact (Lib.iterAt_other wr _ E s (j + 1) (by omega)).trans HE.out)
      have HR1 : Hid (W1.heap[W.heap.size]? = some (.cells #[.int .i64 0, .int .i64 0] 56)) := Lib.hid (by rw [← hW1]; exact (Lib.iterAt_other wr _ W.heap.size s (j + 1) (by omega)).trans HR.out)
      have HB1 : Hid (Below W.heap.size W W1) := Lib.hid (by rw [← hW1]; exact Lib.below_iterAt HB.out (by omega) s (j + 1))
      have hs1 : E + 1 < W1.heap.size := (Array.getElem?_eq_some_iff.1 HI1.out).1
      simp only [hW1] at hnx
      clear hW1 hcx
      obtain ⟨cn, hcn⟩ : ∃ cn : Nat, s[j].toNat = cn := ⟨_, rfl⟩
      rw [hcn] at hlow HNo HYs
      simp only [hcn] at hnx
      clear hcn h128
      have hc0 : (97 : Int) ≤ (cn : Int) := by omega
      have hc1 : (cn : Int) ≤ 122 := by omega
      obtain ⟨g1, g2, g3, g4⟩ := frozen_new2 HR1.out
      obtain ⟨e1, e2, e3, e4⟩ := frozen_new2 HE1.out
      by_cases hck : k + 97 ≤ cn
      · have hd : decide ((k : Int) ≤ (cn : Int) - 97) = true := decide_eq_true (by omega)
        have hd2 : (k : Int) ≤ (cn : Int) - 97 := by omega
        have HYe := Lib.hid (HY0.out (HNo.out hck))
        go_wp2_with fail
        refine (cZ.out _).mono ?_
        rintro e w6 ⟨rfl, hb6⟩
        have HR6 := (hb6.block _ (by omega)).trans HR1.out
        have HB6 := Lib.hid (HB1.out.trans (hb6.mono (by omega)))
        obtain ⟨f1, f2, f3, f4⟩ := frozen_new2 HR6
        have hE9 := pair_set (a' := .int .i64 0) (b' := .int .i64 1) HR6
        have hB9 := pair_below (v1 := .int .i64 0) (v2 := .int .i64 1) HB6.out (Nat.le_refl W.heap.size)
        have HE9 := Lib.hid hE9
        have HB9 := Lib.hid hB9
        clear hE9 hB9 hb6 g1 g2 g3 g4 e1 e2 e3 e4
        go_wp2_with fail
        generalize ((w6.setCell ⟨W.heap.size, 0, none⟩ (.int .i64 0)).setCell ⟨W.heap.size, 1, none⟩ (.int .i64 1)) = W9 at *
        obtain ⟨hc0, hc1⟩ := HE9.out
        exact bodyPost_ret (v := fv (0, 1)) (by simp [results, Try.results46, go_sem, hc0, hc1, fv]) rfl ⟨by rw [HYe.out], HB9.out⟩
      · have hd : decide ((k : Int) ≤ (cn : Int) - 97) = false := decide_eq_false (by omega)
        have hd2 : ¬ (k : Int) ≤ (cn : Int) - 97 := by omega
        have HFn := Lib.hid (HYs.out (by omega))
        have cD1 := Lib.hid (cD.out j (by omega))
        clear g1 g2 g3 g4 e3 e4
        go_wp2_with fail
        refine (cD1.out _).mono ?_
        rintro e w6 ⟨rfl, hb6⟩
        have HR6 := (hb6.block _ (by omega)).trans HR1.out
        have HE6 := (hb6.block _ (by omega)).trans HE1.out
        have HI6 := (hb6.block _ hs1).trans HI1.out
        have HB6 := Lib.hid (HB1.out.trans (hb6.mono (by omega)))
        obtain ⟨f1, f2, f3, f4⟩ := frozen_new2 HE6
        have hWh := Lib.hid (pair_heap9 (a' := .int .i64 1) (b' := .int .i64 (pw (j + 1) : Int)) HE6)
        have hWr := Lib.hid ((pair_other9 (a' := .int .i64 1) (b' := .int .i64 (pw (j + 1) : Int)) (W := w6) (s := E) (s' := W.heap.size) (by omega)).trans HR6)
        have hWi := Lib.hid ((pair_other9 (a' := .int .i64 1) (b' := .int .i64 (pw (j + 1) : Int)) (W := w6) (s := E) (s' := E + 1) (by omega)).trans HI6)
        have hWb := Lib.hid (pair_below (v1 := .int .i64 1) (v2 := .int .i64 (pw (j + 1) : Int)) HB6.out (Nat.le_of_lt hE2))
        clear hb6 e1 e2 HR6 HE6 HI6
        go_wp2_with fail
        obtain ⟨w7, hw7⟩ : ∃ w7, (w6.setCell ⟨E, 0, none⟩ (.int .i64 1)).setCell ⟨E, 1, none⟩ (.int .i64 (pw (j + 1) : Int)) = w7 := ⟨_, rfl⟩
        rw [hw7] at hWh hWr hWi hWb ⊢
        clear hw7
        go_roundw
        case rel => exact ⟨j + 1, by omega, ⟨_, rfl⟩, HFn, hWi, hWh, hWr, hWb⟩
        case measure =>
          have e1 : w7.iterPos (E + 1) = j + 1 := by simp [World.iterPos, hWi.out]
          rw [HP0.out, e1]
          omega
    · have hnx := fun ty => Lib.run_next_end_at (P := Try.prog) wr (E + 1) s j ty HI.out hlt
      have hjs : j = s.size := by omega
      have HYe : Hid ((y1, y2) = (1, pw j)) := Lib.hid (by rw [hjs]; exact HY1.out (by have := HF.out; rwa [List.take_of_length_le (by rw [tx_len]; omega)] at this))
      obtain ⟨g1, g2, g3, g4⟩ := frozen_new2 HR.out
      obtain ⟨e1, e2, e3, e4⟩ := frozen_new2 HE.out
      have hE9 := pair_set (a' := .int .i64 1) (b' := .int .i64 (pw j : Int)) HR.out
      have hB9 := pair_below (v1 := .int .i64 1) (v2 := .int .i64 (pw j : Int)) HB.out (Nat.le_refl W.heap.size)
      have HE9 := Lib.hid hE9
      have HB9 := Lib.hid hB9
      clear hE9 hB9 hjs
      rename World => wq
      go_wp2_with fail
      generalize ((wq.setCell ⟨W.heap.size, 0, none⟩ (.int .i64 1)).setCell ⟨W.heap.size, 1, none⟩ (.int .i64 (pw j : Int))) = W9 at *
      obtain ⟨hc0, hc1⟩ := HE9.out
      exact bodyPost_ret (v := fv (1, pw j)) (by simp [results, Try.results46, go_sem, hc0, hc1, fv]) rfl ⟨by rw [HYe.out], HB9.out⟩

end Go.Proofs.Ytibdfhhbkbncgab
