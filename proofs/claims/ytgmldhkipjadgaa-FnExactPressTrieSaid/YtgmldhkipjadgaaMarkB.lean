/-
  The laws' marks on a pressed tree: what they leave.
-/
import Derived.Test.YtgmldhkipjadgaaMarkTx
import Derived.Test.YtgmldhkipjadgaaEqP
import Derived.Test.YtgmldhkipjadgaaWords
import Derived.RangeFuncBox
namespace Go.Proofs.Ytgmldhkipjadgaa
open Go.RowKit
set_option linter.unusedVariables false

/-- the mark of a branch -/
def mkb (m : Nat) : Br := ⟨tx (mt m), (m : Int) + 1, ((m : Int) + 1 + 1) % 3 == 0⟩
def marksB (k n : Nat) : List Br := (List.range n).map fun i => mkb (k + 3 * i)
theorem marksB_len (k n : Nat) : (marksB k n).length = n := by simp [marksB]
theorem marksB_at {k n i : Nat} (h : i < n) : (marksB k n)[i]? = some (mkb (k + 3 * i)) := by simp [marksB, h]

def markedB (t : List Br) (k j : Nat) : List Br := marksB k j ++ t.drop j
theorem markedB_zero (t : List Br) (k : Nat) : markedB t k 0 = t := by simp [markedB, marksB]
theorem markedB_len {t : List Br} {k j : Nat} (h : j ≤ t.length) : (markedB t k j).length = t.length := by simp [markedB, marksB]; omega
theorem markedB_succ {t : List Br} {k j : Nat} (h : j < t.length) : (markedB t k j).set j (mkb (k + 3 * j)) = markedB t k (j + 1) := by
  unfold markedB
  rw [List.set_append_right _ _ (by simp [marksB])]
  have e : j - (marksB k j).length = 0 := by simp [marksB]
  rw [e, List.drop_eq_getElem_cons h, List.set_cons_zero]
  unfold marksB
  rw [List.range_succ]
  simp
theorem markedB_all {t : List Br} {k n : Nat} (h : t.length = n) : markedB t k n = marksB k n := by
  unfold markedB
  rw [List.drop_eq_nil_of_le (by omega), List.append_nil]

set_option maxRecDepth 1000000 in
set_option maxHeartbeats 1000000 in
theorem markBranches_own (base g n c k0 : Nat) (t : List Br) (w : World) (h : w.ownsRow base 76 3 (.slice (some ⟨g, 0, none⟩) n c) n (brc t)) (hbase : base ≤ w.heap.size) (hn : n ≤ 1048576) (hk : k0 ≤ 10) :
    Calls Try.prog 47 #[.slice (some ⟨g, 0, none⟩) n c, .int .i64 (k0 : Int)] w fun e w' => e = .returned (.int .i64 ((k0 + 3 * n : Nat) : Int)) ∧ w.grownBy w' (some g) ∧ w'.ownsRow base 76 3 (.slice (some ⟨g, 0, none⟩) n c) n (brc (marksB k0 n)) := by
  have HB := own_base h
  have HO0 := Lib.hid h
  have hln : t.length = n := by have := h.1; rw [brc_len] at this; omega
  have HLN := Lib.hid hln
  clear h hln
  go_enter Try.func47, Try.ntmps47
  go_wp2
  go_loopw [1, 5] (fun q i wr => ∃ (j m : Nat), j ≤ n ∧ i = .int .i64 j ∧ q = .int .i64 m ∧ Hid (m = k0 + 3 * j) ∧ m ≤ 10 + 3 * j ∧ Hid (wr.ownsRow base 76 3 (.slice (some ⟨g, 0, none⟩) n c) n (brc (markedB t k0 j))) ∧ Hid (w.grownBy wr (some g))) (fun _ i _ => n - (intOf i).toNat)
  case atStart => exact ⟨0, k0, Nat.zero_le _, rfl, rfl, Lib.hid (by omega), by omega, Lib.hid (by rw [markedB_zero]; exact HO0.out), Lib.hid (World.grownBy.refl _ _)⟩
  case round =>
    obtain ⟨j, m, hj, rfl, rfl, HM, hm, HO, HBw⟩ := hrel
    by_cases hlt : j < n
    · have HUL : Hid ((markedB t k0 j).length = n) := Lib.hid (by rw [markedB_len (by rw [HLN.out]; exact hj), HLN.out])
      have cM := Lib.hid (markText_any m wr (by omega))
      obtain ⟨bb, hbb⟩ : ∃ bb, (((m : Int) + 1 + 1) % 3 == 0) = bb := ⟨_, rfl⟩
      have HBB := Lib.hid hbb
      obtain ⟨sm, hsm⟩ : ∃ sm, mt m = sm := ⟨_, rfl⟩
      rw [hsm] at cM
      have HSM := Lib.hid hsm
      clear hsm
      go_wp2_with (go_at_call 78; refine cM.out.mono ?_; rintro e1 w1 ⟨rfl, hb1⟩; have HO1 := Lib.hid (own_stay HO.out hb1); have HG1 := Lib.hid (HBw.out.trans (grown_of_below hb1)); clear hb1; have hO := HO1.out; obtain ⟨d, hd⟩ : ∃ d, (markedB t k0 j)[j]? = some d := ⟨_, List.getElem?_eq_getElem (by rw [HUL.out]; exact hlt)⟩; obtain ⟨e1, e2, e3⟩ := brc_at hd; have hf := hO.frozenAt (j * 3); have hf1 := hO.frozenAt (j * 3 + 1); have hf2 := hO.frozenAt (j * 3 + 2); have hx := hO.cellAt (j * 3) (by omega); have hx1 := hO.cellAt (j * 3 + 1) (by omega); have hx2 := hO.cellAt (j * 3 + 2) (by omega); rw [e1] at hx; rw [e2] at hx1; rw [e3] at hx2; clear hO hd e1 e2 e3)
      have hs := (((((HO1.out.stored (j * 3) (.string sm)).1.stored (j * 3 + 1) (.int .i64 ((m : Int) + 1))).1).stored (j * 3 + 2) (.bool bb)).1)
      rw [brc_set _ _ _ (by rw [HUL.out]; exact hlt)] at hs
      have hmk : (⟨tx sm, (m : Int) + 1, bb⟩ : Br) = mkb (k0 + 3 * j) := by rw [← HM.out, ← HBB.out, ← HSM.out]; rfl
      rw [hmk, markedB_succ (by rw [HLN.out]; exact hlt)] at hs
      have HS := Lib.hid hs
      clear hs hmk
      go_roundw
      case rel => exact ⟨j + 1, m + 3, by omega, by go_num, by first | rfl | (congr 1; omega), Lib.hid (by rw [HM.out]; omega), by omega, HS, Lib.hid (grown_set (grown_set (grown_set HG1.out _) _) _)⟩
      case measure => simp [intOf]; omega
    · have HF : Hid (m = k0 + 3 * n) := Lib.hid (by rw [HM.out]; omega)
      have HOF : Hid (wr.ownsRow base 76 3 (.slice (some ⟨g, 0, none⟩) n c) n (brc (marksB k0 n))) := Lib.hid (by
        have := HO.out
        have e : j = n := by omega
        rwa [e, markedB_all HLN.out] at this)
      go_wp2
      go_ret
      exact ⟨ret_num (by rw [HF.out]), HBw.out, HOF.out⟩

set_option maxRecDepth 1000000 in
theorem markPressed_own (base g n c k0 : Nat) (t : List Br) (w : World) (h : w.ownsRow base 76 3 (.slice (some ⟨g, 0, none⟩) n c) n (brc t)) (hbase : base ≤ w.heap.size) (hn : n ≤ 1048576) (hk : k0 ≤ 10) :
    Calls Try.prog 20 #[.agg #[.slice (some ⟨g, 0, none⟩) n c], .int .i64 (k0 : Int)] w fun e w' => e = .returned (.int .i64 ((k0 + 3 * n : Nat) : Int)) ∧ w.grownBy w' (some g) := by
  have cN := Lib.hid (markBranches_own base g n c k0 t (w.alloc (.cells #[.slice (some ⟨g, 0, none⟩) n c] 29)) (h.alloc _) (by simp; omega) hn hk)
  clear h
  go_enter Try.func20, Try.ntmps20
  go_wp2_with fail
  refine cN.out.mono ?_
  rintro e w2 ⟨rfl, hb2, hO2⟩
  go_wp2_with fail
  go_ret
  exact ⟨rfl, (World.grownBy_alloc w _ _).trans hb2⟩

end Go.Proofs.Ytgmldhkipjadgaa
