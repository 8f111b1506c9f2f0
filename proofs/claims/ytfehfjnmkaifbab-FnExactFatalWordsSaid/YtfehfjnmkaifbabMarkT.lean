/-
  The laws' marks on a trie.
-/
import Derived.Test.YtfehfjnmkaifbabEq
namespace Go.Proofs.Ytfehfjnmkaifbab
open Go.RowKit
set_option linter.unusedVariables false

theorem grown_set {a w : World} {g k : Nat} (h : a.grownBy w (some g)) (u : Value) : a.grownBy (w.setCell ⟨g, k, none⟩ u) (some g) :=
  ⟨h.os, h.tape, h.output, by simpa [World.setCell] using h.size, fun i hi hne => (Below.heap_setCell w ⟨g, k, none⟩ u i (by intro e; exact hne (by rw [e]))).trans (h.block i hi hne)⟩

theorem grown_below {a w : World} {g B : Nat} (h : a.grownBy w (some g)) (hB : B ≤ a.heap.size) (hg : B ≤ g) : Below B a w :=
  (Below.refl B a).grown h hB (fun k e => by injection e with e; omega)

set_option maxHeartbeats 1000000 in
theorem markNodeS_any (base g n c k0 : Nat) (t : List Nd) (w : World) (h : w.ownsRow base 66 3 (.slice (some ⟨g, 0, none⟩) n c) n (ndc t)) (hbase : base ≤ w.heap.size) (hn : n ≤ 1048576) (hk : k0 ≤ 10) :
    Calls Try.prog 44 #[.slice (some ⟨g, 0, none⟩) n c, .int .i64 (k0 : Int)] w fun e w' => e = .returned (.int .i64 ((k0 + 3 * n : Nat) : Int)) ∧ w.grownBy w' (some g) := by
  have HB := own_base h
  have HO0 := Lib.hid h
  have hln : t.length = n := by have := h.1; rw [ndc_len] at this; omega
  have HLN := Lib.hid hln
  clear h hln
  go_enter Try.func44, Try.ntmps44
  go_wp2
  go_loopw [1, 5] (fun q i wr => ∃ (j m : Nat), j ≤ n ∧ i = .int .i64 j ∧ q = .int .i64 m ∧ Hid (m = k0 + 3 * j) ∧ m ≤ 10 + 3 * j ∧ Hid (∃ u : List Nd, u.length = n ∧ wr.ownsRow base 66 3 (.slice (some ⟨g, 0, none⟩) n c) n (ndc u)) ∧ Hid (w.grownBy wr (some g))) (fun _ i _ => n - (intOf i).toNat)
  case atStart => exact ⟨0, k0, Nat.zero_le _, rfl, rfl, Lib.hid (by omega), by omega, Lib.hid ⟨t, HLN.out, HO0.out⟩, Lib.hid (World.grownBy.refl _ _)⟩
  case round =>
    obtain ⟨j, m, hj, rfl, rfl, HM, hm, HU, HBw⟩ := hrel
    by_cases hlt : j < n
    · obtain ⟨u, hul, hO⟩ := HU.out
      have HUL := Lib.hid hul
      have HO := Lib.hid hO
      obtain ⟨d, hd⟩ : ∃ d, u[j]? = some d := ⟨_, List.getElem?_eq_getElem (by omega)⟩
      obtain ⟨e1, e2, e3⟩ := ndc_at hd
      have hf := hO.frozenAt (j * 3)
      have hf1 := hO.frozenAt (j * 3 + 1)
      have hf2 := hO.frozenAt (j * 3 + 2)
      have hx := hO.cellAt (j * 3) (by omega)
      have hx1 := hO.cellAt (j * 3 + 1) (by omega)
      have hx2 := hO.cellAt (j * 3 + 2) (by omega)
      rw [e1] at hx
      rw [e2] at hx1
      rw [e3] at hx2
      clear hul hO hd e1 e2 e3
      obtain ⟨bb, hbb⟩ : ∃ bb, (((m : Int) + 1 + 1) % 3 == 0) = bb := ⟨_, rfl⟩
      have hs := (((((HO.out.stored (j * 3) (.int .i64 (m : Int))).1.stored (j * 3 + 1) (.int .i64 ((m : Int) + 1))).1).stored (j * 3 + 2) (.bool bb)).1)
      rw [ndc_set _ _ _ (by rw [HUL.out]; exact hlt)] at hs
      have HS := Lib.hid hs
      clear hs
      go_wp2
      go_roundw
      case rel => exact ⟨j + 1, m + 3, by omega, by go_num, by first | rfl | (congr 1; omega), Lib.hid (by rw [HM.out]; omega), by omega, Lib.hid ⟨_, by rw [List.length_set]; exact HUL.out, HS.out⟩, Lib.hid (grown_set (grown_set (grown_set HBw.out _) _) _)⟩
      case measure => simp [intOf]; omega
    · have HF : Hid (m = k0 + 3 * n) := Lib.hid (by rw [HM.out]; omega)
      go_wp2
      go_ret
      exact ⟨ret_num (by rw [HF.out]), HBw.out⟩

theorem markTrie_any (base g n c k0 : Nat) (t : List Nd) (w : World) (h : w.ownsRow base 66 3 (.slice (some ⟨g, 0, none⟩) n c) n (ndc t)) (hbase : base ≤ w.heap.size) (hn : n ≤ 1048576) (hk : k0 ≤ 10) :
    Calls Try.prog 17 #[.agg #[.slice (some ⟨g, 0, none⟩) n c], .int .i64 (k0 : Int)] w fun e w' => e = .returned (.int .i64 ((k0 + 3 * n : Nat) : Int)) ∧ w.grownBy w' (some g) := by
  have cN := Lib.hid (markNodeS_any base g n c k0 t (w.alloc (.cells #[.slice (some ⟨g, 0, none⟩) n c] 30)) (h.alloc _) (by simp; omega) hn hk)
  clear h
  go_enter Try.func17, Try.ntmps17
  go_wp2_with fail
  refine cN.out.mono ?_
  rintro e w2 ⟨rfl, hb2⟩
  go_wp2_with fail
  go_ret
  exact ⟨rfl, hb2.os, hb2.tape, hb2.output, Nat.le_trans (by simp) hb2.size, fun i hi hne => (hb2.block i (by simp; omega) hne).trans (Below.heap_alloc w _ i hi)⟩

end Go.Proofs.Ytfehfjnmkaifbab
