/-
  The laws' own helpers on lists of numbers, and both functions' kids of a node.
-/
import Derived.Test.YthjafoacnfgjhabNumsB
import Derived.Test.YthjafoacnfgjhabIntM
namespace Go.Proofs.Ythjafoacnfgjhab
open Go.RowKit
set_option linter.unusedVariables false

set_option maxHeartbeats 1000000 in
theorem eqIntS_same (B : Nat) (a1 a2 : Option Addr) (m c d : Nat) (l : List Nat) (w : World) (hB : B ≤ w.heap.size) (h1 : Sl B w a1 m c (nums l)) (h2 : Sl B w a2 m d (nums l)) :
    Calls Try.prog 17 #[.slice a1 m c, .slice a2 m d] w fun e w' => e = .returned (.bool true) ∧ Below w.heap.size w w' := by
  have L1 := Lib.hid h1.len
  have C1 := h1.cap
  have C2 := h2.cap
  have T1 := h1.top
  have T2 := h2.top
  have H1 := Lib.hid h1
  have H2 := Lib.hid h2
  clear h1 h2
  have hne : ((m : Int) != (m : Int)) = false := by simp
  go_enter Try.func17, Try.ntmps17
  go_wp2
  go_loopw [5] (fun i wr => ∃ k : Nat, k ≤ m ∧ i = .int .i64 k ∧ Hid (Below w.heap.size w wr)) (fun i _ => m - (intOf i).toNat)
  case atStart => exact ⟨0, Nat.zero_le _, rfl, Lib.hid (Below.refl _ _)⟩
  case round =>
    obtain ⟨k, hk, rfl, hb⟩ := hrel
    by_cases hlt : k < m
    · obtain ⟨j, hj⟩ : ∃ j, l[k]? = some j := ⟨_, List.getElem?_eq_getElem (by have := L1.out; rw [nums_len] at this; omega)⟩
      obtain ⟨b, o, rfl, _, hc⟩ := (H1.out.keep (hb.out.mono hB)).spot k _ (nums_at hj)
      obtain ⟨b', o', rfl, _, hc'⟩ := (H2.out.keep (hb.out.mono hB)).spot k _ (nums_at hj)
      clear hj
      have hi0 : (0 : Int) ≤ (k : Int) := by omega
      have hi1 : (k : Int) < (m : Int) := by omega
      have hq : ((j : Int) != (j : Int)) = false := by simp
      go_wp2
      go_quiet (fail)
      go_wp2
      go_roundw
      case rel => exact ⟨k + 1, by omega, by go_num, Lib.hid (below_drewN hb.out _)⟩
      case measure => simp [intOf]; omega
    · go_wp2
      go_ret
      exact ⟨rfl, hb.out⟩

set_option maxHeartbeats 1000000 in
theorem markIntS_some (base g m c k0 : Nat) (l : List Nat) (w : World) (h : w.ownsRow base 3 1 (.slice (some ⟨g, 0, none⟩) m c) m (nums l)) (hbase : base ≤ w.heap.size) (hm : m ≤ 100000) (hk : k0 ≤ 10) :
    Calls Try.prog 18 #[.slice (some ⟨g, 0, none⟩) m c, .int .i64 (k0 : Int)] w fun e w' => e = .returned (.int .i64 ((k0 + m : Nat) : Int)) ∧
      w'.ownsRow base 3 1 (.slice (some ⟨g, 0, none⟩) m c) m (nums (mnums k0 m)) ∧ Below base w w' := by
  have L : Hid ((nums l).length = m) := Lib.hid (by have := h.1; simpa using this)
  have HB := own_base h
  have HO0 := Lib.hid h
  clear h
  go_enter Try.func18, Try.ntmps18
  go_wp2
  go_loopw [1, 5] (fun q i wr => ∃ j : Nat, j ≤ m ∧ i = .int .i64 j ∧ q = .int .i64 ((k0 + j : Nat) : Int) ∧ Hid (wr.ownsRow base 3 1 (.slice (some ⟨g, 0, none⟩) m c) m (mkd (nums l) k0 j)) ∧ Hid (Below base w wr)) (fun _ i _ => m - (intOf i).toNat)
  case atStart => exact ⟨0, Nat.zero_le _, rfl, rfl, Lib.hid (by simpa [mkd, mnums, nums] using HO0.out), Lib.hid (Below.refl _ _)⟩
  case round =>
    obtain ⟨j, hj, rfl, rfl, HO, hb⟩ := hrel
    by_cases hlt : j < m
    · obtain ⟨i9, hi9⟩ : ∃ i9, l[j]? = some i9 := ⟨_, List.getElem?_eq_getElem (by have := L.out; rw [nums_len] at this; omega)⟩
      have hf := HO.out.frozenAt j
      have hd := HO.out.cellAt j (by omega)
      have hv : (mkd (nums l) k0 j)[j]? = some (.int .i64 (i9 : Int)) := by rw [mkd_at (by rw [L.out]; exact hlt), ← List.getElem?_eq_getElem, nums_at hi9]
      rw [hv] at hd
      have HS := Lib.hid ((HO.out.stored j (.int .i64 ((k0 + j : Nat) : Int))).1)
      have HS2 : Hid ((wr.setCell ⟨g, j, none⟩ (.int .i64 ((k0 + j : Nat) : Int))).ownsRow base 3 1 (.slice (some ⟨g, 0, none⟩) m c) m (mkd (nums l) k0 (j + 1))) := Lib.hid (by have := HS.out; rwa [mkd_succ (by rw [L.out]; exact hlt)] at this)
      clear hv hi9 HS
      obtain ⟨kk, hkk⟩ : ∃ kk : Int, ((k0 + j : Nat) : Int) = kk := ⟨_, rfl⟩
      have HK := Lib.hid hkk
      have hkb : 0 ≤ kk ∧ kk ≤ 1000000 := by omega
      rw [hkk] at HS2 ⊢
      clear hkk
      go_wp2
      go_roundw
      case rel => exact ⟨j + 1, by omega, by go_num, by rw [← HK.out]; go_num, HS2, Lib.hid (hb.out.setCell HB _)⟩
      case measure => simp [intOf]; omega
    · have e : j = m := by omega
      subst e
      have HF : Hid (wr.ownsRow base 3 1 (.slice (some ⟨g, 0, none⟩) j c) j (nums (mnums k0 j))) := Lib.hid (by have := HO.out; rw [mkd, List.drop_eq_nil_of_le (by rw [L.out]; exact Nat.le_refl _), List.append_nil] at this; exact this)
      go_wp2
      go_ret
      exact ⟨rfl, HF.out, hb.out⟩

set_option maxHeartbeats 1000000 in
theorem heldIntS_any (B k0 m c : Nat) (a : Option Addr) (w : World) (h : Sl B w a m c (nums (mnums k0 m))) (hm : m ≤ 100000) (hk : k0 ≤ 10) :
    Calls Try.prog 25 #[.slice a m c, .int .i64 (k0 : Int)] w fun e w' => e = .returned (.int .i64 ((k0 + m : Nat) : Int)) ∧ w = w' := by
  have C := h.cap
  have T := h.top
  have H := Lib.hid h
  clear h
  go_enter Try.func25, Try.ntmps25
  go_wp2
  go_loop [1, 5] (fun q i => ∃ j : Nat, j ≤ m ∧ i = .int .i64 j ∧ q = .int .i64 ((k0 + j : Nat) : Int)) (fun _ i => m - (intOf i).toNat)
  case atStart => exact ⟨0, Nat.zero_le _, rfl, rfl⟩
  case round =>
    obtain ⟨j, hj, rfl, rfl⟩ := hrel
    by_cases hlt : j < m
    · obtain ⟨b, o, rfl, _, hc⟩ := H.out.spot j _ (nums_at (mnums_at hlt))
      obtain ⟨kk, hkk⟩ : ∃ kk : Int, ((k0 + j : Nat) : Int) = kk := ⟨_, rfl⟩
      have HK := Lib.hid hkk
      have hkb : 0 ≤ kk ∧ kk ≤ 1000000 := by omega
      rw [hkk] at hc ⊢
      clear hkk
      have hq : (kk != kk) = false := by simp
      go_wp2
      go_round
      case rel => exact ⟨j + 1, by omega, by go_num, by rw [← HK.out]; go_num⟩
      case measure => simp [intOf]; omega
    · have e : j = m := by omega
      subst e
      go_wp2
      go_ret
      exact ⟨rfl, rfl⟩

end Go.Proofs.Ythjafoacnfgjhab
