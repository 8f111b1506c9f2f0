/-
  The laws' own helpers on lists of numbers, and both functions' kids of a node.
-/
import Derived.Test.YtjcaikfejgeknaaKidsWalk
import Derived.Test.YtjcaikfejgeknaaPrefixOf
namespace Go.Proofs.Ytjcaikfejgeknaa
open Go.RowKit
set_option linter.unusedVariables false

theorem nums_len (l : List Nat) : (nums l).length = l.length := by simp [nums]
theorem nums_at {l : List Nat} {k j : Nat} (h : l[k]? = some j) : (nums l)[k]? = some (.int .i64 (j : Int)) := by simp [nums, h]
theorem nums_one (l : List Nat) : ∀ u ∈ nums l, u.oneCell' = true := by
  intro u hu
  unfold nums at hu
  obtain ⟨j, _, rfl⟩ := List.mem_map.1 hu
  rfl

theorem own_nums {base : Nat} {w : World} {m : Nat} {v : Value} {xs : List Value} (h : w.ownsRow base 3 1 v m xs) : ∃ a c, v = .slice a m c ∧ Sl w.heap.size w a m c xs := by
  obtain ⟨a, c, rfl⟩ := own_slice h
  exact ⟨a, c, rfl, Sl.of_own h⟩

set_option maxHeartbeats 1000000 in
theorem eqIntS_same (B : Nat) (a1 a2 : Option Addr) (m c d : Nat) (l : List Nat) (w : World) (hB : B ≤ w.heap.size) (h1 : Sl B w a1 m c (nums l)) (h2 : Sl B w a2 m d (nums l)) :
    Calls Try.prog 38 #[.slice a1 m c, .slice a2 m d] w fun e w' => e = .returned (.bool true) ∧ Below w.heap.size w w' := by
  have L1 := Lib.hid h1.len
  have C1 := h1.cap
  have C2 := h2.cap
  have T1 := h1.top
  have T2 := h2.top
  have H1 := Lib.hid h1
  have H2 := Lib.hid h2
  clear h1 h2
  have hne : ((m : Int) != (m : Int)) = false := by simp
  go_enter Try.func38, Try.ntmps38
  go_wp2
  go_loopw [5] (fun i wr => ∃ k : Nat, k ≤ m ∧ i = .int .i64 k ∧ Hid (Below w.heap.size w wr)) (fun i _ => m - (intOf i).toNat)
  case atStart => exact ⟨0, Nat.zero_le _, rfl, Lib.hid (Below.refl _ _)⟩
  case round =>
    obtain ⟨k, hk, rfl, hb⟩ := hrel
    by_cases hlt : k < m
    · obtain ⟨j, hj⟩ : ∃ j, l[k]? = some j := ⟨_, List.getElem?_eq_getElem (by have := L1.out; rw [nums_len] at this; omega)⟩
      obtain ⟨b, o, rfl, _, hc⟩ := (H1.out.keep (hb.out.mono hB)).spot k _ (nums_at hj)
      obtain ⟨b', o', rfl, _, hc'⟩ := (H2.out.keep (hb.out.mono hB)).spot k _ (nums_at hj)
      clear hj
      have hi0 : (0 : Int) ≤ (k : Int) := by omega
      have hi1 : (k : Int) < (m : Int) := by omega
      have hq : ((j : Int) != (j : Int)) = false := by simp
      go_wp2
      go_quiet (fail)
      go_wp2
      go_roundw
      case rel => exact ⟨k + 1, by omega, by go_num, Lib.hid (below_drewN hb.out _)⟩
      case measure => simp [intOf]; omega
    · go_wp2
      go_ret
      exact ⟨rfl, hb.out⟩

/-- m numbers from k on -/
def mnums (k m : Nat) : List Nat := (List.range m).map fun j => k + j
theorem mnums_at {k m j : Nat} (h : j < m) : (mnums k m)[j]? = some (k + j) := by simp [mnums, h]
theorem mnums_len (k m : Nat) : (mnums k m).length = m := by simp [mnums]
def mkd (xs : List Value) (k j : Nat) : List Value := nums (mnums k j) ++ xs.drop j
theorem mkd_succ {xs : List Value} {k j : Nat} (h : j < xs.length) : (mkd xs k j).set j (.int .i64 ((k + j : Nat) : Int)) = mkd xs k (j + 1) := by
  unfold mkd
  rw [List.set_append_right _ _ (by simp [nums, mnums])]
  have e : j - (nums (mnums k j)).length = 0 := by simp [nums, mnums]
  rw [e, List.drop_eq_getElem_cons h, List.set_cons_zero]
  unfold mnums nums
  rw [List.range_succ]
  simp
theorem mkd_at {xs : List Value} {k j : Nat} (h : j < xs.length) : (mkd xs k j)[j]? = some xs[j] := by
  unfold mkd
  rw [List.getElem?_append_right (by simp [nums, mnums])]
  have e : j - (nums (mnums k j)).length = 0 := by simp [nums, mnums]
  rw [e, List.drop_eq_getElem_cons h]
  rfl

set_option maxHeartbeats 1000000 in
theorem markIntS_some (base g m c k0 : Nat) (l : List Nat) (w : World) (h : w.ownsRow base 3 1 (.slice (some ⟨g, 0, none⟩) m c) m (nums l)) (hbase : base ≤ w.heap.size) (hm : m ≤ 100000) (hk : k0 ≤ 10) :
    Calls Try.prog 39 #[.slice (some ⟨g, 0, none⟩) m c, .int .i64 (k0 : Int)] w fun e w' => e = .returned (.int .i64 ((k0 + m : Nat) : Int)) ∧
      w'.ownsRow base 3 1 (.slice (some ⟨g, 0, none⟩) m c) m (nums (mnums k0 m)) ∧ Below base w w' := by
  have L : Hid ((nums l).length = m) := Lib.hid (by have := h.1; simpa using this)
  have HB := own_base h
  have HO0 := Lib.hid h
  clear h
  go_enter Try.func39, Try.ntmps39
  go_wp2
  go_loopw [1, 5] (fun q i wr => ∃ j : Nat, j ≤ m ∧ i = .int .i64 j ∧ q = .int .i64 ((k0 + j : Nat) : Int) ∧ Hid (wr.ownsRow base 3 1 (.slice (some ⟨g, 0, none⟩) m c) m (mkd (nums l) k0 j)) ∧ Hid (Below base w wr)) (fun _ i _ => m - (intOf i).toNat)
  case atStart => exact ⟨0, Nat.zero_le _, rfl, rfl, Lib.hid (by simpa [mkd, mnums, nums] using HO0.out), Lib.hid (Below.refl _ _)⟩
  case round =>
    obtain ⟨j, hj, rfl, rfl, HO, hb⟩ := hrel
    by_cases hlt : j < m
    · obtain ⟨i9, hi9⟩ : ∃ i9, l[j]? = some i9 := ⟨_, List.getElem?_eq_getElem (by have := L.out; rw [nums_len] at this; omega)⟩
      have hf := HO.out.frozenAt j
      have hd := HO.out.cellAt j (by omega)
      have hv : (mkd (nums l) k0 j)[j]? = some (.int .i64 (i9 : Int)) := by rw [mkd_at (by rw [L.out]; exact hlt), ← List.getElem?_eq_getElem, nums_at hi9]
      rw [hv] at hd
      have HS := Lib.hid ((HO.out.stored j (.int .i64 ((k0 + j : Nat) : Int))).1)
      have HS2 : Hid ((wr.setCell ⟨g, j, none⟩ (.int .i64 ((k0 + j : Nat) : Int))).ownsRow base 3 1 (.slice (some ⟨g, 0, none⟩) m c) m (mkd (nums l) k0 (j + 1))) := Lib.hid (by have := HS.out; rwa [mkd_succ (by rw [L.out]; exact hlt)] at this)
      clear hv hi9 HS
      obtain ⟨kk, hkk⟩ : ∃ kk : Int, ((k0 + j : Nat) : Int) = kk := ⟨_, rfl⟩
      have HK := Lib.hid hkk
      have hkb : 0 ≤ kk ∧ kk ≤ 1000000 := by omega
      rw [hkk] at HS2 ⊢
      clear hkk
      go_wp2
      go_roundw
      case rel => exact ⟨j + 1, by omega, by go_num, by rw [← HK.out]; go_num, HS2, Lib.hid (hb.out.setCell HB _)⟩
      case measure => simp [intOf]; omega
    · have e : j = m := by omega
      subst e
      have HF : Hid (wr.ownsRow base 3 1 (.slice (some ⟨g, 0, none⟩) j c) j (nums (mnums k0 j))) := Lib.hid (by have := HO.out; rw [mkd, List.drop_eq_nil_of_le (by rw [L.out]; exact Nat.le_refl _), List.append_nil] at this; exact this)
      go_wp2
      go_ret
      exact ⟨rfl, HF.out, hb.out⟩

set_option maxHeartbeats 1000000 in
theorem heldIntS_any (B k0 m c : Nat) (a : Option Addr) (w : World) (h : Sl B w a m c (nums (mnums k0 m))) (hm : m ≤ 100000) (hk : k0 ≤ 10) :
    Calls Try.prog 40 #[.slice a m c, .int .i64 (k0 : Int)] w fun e w' => e = .returned (.int .i64 ((k0 + m : Nat) : Int)) ∧ w = w' := by
  have C := h.cap
  have T := h.top
  have H := Lib.hid h
  clear h
  go_enter Try.func40, Try.ntmps40
  go_wp2
  go_loop [1, 5] (fun q i => ∃ j : Nat, j ≤ m ∧ i = .int .i64 j ∧ q = .int .i64 ((k0 + j : Nat) : Int)) (fun _ i => m - (intOf i).toNat)
  case atStart => exact ⟨0, Nat.zero_le _, rfl, rfl⟩
  case round =>
    obtain ⟨j, hj, rfl, rfl⟩ := hrel
    by_cases hlt : j < m
    · obtain ⟨b, o, rfl, _, hc⟩ := H.out.spot j _ (nums_at (mnums_at hlt))
      obtain ⟨kk, hkk⟩ : ∃ kk : Int, ((k0 + j : Nat) : Int) = kk := ⟨_, rfl⟩
      have HK := Lib.hid hkk
      have hkb : 0 ≤ kk ∧ kk ≤ 1000000 := by omega
      rw [hkk] at hc ⊢
      clear hkk
      have hq : (kk != kk) = false := by simp
      go_wp2
      go_round
      case rel => exact ⟨j + 1, by omega, by go_num, by rw [← HK.out]; go_num⟩
      case measure => simp [intOf]; omega
    · have e : j = m := by omega
      subst e
      go_wp2
      go_ret
      exact ⟨rfl, rfl⟩

set_option maxHeartbeats 1000000 in
theorem l2Kids_any (B : Nat) (a : Option Addr) (n c i : Nat) (t : List Nd) (w : World) (hB : B ≤ w.heap.size) (h : Nds B w a n c t) (hn : n ≤ 1000) (hi : i < n) :
    Calls Try.prog 69 #[.agg #[.slice a n c], .int .i64 (i : Int)] w fun e w' => ∃ v, e = .returned v ∧ w'.ownsRow w.heap.size 3 1 v (kidsTo t i n).length (nums (kidsTo t i n)) ∧ Below w.heap.size w w' := by
  have L := Lib.hid h.len
  have C := h.cap
  have T := h.top
  have H := Lib.hid h
  have HB := Lib.hid hB
  clear h hB
  obtain ⟨i0, hii, hz0, hz1, hz2⟩ := info_parts infoI
  have hown0 := World.ownsRow_lit (base := w.heap.size + 1) (e := 3) (size := 1) (w.alloc (.cells #[.slice a n c] 30)) #[] 0 (by simp) (by unfold maxLen; omega) rfl
  have HO0 := Lib.hid hown0
  clear hown0
  go_enter Try.func69, Try.ntmps69
  go_wp2
  go_loopw [5, 6] (fun o q wr => ∃ (k m : Nat) (v : Value), i < k ∧ k ≤ n ∧ m ≤ k ∧ q = .int .i64 k ∧ v = o ∧ Hid ((kidsTo t i k).length = m) ∧ Hid (wr.ownsRow (w.heap.size + 1) 3 1 v m (nums (kidsTo t i k))) ∧ Hid (Below w.heap.size w wr) ∧ wr.cell? ⟨w.heap.size, 0, none⟩ = some (.slice a n c) ∧ w.heap.size < wr.heap.size) (fun _ q _ => n - (intOf q).toNat)
  case atStart => exact ⟨i + 1, 0, _, by omega, by omega, by omega, by go_num, rfl, Lib.hid (by rw [kidsTo_low]; rfl), Lib.hid (by rw [kidsTo_low]; simpa [nums] using HO0.out), Lib.hid (((Below.refl _ _).alloc (Nat.le_refl _) _).alloc (by simp) _), by simp, by simp; omega⟩
  case round =>
    clear HO0
    obtain ⟨k, m, v, hik, hkn, hmk, rfl, rfl, HM, HO, HBw, hbox, hsz⟩ := hrel
    by_cases hlt : k < n
    · obtain ⟨b, o, l, p, e, rfl, hbB, hd, hl, hp, hc1, hc2, hc3⟩ := (H.out.keep (HBw.out.mono HB.out)).elem k hlt
      have hBw := HBw.out.size
      by_cases hpi : p = (i : Int)
      · have hb1 : (p == (i : Int)) = true := by simp [hpi]
        have HKT := Lib.hid (kidsTo_hit hd hik hpi)
        clear hpi hd
        go_wp2_with (first
          | (at_builtin; refine wpList_append_sl rfl _ _ 49 rfl (w.heap.size + 1) 3 i0 (.int .i64 0) 8 Try.underlying49 hii hz0 hz1 hz2 rfl _ _ _ rfl (HO.out.alloc _) rfl (sl_new _ _ _) (by simp [Value.oneCell']) (by unfold maxLen; omega) (by omega) (by simp; omega) ?_; intro v2 w2 hO2 hG2; have HO2 := Lib.hid hO2; have HB2 : Hid (Below w.heap.size w w2) := Lib.hid (HBw.out.trans (((Below.refl _ wr).alloc (by omega) _).trans (below_grown (HO.out.alloc _) (by omega) (by simp; omega) hG2))); have hcell : w2.cell? ⟨w.heap.size, 0, none⟩ = some (.slice (some ⟨b, o, none⟩) n c) := (hG2.cell_far ⟨w.heap.size, 0, none⟩ (by simp; omega) (fun e => by have := (own_ge HO.out (g := w.heap.size) e.symm).1; omega)).trans ((World.cell?_alloc_lt _ _ _ (by simp; omega)).trans hbox); have hsz2 := hG2.size; simp only [World.size_alloc] at hsz2; clear hO2 hG2))
        go_roundw
        case rel => exact ⟨k + 1, m + 1, v2, by omega, by omega, by omega, by go_num, rfl, Lib.hid (by rw [HKT.out, List.length_append, HM.out]; rfl), Lib.hid (by rw [HKT.out]; simpa [nums] using HO2.out), HB2, hcell, by omega⟩
        case measure => simp [intOf]; omega
      · have hb1 : (p == (i : Int)) = false := by simp [hpi]
        have HKT := Lib.hid (kidsTo_miss (i := i) hd (fun h => hpi h.2))
        clear hpi hd
        go_wp2
        go_roundw
        case rel => exact ⟨k + 1, m, _, by omega, by omega, by omega, by go_num, rfl, Lib.hid (by rw [HKT.out]; exact HM.out), Lib.hid (by rw [HKT.out]; exact HO.out), HBw, hbox, hsz⟩
        case measure => simp [intOf]; omega
    · have e : k = n := by omega
      subst e
      go_wp2
      go_ret
      exact ⟨_, rfl, by rw [HM.out]; exact own_down HO.out (by omega), HBw.out⟩

end Go.Proofs.Ytjcaikfejgeknaa
