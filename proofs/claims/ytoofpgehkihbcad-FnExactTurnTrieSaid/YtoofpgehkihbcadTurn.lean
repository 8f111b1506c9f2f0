/-
  Turned texts: the program's closure and the reference's function.
-/
import Derived.Test.YtoofpgehkihbcadRev
import Derived.Test.YtoofpgehkihbcadPrefixAt
namespace Go.Proofs.Ytoofpgehkihbcad
open Go.RowKit Go.Lib Go.Sort
set_option linter.unusedVariables false

theorem holds_new (w : World) (s : ByteArray) (cap : Nat) (C : Array Value) (hC : bytesRow s cap = C) : Holds encB (w.drew.alloc (.cells C 5 (C.size, C.size + 1))) w.heap.size 0 s.data ∧ Below w.heap.size w (w.drew.alloc (.cells C 5 (C.size, C.size + 1))) := by
  subst hC
  have hs : s.size ≤ (bytesRow s cap).size := by
    unfold bytesRow
    rw [Array.size_append, Array.size_map]
    show s.data.size ≤ _
    omega
  refine ⟨fun j h => ⟨?_, ?_⟩, (Below.refl _ w).drew.alloc (Nat.le_refl _) _⟩
  · have h1 := World.cell?_alloc_mark w.drew (bytesRow s cap) 5 ((bytesRow s cap).size, (bytesRow s cap).size + 1) j
    rw [Nat.zero_add]
    refine h1.trans ?_
    unfold bytesRow encB
    rw [Array.getElem?_append_left (by simpa using h), Array.getElem?_map, Array.getElem?_eq_getElem h, getElem!_pos s.data j h]
    rfl
  · rw [Nat.zero_add]
    refine Eq.trans (show _ = (w.drew.alloc (.cells (bytesRow s cap) 5 ((bytesRow s cap).size, (bytesRow s cap).size + 1))).frozen? ⟨w.drew.heap.size, j, none⟩ from rfl) ?_
    rw [World.frozen?_alloc_mark]
    have : j < s.size := h
    simp
    omega

set_option maxHeartbeats 1000000 in
set_option maxRecDepth 1000000 in
theorem turn1_any (s : ByteArray) (w : World) (hs : s.size ≤ 100) :
    Calls Try.prog 45 #[.string s] w fun e w' => e = .returned (.string (bx (tx s).reverse)) ∧ Below w.heap.size w w' := by
  have hconv := run_bytes_of_string (P := Try.prog) w 9 62 5 s Try.underlying9 Try.underlying62 Try.underlying5
  obtain ⟨cap, hcap⟩ : ∃ cap, grownCap w s.size 0 5 = cap := ⟨_, rfl⟩
  rw [hcap] at hconv
  obtain ⟨C, hC⟩ : ∃ C, bytesRow s cap = C := ⟨_, rfl⟩
  rw [hC] at hconv
  obtain ⟨hH, hB⟩ := holds_new w s cap C hC
  have HH := Lib.hid hH
  have HB := Lib.hid hB
  have cR := Lib.hid (reverse_any w.heap.size cap s.data _ hH (by show s.size ≤ 1000; omega))
  have HBk : Hid (∀ n, (convert 62 9 (.slice (some ⟨w.heap.size, 0, none⟩) s.size cap)).run Try.prog (putRow encB (Sort.ahead (w.drew.alloc (.cells C 5 (C.size, C.size + 1))) n) w.heap.size 0 s.data.reverse) = .ok (.string (bx (tx s).reverse)) (putRow encB (Sort.ahead (w.drew.alloc (.cells C 5 (C.size, C.size + 1))) n) w.heap.size 0 s.data.reverse)) := Lib.hid (fun n => by
    have hP := holds_putRow encB (Sort.ahead (w.drew.alloc (.cells C 5 (C.size, C.size + 1))) n) w.heap.size 0 s.data s.data.reverse (holds_ahead encB _ n w.heap.size 0 s.data hH) (by simp)
    have hl : (tx s).reverse.length = s.size := by rw [List.length_reverse, tx_len]
    have h := run_convert_bytes_back (P := Try.prog) (putRow encB (Sort.ahead (w.drew.alloc (.cells C 5 (C.size, C.size + 1))) n) w.heap.size 0 s.data.reverse) 62 9 5 ⟨w.heap.size, 0, none⟩ cap (tx s).reverse Try.underlying62 Try.underlying5 Try.underlying9 (fun j hj => by
      have hj2 : j < s.data.reverse.size := by rw [Array.size_reverse]; rw [hl] at hj; exact hj
      have h1 := (hP j hj2).1
      rw [Nat.zero_add] at h1
      have hadd : (Addr.add ⟨w.heap.size, 0, none⟩ j) = ⟨w.heap.size, j, none⟩ := by cases j <;> simp [Addr.add]
      rw [hadd, h1]
      unfold encB
      rw [getElem!_pos s.data.reverse j hj2]
      congr 3
      rw [← Array.getElem_toList]
      simp [Array.toList_reverse])
    rw [hl] at h
    exact h)
  have HBe : Hid (∀ n, Below w.heap.size w (putRow encB (Sort.ahead (w.drew.alloc (.cells C 5 (C.size, C.size + 1))) n) w.heap.size 0 s.data.reverse)) := Lib.hid (fun n => below_putRow hB (Nat.le_refl _))
  clear hC hcap hH hB
  go_enter Try.func45, Try.ntmps45
  go_wp2_with fail
  refine cR.out.mono ?_
  rintro e w2 ⟨rfl, n, rfl⟩
  have hbk := HBk.out n
  have HB2 := Lib.hid (HBe.out n)
  obtain ⟨w3, hw3⟩ : ∃ w3, putRow encB (Sort.ahead (w.drew.alloc (.cells C 5 (C.size, C.size + 1))) n) w.heap.size 0 s.data.reverse = w3 := ⟨_, rfl⟩
  rw [hw3] at hbk HB2 ⊢
  clear hw3 hconv
  go_wp2
  go_ret
  exact ⟨rfl, HB2.out⟩

set_option maxHeartbeats 1000000 in
theorem l5Turned_any (s : ByteArray) (w : World) (hs : s.size ≤ 100) :
    Calls Try.prog 43 #[.string s] w fun e w' => e = .returned (.string (bx (tx s).reverse)) ∧ w = w' := by
  go_enter Try.func43, Try.ntmps43
  go_wp2
  go_loop [3, 4] (fun t i => ∃ (k : Nat) (u : ByteArray), k ≤ s.size ∧ i = .int .i64 k ∧ t = .string u ∧ u.size = k ∧ Hid (tx u = ((tx s).take k).reverse)) (fun _ i => s.size - (RowKit.intOf i).toNat)
  case atStart => exact ⟨0, ⟨#[]⟩, Nat.zero_le _, rfl, rfl, rfl, Lib.hid (by simp)⟩
  case round =>
    obtain ⟨k, u, hk, rfl, rfl, hu, HU⟩ := hrel
    by_cases hlt : k < s.size
    · have HN : Hid (tx (s.extract k (k + 1) ++ u) = ((tx s).take (k + 1)).reverse) := Lib.hid (by
        have e1 : tx (s.extract k (k + 1)) = [s[k]] := by
          show (s.extract k (k + 1)).data.toList = _
          rw [ByteArray.data_extract, Array.toList_extract, List.extract_eq_take_drop]
          have h2 := tx_drop hlt
          unfold tx at h2
          rw [h2, show k + 1 - k = 1 by omega]
          rfl
        have e2 : tx (s.extract k (k + 1) ++ u) = tx (s.extract k (k + 1)) ++ tx u := by simp [tx]
        rw [e2, e1, HU.out, List.take_succ_eq_append_getElem (by rw [tx_len]; exact hlt), List.reverse_append]
        rfl)
      have hz : (s.extract k (k + 1)).size = 1 := by rw [ByteArray.size_extract]; omega
      have hz2 : (s.extract k (k + 1) ++ u).size = k + 1 := by rw [ByteArray.size_append, hz]; omega
      have hcat : ¬ (9223372036854775807 < (s.extract k (k + 1)).size + u.size) := by omega
      have hi0 : (0 : Int) ≤ (k : Int) := by omega
      have hi1 : (k : Int) < (s.size : Int) := by omega
      have hi2 : (k : Int) + 1 ≤ (s.size : Int) := by omega
      have HZ2 := Lib.hid hz2
      clear hz2
      go_wp2
      go_round
      case rel => exact ⟨k + 1, _, by omega, by go_num, rfl, HZ2.out, HN⟩
      case measure => simp [RowKit.intOf]; omega
    · have HF : Hid (u = bx (tx s).reverse) := Lib.hid (tx_inj (by rw [HU.out, tx_bx, List.take_of_length_le (by rw [tx_len]; omega)]))
      go_wp2
      go_ret
      exact ⟨by rw [HF.out]; rfl, rfl⟩

end Go.Proofs.Ytoofpgehkihbcad
