/-
  Turned texts: the program's function.
-/
import Derived.Test.YtifkggapdaflmabRevB
import Derived.Test.YtifkggapdaflmabPutW
namespace Go.Proofs.Ytifkggapdaflmab
open Go.RowKit Go.Lib Go.Sort
set_option linter.unusedVariables false

theorem holds_newB (w : World) (s : ByteArray) (cap : Nat) (C : Array Value) (hC : bytesRow s cap = C) : Holds encB (w.drew.alloc (.cells C 5 (C.size, C.size + 1))) w.heap.size 0 s.data ∧ Below w.heap.size w (w.drew.alloc (.cells C 5 (C.size, C.size + 1))) := by
  subst hC
  have hs : s.size ≤ (bytesRow s cap).size := by
    unfold bytesRow
    rw [Array.size_append, Array.size_map]
    show s.data.size ≤ _
    omega
  refine ⟨fun j h => ⟨?_, ?_⟩, (Below.refl _ w).drew.alloc (Nat.le_refl _) _⟩
  · have h1 := World.cell?_alloc_mark w.drew (bytesRow s cap) 5 ((bytesRow s cap).size, (bytesRow s cap).size + 1) j
    rw [Nat.zero_add]
    refine h1.trans ?_
    unfold bytesRow encB
    rw [Array.getElem?_append_left (by simpa using h), Array.getElem?_map, Array.getElem?_eq_getElem h, getElem!_pos s.data j h]
    rfl
  · rw [Nat.zero_add]
    refine Eq.trans (show _ = (w.drew.alloc (.cells (bytesRow s cap) 5 ((bytesRow s cap).size, (bytesRow s cap).size + 1))).frozen? ⟨w.drew.heap.size, j, none⟩ from rfl) ?_
    rw [World.frozen?_alloc_mark]
    have : j < s.size := h
    simp
    omega

set_option maxHeartbeats 1000000 in
set_option maxRecDepth 1000000 in
theorem turned_any (s : ByteArray) (w : World) (hs : s.size ≤ 100) :
    Calls Try.prog 47 #[.string s] w fun e w' => e = .returned (.string (bx (tx s).reverse)) ∧ Below w.heap.size w w' := by
  have hconv := run_bytes_of_string (P := Try.prog) w 9 58 5 s Try.underlying9 Try.underlying58 Try.underlying5
  obtain ⟨cap, hcap⟩ : ∃ cap, grownCap w s.size 0 5 = cap := ⟨_, rfl⟩
  rw [hcap] at hconv
  obtain ⟨C, hC⟩ : ∃ C, bytesRow s cap = C := ⟨_, rfl⟩
  rw [hC] at hconv
  obtain ⟨hH, hB⟩ := holds_newB w s cap C hC
  have HH := Lib.hid hH
  have HB := Lib.hid hB
  have cR := Lib.hid (reverse_any w.heap.size cap s.data _ hH (by show s.size ≤ 1000; omega))
  have HBk : Hid (∀ n, (convert 58 9 (.slice (some ⟨w.heap.size, 0, none⟩) s.size cap)).run Try.prog (putRow encB (Sort.ahead (w.drew.alloc (.cells C 5 (C.size, C.size + 1))) n) w.heap.size 0 s.data.reverse) = .ok (.string (bx (tx s).reverse)) (putRow encB (Sort.ahead (w.drew.alloc (.cells C 5 (C.size, C.size + 1))) n) w.heap.size 0 s.data.reverse)) := Lib.hid (fun n => by
    have hP := holds_putRow encB (Sort.ahead (w.drew.alloc (.cells C 5 (C.size, C.size + 1))) n) w.heap.size 0 s.data s.data.reverse (holds_ahead encB _ n w.heap.size 0 s.data hH) (by simp)
    have hl : (tx s).reverse.length = s.size := by rw [List.length_reverse, tx_len]
    have h := run_convert_bytes_back (P := Try.prog) (putRow encB (Sort.ahead (w.drew.alloc (.cells C 5 (C.size, C.size + 1))) n) w.heap.size 0 s.data.reverse) 58 9 5 ⟨w.heap.size, 0, none⟩ cap (tx s).reverse Try.underlying58 Try.underlying5 Try.underlying9 (fun j hj => by
      have hj2 : j < s.data.reverse.size := by rw [Array.size_reverse]; rw [hl] at hj; exact hj
      have h1 := (hP j hj2).1
      rw [Nat.zero_add] at h1
      have hadd : (Addr.add ⟨w.heap.size, 0, none⟩ j) = ⟨w.heap.size, j, none⟩ := by cases j <;> simp [Addr.add]
      rw [hadd, h1]
      unfold encB
      rw [getElem!_pos s.data.reverse j hj2]
      congr 3
      rw [← Array.getElem_toList]
      simp [Array.toList_reverse])
    rw [hl] at h
    exact h)
  have HBe : Hid (∀ n, Below w.heap.size w (putRow encB (Sort.ahead (w.drew.alloc (.cells C 5 (C.size, C.size + 1))) n) w.heap.size 0 s.data.reverse)) := Lib.hid (fun n => below_putRow hB (Nat.le_refl _))
  clear hC hcap hH hB
  go_enter Try.func47, Try.ntmps47
  go_wp2_with fail
  refine cR.out.mono ?_
  rintro e w2 ⟨rfl, n, rfl⟩
  have hbk := HBk.out n
  have HB2 := Lib.hid (HBe.out n)
  obtain ⟨w3, hw3⟩ : ∃ w3, putRow encB (Sort.ahead (w.drew.alloc (.cells C 5 (C.size, C.size + 1))) n) w.heap.size 0 s.data.reverse = w3 := ⟨_, rfl⟩
  rw [hw3] at hbk HB2 ⊢
  clear hw3 hconv
  go_wp2
  go_ret
  exact ⟨rfl, HB2.out⟩

end Go.Proofs.Ytifkggapdaflmab
