/-
  The program's ends in order: a copy that is sorted; an end's place among all.
-/
import Derived.Test.YtifkggapdaflmaaSortS
import Derived.Laws.CopyOwn
namespace Go.Proofs.Ytifkggapdaflmaa
open Go.RowKit
set_option linter.unusedVariables false

theorem infoS1 : (Try.prog.info? 9).map (·.size) = some 1 := by kernel_rfl

set_option maxRecDepth 1000000 in
set_option maxHeartbeats 1000000 in
theorem orderedEnds_any (base g n c : Nat) (E : List Txt) (w : World) (h : w.ownsRow base 9 1 (.slice (some ⟨g, 0, none⟩) n c) n (txs E)) (hn : n ≤ 1000) :
    Calls Try.prog 40 #[.slice (some ⟨g, 0, none⟩) n c] w fun e w' => e = .returned (.slice (some ⟨w.heap.size, 0, none⟩) n n) ∧ w'.ownsRow w.heap.size 9 1 (.slice (some ⟨w.heap.size, 0, none⟩) n n) n (txs (E.mergeSort fun x y => decide (x ≤ y))) ∧ Below w.heap.size w w' := by
  obtain ⟨i0, hii, hz0, hz1, hz2⟩ := info_parts infoS
  have hL : (txs E).length = n := by have := h.1; omega
  have hg := own_lt h
  have H := Lib.hid h
  have HL := Lib.hid hL
  clear h hL
  go_enter Try.func40, Try.ntmps40
  go_wp2_with (first
    | (at_make; refine wpList_make_full _ rfl _ _ 23 rfl w.heap.size 9 i0 (.string ByteArray.empty) 1 Try.underlying23 hii hz0 hz1 .i64 .i64 _ _ n rfl rfl rfl rfl (by rw [hz2]; omega) (by unfold maxLen; omega) (Nat.le_refl _) ?_; intro w1 hown hgrow; have hown1 := made_rep rfl hown; have HO1 := Lib.hid hown1; have HB1 : Hid (Below w.heap.size w w1) := Lib.hid ((Below.refl _ _).grown hgrow (Nat.le_refl _) (fun k e => by cases e)); clear hown hown1 hgrow
       obtain ⟨cur, HC, HCz⟩ : ∃ cur : Array Value, Hid (w1.heap[w.heap.size]? = some (.cells cur 9 (0, 0))) ∧ Hid (cur.size = n) := by
         rcases HO1.out.2 with ⟨h', _⟩ | ⟨g', cap, cur, h', hb, hg', h1, h2, h3, h4⟩
         · cases h'
         · cases h'
           exact ⟨cur, Lib.hid hg', Lib.hid (by omega)⟩
       have hcp := fun ty => run_copy_row (P := Try.prog) w1 23 23 ty 9 w.heap.size 0 n n ⟨g, 0, none⟩ n c cur 9 (txs E) Try.underlying23 infoS1 HC.out (by rw [HL.out]; exact (Nat.min_self n).symm) (fun j v hv => by
         have hj := (List.getElem?_eq_some_iff.1 hv).1
         have h1 := (own_stay H.out HB1.out).cellAt j (by have := HL.out; omega)
         have e : (Addr.mk g 0 none).add j = ⟨g, j, none⟩ := by cases j <;> simp [Addr.add]
         rw [e, h1, hv]) (by rw [HL.out, HCz.out]; omega) (fun v hv => by obtain ⟨x, _, rfl⟩ := List.mem_map.1 hv; rfl)
       have HO2 : Hid ((w1.setRow w.heap.size (cur.toList.take 0 ++ txs E ++ cur.toList.drop (0 + (txs E).length)).toArray).ownsRow w.heap.size 9 1 (.slice (some ⟨w.heap.size, 0, none⟩) n n) n (txs E)) := Lib.hid (by
         have hk := setRow_heap w1 w.heap.size cur (cur.toList.take 0 ++ txs E ++ cur.toList.drop (0 + (txs E).length)).toArray 9 (0, 0) HC.out
         have hd : cur.toList.drop (0 + (txs E).length) = [] := List.drop_eq_nil_of_le (by rw [Array.length_toList, HCz.out, HL.out]; omega)
         rw [hd] at hk ⊢
         rw [List.take_zero, List.nil_append, List.append_nil] at hk ⊢
         exact ⟨by rw [HL.out]; omega, .inr ⟨_, n, _, rfl, Nat.le_refl _, hk, Nat.le_refl _, by unfold maxLen; omega, by simp [HL.out], by rw [List.take_of_length_le (by simp [HL.out])]⟩⟩)
       have HB2 : Hid (Below w.heap.size w (w1.setRow w.heap.size (cur.toList.take 0 ++ txs E ++ cur.toList.drop (0 + (txs E).length)).toArray)) := Lib.hid (below_setRow HB1.out (Nat.le_refl _) _)
       obtain ⟨w2, hw2⟩ : ∃ w2, w1.setRow w.heap.size (cur.toList.take 0 ++ txs E ++ cur.toList.drop (0 + (txs E).length)).toArray = w2 := ⟨_, rfl⟩
       rw [hw2] at HO2 HB2
       simp only [hw2] at hcp
       clear hw2)
    | (go_at_call 49; refine (sort_own HO2.out (by omega)).mono ?_; rintro e w3 ⟨rfl, hO3, hg3⟩; have HO3 := Lib.hid hO3; have HG3 := Lib.hid hg3; clear hO3 hg3))
  go_ret
  exact ⟨rfl, HO3.out, HB2.out.trans (below_grown HO2.out (Nat.le_refl _) HB2.out.size HG3.out)⟩

/-- the place of a text in a row -/
theorem index_any (base g n c : Nat) (E : List Txt) (x : Txt) (k : Nat) (w : World) (h : w.ownsRow base 9 1 (.slice (some ⟨g, 0, none⟩) n c) n (txs E)) (hn : n ≤ 1000) (hk : E[k]? = some x) (hne : ∀ j, j < k → E[j]? ≠ some x) :
    Calls Try.prog 41 #[.slice (some ⟨g, 0, none⟩) n c, .string (bx x)] w fun e w' => e = .returned (.int .i64 (k : Int)) ∧ w = w' := by
  have hl : E.length = n := by have := h.1; simpa [txs] using this
  have hkl := (List.getElem?_eq_some_iff.1 hk).1
  have hd : ∀ j, (E.map bx).getD j ByteArray.empty = bx (E.getD j []) := by
    intro j
    simp only [List.getD]
    rw [List.getElem?_map]
    cases E[j]? <;> rfl
  have hi : Lib.idxOfS ((E.map bx).take n) (bx x) = (k : Int) := by
    refine Lib.idxOfS_hit (E.map bx) n k (bx x) (by omega) (by simp; omega) ?_ (fun j hj => ?_)
    · rw [hd, List.getD, hk]; rfl
    · rw [hd]
      intro e
      have e2 := bx_inj e
      have hjl : j < E.length := by omega
      rw [List.getD, List.getElem?_eq_getElem hjl] at e2
      exact hne j hj (by rw [List.getElem?_eq_getElem hjl, ← e2]; rfl)
  refine (Try.slices_Index_string g 0 n c (E.map bx) (bx x) w (by simp; omega) (by omega) (fun j hj => ?_)).mono ?_
  · have hj' : j < n := by simpa [hl] using hj
    rw [Nat.zero_add, h.cellAt j (by omega), hd, txs_at (x := E.getD j []) (by rw [List.getD, List.getElem?_eq_getElem (by omega)]; rfl)]
  · rintro e w' ⟨rfl, rfl⟩
    exact ⟨by rw [hi], rfl⟩

end Go.Proofs.Ytifkggapdaflmaa
