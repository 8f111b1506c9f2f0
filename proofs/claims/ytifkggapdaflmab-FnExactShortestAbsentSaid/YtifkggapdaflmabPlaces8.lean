/-
  The places at which a part occurs in a text: the reference's and the program's function.
-/
import Derived.Test.YtifkggapdaflmabParts8
import Derived.Test.YtifkggapdaflmabEndsBy
import Derived.Test.YtifkggapdaflmabNumsB
import Derived.Test.YtifkggapdaflmabIter
import Derived.Test.YtifkggapdaflmabShelf
import Derived.Maps.AppendAt
import Derived.Laws.OwnMore
import Derived.IntWalk
namespace Go.Proofs.Ytifkggapdaflmab
open Go.RowKit
set_option linter.unusedVariables false

theorem ats_room {s p : ByteArray} (h16 : s.size ≤ 16) {k : Nat} (hk : k ≤ s.size) : (ats (tx s) (tx p) k).length ≤ 16 := by have := ats_len (tx s) (tx p) k; omega

set_option maxRecDepth 1000000 in
set_option maxHeartbeats 2000000 in
theorem l8At_any (s p : ByteArray) (w : World) (h16 : s.size ≤ 16) (hp16 : p.size ≤ 16) (hp0 : 0 < p.size) :
    Calls Try.prog 32 #[.string s, .string p] w fun e w' => ∃ v, e = .returned v ∧ w'.ownsRow w.heap.size 3 1 v (plcs (tx s) (tx p)).length (nums (plcs (tx s) (tx p))) ∧ Below w.heap.size w w' := by
  obtain ⟨i0, hii, hz0, hz1, hz2⟩ := info_parts infoI
  have HO0 : Hid ((w.alloc (.cells #[] 3)).ownsRow w.heap.size 3 1 (.slice (some ⟨w.heap.size, 0, none⟩) 0 0) 0 []) := Lib.hid (World.ownsRow_lit w #[] 0 (Nat.le_refl _) (by unfold maxLen; omega) rfl)
  have HB0 : Hid (Below w.heap.size w (w.alloc (.cells #[] 3))) := Lib.hid ((Below.refl _ _).alloc (Nat.le_refl _) _)
  go_enter Try.func32, Try.ntmps32
  go_wp2
  go_loopw [5, 6] (fun o i wr => ∃ (k m g c : Nat), k ≤ s.size ∧ i = .int .i64 k ∧ o = .slice (some ⟨g, 0, none⟩) m c ∧ Hid ((ats (tx s) (tx p) k).length = m) ∧ Hid (wr.ownsRow w.heap.size 3 1 (.slice (some ⟨g, 0, none⟩) m c) m (nums (ats (tx s) (tx p) k))) ∧ Hid (Below w.heap.size w wr)) (fun _ i _ => s.size + 1 - (intOf i).toNat)
  case atStart => exact ⟨0, 0, w.heap.size, 0, Nat.zero_le _, rfl, rfl, Lib.hid rfl, HO0, HB0⟩
  case round =>
    clear HO0 HB0
    obtain ⟨k, m, g, c, hk, rfl, rfl, HM, HO, HB⟩ := hrel
    have hm16 : m ≤ 16 := by rw [← HM.out]; exact ats_room h16 hk
    have hk0 : (0 : Int) ≤ (k : Int) := by omega
    have hzr := HB.out.size
    by_cases hlt : k + p.size ≤ s.size
    · have hle : (k : Int) + (p.size : Int) ≤ (s.size : Int) := by omega
      have hle2 : (k : Int) ≤ (k : Int) + (p.size : Int) := by omega
      have hT := at_take (x := tx s) (p := tx p) (i := k) (by rw [tx_len, tx_len]; exact hlt)
      have hsub : tx (s.extract k (k + p.size)) = ((tx s).drop k).take (tx p).length := by rw [tx_sub, tx_len, show k + p.size - k = p.size by omega]
      rw [← hsub] at hT
      by_cases he : s.extract k (k + p.size) = p
      · have hq : ((s.extract k (k + p.size)).toList == p.toList) = true := by rw [str_eq_list, he]; simp
        have HN : Hid (ats (tx s) (tx p) (k + 1) = ats (tx s) (tx p) k ++ [k]) := Lib.hid (ats_yes (hT.1 (by rw [he])))
        clear he hT hsub
        go_wp2_with (at_builtin; refine wpList_append_own_at _ rfl _ _ 42 rfl w.heap.size 3 i0 (.int .i64 0) 1 8 Try.underlying42 hii hz0 hz1 hz2 rfl (by decide) _ _ _ rfl (HO.out.alloc _) ⟨wr.heap.size, 0, none⟩ 1 1 [.int .i64 (k : Int)] rfl rfl (cell_one_new _ _ _) (by simp [Value.oneCell']) (by unfold maxLen; omega) (by omega) (by simp; omega) ?_; intro v3 w3 hO3 hG3 _ _; obtain ⟨g', cap', rfl⟩ := own_succ hO3; have HO3 := Lib.hid hO3; have HB3 : Hid (Below w.heap.size w w3) := Lib.hid ((HB.out.alloc (by omega) _).trans (below_grown (HO.out.alloc _) (by omega) (by simp; omega) hG3)); clear hO3 hG3)
        go_roundw
        case rel => exact ⟨k + 1, m + 1, g', cap', by omega, by go_num, rfl, Lib.hid (by rw [HN.out, List.length_append, HM.out]; rfl), Lib.hid (by rw [HN.out, nums_app]; exact HO3.out), HB3⟩
        case measure => simp [intOf]; omega
      · have hq : ((s.extract k (k + p.size)).toList == p.toList) = false := by rw [str_eq_list]; simp [he]
        have HN : Hid (ats (tx s) (tx p) (k + 1) = ats (tx s) (tx p) k) := Lib.hid (ats_no (by
          cases hb : (tx p).isPrefixOf ((tx s).drop k) with
          | false => rfl
          | true => exact absurd (tx_inj (hT.2 hb)) he))
        clear he hT hsub
        go_wp2
        go_roundw
        case rel => exact ⟨k + 1, m, g, c, by omega, by go_num, rfl, Lib.hid (by rw [HN.out, HM.out]), Lib.hid (by rw [HN.out]; exact HO.out), HB⟩
        case measure => simp [intOf]; omega
    · have HA : Hid (ats (tx s) (tx p) k = plcs (tx s) (tx p)) := Lib.hid (ats_all (by rw [tx_len]; omega) (by rw [tx_len, tx_len]; omega) (by rw [tx_len]; omega))
      go_wp2
      go_ret
      exact ⟨_, rfl, by rw [← HA.out, HM.out]; exact HO.out, HB.out⟩

set_option maxRecDepth 1000000 in
set_option maxHeartbeats 2000000 in
theorem placesOfPart_any (s p : ByteArray) (w : World) (ht : okT s = true) :
    Calls Try.prog 59 #[.string s, .string p] w fun e w' => ∃ v, e = .returned v ∧ w'.ownsRow w.heap.size 3 1 v (plcs (tx s) (tx p)).length (nums (plcs (tx s) (tx p))) ∧ Below w.heap.size w w' := by
  have h16 := okT_size ht
  have HTx := Lib.hid ht
  clear ht
  obtain ⟨i0, hii, hz0, hz1, hz2⟩ := info_parts infoI
  have HO0 : Hid ((w.alloc (.cells #[] 3)).ownsRow w.heap.size 3 1 (.slice (some ⟨w.heap.size, 0, none⟩) 0 0) 0 []) := Lib.hid (World.ownsRow_lit w #[] 0 (Nat.le_refl _) (by unfold maxLen; omega) rfl)
  have HB0 : Hid (Below w.heap.size w (w.alloc (.cells #[] 3))) := Lib.hid ((Below.refl _ _).alloc (Nat.le_refl _) _)
  have hsz : (w.alloc (.cells #[] 3)).heap.size = w.heap.size + 1 := by simp
  go_enter Try.func59, Try.ntmps59
  go_wp2_with fail
  obtain ⟨w1, hw1⟩ : ∃ w1, w.alloc (.cells #[] 3) = w1 := ⟨_, rfl⟩
  have HI0 : Hid (((w.alloc (.cells #[] 3)).alloc (.stringIter s 0)).heap[w.heap.size + 1]? = some (.stringIter s 0)) := Lib.hid (by have := World.iter_heap (w.alloc (.cells #[] 3)) s 0; rwa [hsz] at this)
  clear hw1 w1 hsz
  go_loopw [5] (fun o wr => ∃ (k m g c : Nat), k ≤ s.size ∧ o = .slice (some ⟨g, 0, none⟩) m c ∧ Hid ((ats (tx s) (tx p) k).length = m) ∧ Hid (wr.ownsRow w.heap.size 3 1 (.slice (some ⟨g, 0, none⟩) m c) m (nums (ats (tx s) (tx p) k))) ∧ Hid (wr.heap[w.heap.size + 1]? = some (.stringIter s k)) ∧ Hid (Below w.heap.size w wr)) (fun _ wr => s.size - wr.iterPos (w.heap.size + 1))
  case atStart => exact ⟨0, 0, w.heap.size, 0, Nat.zero_le _, rfl, Lib.hid rfl, Lib.hid (HO0.out.alloc _), HI0, Lib.hid (HB0.out.alloc HB0.out.size _)⟩
  case round =>
    clear HO0 HB0 HI0
    obtain ⟨k, m, g, c, hk, rfl, HM, HO, HIt, HB⟩ := hrel
    have hm16 : m ≤ 16 := by rw [← HM.out]; exact ats_room h16 hk
    have HP0 : Hid (wr.iterPos (w.heap.size + 1) = k) := Lib.hid (by simp [World.iterPos, HIt.out])
    have hsI := (Array.getElem?_eq_some_iff.1 HIt.out).1
    by_cases hlt : k < s.size
    · have hl := okT_letter HTx.out hlt
      have hnx := fun ty => Lib.run_next_ascii_at (P := Try.prog) wr (w.heap.size + 1) s k ty HIt.out hlt (by omega)
      obtain ⟨W1, hW1⟩ : ∃ W1, wr.iterAt (w.heap.size + 1) s (k + 1) = W1 := ⟨_, rfl⟩
      have HI1 : Hid (W1.heap[w.heap.size + 1]? = some (.stringIter s (k + 1))) := Lib.hid (by rw [← hW1]; exact Lib.iterAt_heap wr _ s k (k + 1) HIt.out)
      have HB1 : Hid (Below w.heap.size w W1) := Lib.hid (by rw [← hW1]; exact Lib.below_iterAt HB.out (by omega) s (k + 1))
      have HO1 : Hid (W1.ownsRow w.heap.size 3 1 (.slice (some ⟨g, 0, none⟩) m c) m (nums (ats (tx s) (tx p) k))) := Lib.hid (by rw [← hW1]; exact own_iterAt HO.out HIt.out)
      simp only [hW1] at hnx
      clear hW1 hl
      have hI1z := (Array.getElem?_eq_some_iff.1 HI1.out).1
      have hk0 : (0 : Int) ≤ (k : Int) := by omega
      have hk1 : (k : Int) ≤ (s.size : Int) := by omega
      have cH : Hid (∀ (W : World), Calls Try.prog 73 #[.string (s.extract k s.size), .string p] W fun e w' => e = .returned (.bool ((tx p).isPrefixOf ((tx s).drop k))) ∧ W = w') := Lib.hid (fun W => by
        have h := Try.strings_HasPrefix (s.extract k s.size) p W
        have hpre : Lib.hasPrefix (s.extract k s.size).data.toList p.data.toList = (tx p).isPrefixOf ((tx s).drop k) := by rw [← tx_from]; rfl
        rw [hpre] at h
        exact h.mono fun e w' ⟨h1, h2⟩ => ⟨h1, h2.symm⟩)
      obtain ⟨b, hb⟩ : ∃ b, (tx p).isPrefixOf ((tx s).drop k) = b := ⟨_, rfl⟩
      have HPb := Lib.hid hb
      rw [hb] at cH
      clear hb
      cases b
      · have HN : Hid (ats (tx s) (tx p) (k + 1) = ats (tx s) (tx p) k) := Lib.hid (ats_no HPb.out)
        go_wp2_with (first
          | (go_at_call 73; refine (cH.out _).mono ?_; rintro e w4 ⟨rfl, rfl⟩))
        go_roundw
        case rel => exact ⟨k + 1, m, g, c, by omega, rfl, Lib.hid (by rw [HN.out, HM.out]), Lib.hid (by rw [HN.out]; exact HO1.out), HI1, HB1⟩
        case measure =>
          rw [HP0.out, show World.iterPos _ (w.heap.size + 1) = k + 1 by simp [World.iterPos, HI1.out]]
          omega
      · have HN : Hid (ats (tx s) (tx p) (k + 1) = ats (tx s) (tx p) k ++ [k]) := Lib.hid (ats_yes HPb.out)
        go_wp2_with (first
          | (go_at_call 73; refine (cH.out _).mono ?_; rintro e w4 ⟨rfl, rfl⟩)
          | (at_builtin; refine wpList_append_own_at _ rfl _ _ 42 rfl w.heap.size 3 i0 (.int .i64 0) 1 8 Try.underlying42 hii hz0 hz1 hz2 rfl (by decide) _ _ _ rfl (HO1.out.alloc _) ⟨W1.heap.size, 0, none⟩ 1 1 [.int .i64 (k : Int)] rfl rfl (cell_one_new _ _ _) (by simp [Value.oneCell']) (by unfold maxLen; omega) (by omega) (by simp; omega) ?_; intro v3 w3 hO3 hG3 _ _; obtain ⟨g', cap', rfl⟩ := own_succ hO3; have HO3 := Lib.hid hO3; have HG3 : Hid ((W1.alloc (.cells #[.int .i64 (k : Int)] 3)).grownBy w3 (some g)) := Lib.hid hG3; clear hO3 hG3))
        have hne1 : some (w.heap.size + 1) ≠ (Value.slice (some ⟨g, 0, none⟩) m c).ownBlock := own_iter HO1.out HI1.out
        have HI3 : Hid (w3.heap[w.heap.size + 1]? = some (.stringIter s (k + 1))) := Lib.hid ((HG3.out.block _ (by simp; omega) hne1).trans ((Below.heap_alloc _ _ _ hI1z).trans HI1.out))
        have HB3 : Hid (Below w.heap.size w w3) := Lib.hid ((HB1.out.alloc (by omega) _).trans (below_grown (HO1.out.alloc _) (by omega) (by simp; omega) HG3.out))
        go_roundw
        case rel => exact ⟨k + 1, m + 1, g', cap', by omega, rfl, Lib.hid (by rw [HN.out, List.length_append, HM.out]; rfl), Lib.hid (by rw [HN.out, nums_app]; exact HO3.out), HI3, HB3⟩
        case measure =>
          have e1 : w3.iterPos (w.heap.size + 1) = k + 1 := by simp [World.iterPos, HI3.out]
          rw [HP0.out, e1]
          omega
    · have hnx := fun ty => Lib.run_next_end_at (P := Try.prog) wr (w.heap.size + 1) s k ty HIt.out (by omega)
      have HA : Hid (ats (tx s) (tx p) k = plcs (tx s) (tx p)) := Lib.hid (by unfold plcs; rw [tx_len, show k = s.size by omega])
      go_wp2_with fail
      go_ret
      exact ⟨_, rfl, by rw [← HA.out, HM.out]; exact HO.out, HB.out⟩

end Go.Proofs.Ytifkggapdaflmab
