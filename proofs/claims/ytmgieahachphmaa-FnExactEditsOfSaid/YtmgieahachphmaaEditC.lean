/-
  EditsOf: the edits at a letter of a long word.
-/
import Derived.Test.YtmgieahachphmaaEditA
namespace Go.Proofs.Ytmgieahachphmaa
open Go.RowKit
set_option linter.unusedVariables false

set_option maxRecDepth 1000000 in
set_option maxHeartbeats 4000000 in
theorem editsAt_full (s : ByteArray) (k : Nat) (hk : k ≤ s.size) (hin : k < s.size) (h11 : ¬ s.size < 12) (hw : IsW (tx s)) (w : World) :
    Calls Try.prog 37 #[.string s, .int .i64 k] w fun e w' => ∃ v, e = .returned v ∧ w'.ownsRow w.heap.size 9 1 v (edP (tx s) k).length (txs (edP (tx s) k)) ∧ Below w.heap.size w w' := by
  have h12 : s.size ≤ 12 := by have := hw.1; rwa [tx_len] at this
  have HX12 : Hid ((tx s).length ≤ 12) := Lib.hid hw.1
  obtain ⟨i0, hii, hz0, hz1, hz2⟩ := info_parts infoS
  have HO0 := Lib.hid (World.ownsRow_lit (base := w.heap.size) (e := 9) (size := 1) w #[] 0 (Nat.le_refl _) (by unfold maxLen; omega) rfl)
  have HB0 : Hid (Below w.heap.size w (w.alloc (.cells #[] 9))) := Lib.hid ((Below.refl _ _).alloc (Nat.le_refl _) _)
  obtain ⟨u, hu⟩ : ∃ u, s ++ (⟨#[97]⟩ : ByteArray) = u := ⟨_, rfl⟩
  have HUx : Hid (tx u = tx s ++ [97]) := Lib.hid (by rw [← hu, tx_cat])
  have hus : u.size = s.size + 1 := by rw [← tx_len, HUx.out, List.length_append, List.length_singleton, tx_len]
  obtain ⟨n1, hn1⟩ : ∃ n1, u.size = n1 := ⟨_, rfl⟩
  have HN1 := Lib.hid hn1
  have HN1' : Hid (n1 = s.size + 1) := Lib.hid (by omega)
  have hn13 : n1 ≤ 13 := by omega
  have HUl : Hid (∀ j (h : j < u.size), u[j].toNat < 128) := Lib.hid (fun j h => by
    have h1 : (tx u)[j]? = some u[j] := by rw [List.getElem?_eq_getElem (by rw [tx_len]; exact h)]; rfl
    have h2 := List.mem_of_getElem? h1
    rw [HUx.out] at h2
    rcases List.mem_append.1 h2 with h2 | h2
    · have := hw.2 _ h2; omega
    · rw [List.mem_singleton.1 h2]; decide)
  have hcu : ¬ (9223372036854775807 < s.size + (⟨#[97]⟩ : ByteArray).size) := by show ¬ (9223372036854775807 < s.size + 1); omega
  have hcu' : ¬ (9223372036854775807 < s.size + 1) := by omega
  clear hus hn1 hw
  obtain ⟨p, hp⟩ : ∃ p, s.extract 0 k = p := ⟨_, rfl⟩
  obtain ⟨q, hq⟩ : ∃ q, s.extract k s.size = q := ⟨_, rfl⟩
  obtain ⟨r, hr⟩ : ∃ r, s.extract (k + 1) s.size = r := ⟨_, rfl⟩
  have HPx : Hid (tx p = (tx s).take k) := Lib.hid (by rw [← hp, tx_front])
  have HQx : Hid (tx q = (tx s).drop k) := Lib.hid (by rw [← hq, tx_back])
  have HRx : Hid (tx r = (tx s).drop (k + 1)) := Lib.hid (by rw [← hr, tx_back])
  have hps : p.size ≤ 12 := by rw [← tx_len, HPx.out, List.length_take, tx_len]; omega
  have hqs : q.size ≤ 12 := by rw [← tx_len, HQx.out, List.length_drop, tx_len]; omega
  have hrs : r.size ≤ 12 := by rw [← tx_len, HRx.out, List.length_drop, tx_len]; omega
  have HPs := Lib.hid hps
  have HQs := Lib.hid hqs
  have HRs := Lib.hid hrs
  have hk0 : (0 : Int) ≤ (k : Int) := by omega
  have hk1 : (k : Int) ≤ (s.size : Int) := by omega
  have hk2 : (0 : Int) ≤ (k : Int) + 1 := by omega
  have hk3 : ((k : Int) + 1).toNat = k + 1 := by omega
  have hkw : IntKind.i64.wrap ((k : Int) + 1) = (k : Int) + 1 := by unfold IntKind.wrap; simp [IntKind.bits]; omega
  clear hps hqs hrs
  go_enter Try.func37, Try.ntmps37
  go_upto_region 2 with fail
  obtain ⟨Wl, hWl⟩ : ∃ Wl, w.alloc (.cells #[] 9) = Wl := ⟨_, rfl⟩
  rw [hWl] at HO0 HB0 ⊢
  clear hWl
  have hzl : w.heap.size ≤ Wl.heap.size := HB0.out.size
  obtain ⟨t3, ht3⟩ : ∃ t3, p ++ r = t3 := ⟨_, rfl⟩
  have HT3 : Hid (tx t3 = (tx s).take k ++ (tx s).drop (k + 1)) := Lib.hid (by rw [← ht3, tx_cat, HPx.out, HRx.out])
  have hc4 : ¬ (9223372036854775807 < p.size + r.size) := by have := HPs.out; have := HRs.out; omega
  have hk5 : (k : Int) + 1 ≤ (s.size : Int) := by omega
  have HD : Hid (edDel (tx s) k = [tx t3]) := Lib.hid (by unfold edDel; rw [if_pos (by rw [tx_len]; exact hin), HT3.out])
  have HSk : Hid ((tx s)[k]? = some s[k]) := Lib.hid (by rw [List.getElem?_eq_getElem (by rw [tx_len]; exact hin)]; rfl)
  go_wp2
  go_region_held3 (fun w' => True) (trivial)
    (first | (refine step_append_row rfl _ _ 22 rfl w.heap.size 9 i0 (.string ByteArray.empty) 1 16 Try.underlying22 hii hz0 hz1 hz2 rfl (by decide) _ _ _ rfl ((own_stay HO0.out (Below.refl _ _).drew).alloc _) ⟨Wl.heap.size, 0, none⟩ 1 1 [.string t3] rfl rfl (cell_one_new _ _ _) (by simp [Value.oneCell']) (by unfold maxLen; omega) (by omega) (by simp; omega) ?_; intro v3 w3 hO6 hG6 _))
  obtain ⟨g0, c0, rfl, hOn, hBn, _⟩ := grow_app (xs := []) (by omega) HO0.out HB0.out hO6 hG6
  simp only [Nat.zero_add] at hOn ⊢
  have HO3 := Lib.hid hOn
  have HB3 := Lib.hid hBn
  have hz3w : w.heap.size ≤ w3.heap.size := hBn.size
  clear hO6 hG6 hOn hBn HO0 HB0
  have hio0 : w3.heap.size < (w3.alloc (.stringIter u 0)).heap.size := by simp
  go_wp2_with fail
  go_loopw [5] (fun o wr => ∃ (j m g c : Nat), j ≤ n1 ∧ o = .slice (some ⟨g, 0, none⟩) m c ∧ Hid ((edT (tx s) k j).length = m) ∧ Hid (wr.ownsRow w.heap.size 9 1 (.slice (some ⟨g, 0, none⟩) m c) m (txs (edT (tx s) k j))) ∧ Hid (wr.heap[w3.heap.size]? = some (.stringIter u j)) ∧ Hid (Below w.heap.size w wr)) (fun _ wr => n1 - wr.iterPos w3.heap.size)
  case atStart => exact ⟨0, 1, g0, c0, Nat.zero_le _, rfl, Lib.hid (by rw [edT_zero, HD.out]; rfl), Lib.hid (by rw [edT_zero, HD.out]; exact HO3.out.alloc _), Lib.hid (World.iter_heap w3 u 0), Lib.hid (HB3.out.alloc (by omega) _)⟩
  case round =>
    clear HO3 HB3
    obtain ⟨j, m, g, c, hj, rfl, HM, HO, HIt, HB⟩ := hrel
    have HP0 : Hid (wr.iterPos w3.heap.size = j) := Lib.hid (by simp [World.iterPos, HIt.out])
    have hm27 : m ≤ 27 := by have h1 := HM.out; have h2 := edT_len HX12.out k j; omega
    have hsI := (Array.getElem?_eq_some_iff.1 HIt.out).1
    have hzr : w.heap.size ≤ wr.heap.size := HB.out.size
    by_cases hlt2 : j < n1
    · have hlt' : j < u.size := by have := HN1.out; omega
      have hl := HUl.out j hlt'
      have hnx := fun ty => Lib.run_next_ascii_at (P := Try.prog) wr w3.heap.size u j ty HIt.out hlt' hl
      obtain ⟨W1, hW1⟩ : ∃ W1, wr.iterAt w3.heap.size u (j + 1) = W1 := ⟨_, rfl⟩
      have HI1 : Hid (W1.heap[w3.heap.size]? = some (.stringIter u (j + 1))) := Lib.hid (by rw [← hW1]; exact Lib.iterAt_heap wr _ u j (j + 1) HIt.out)
      have HB1 : Hid (Below w.heap.size w W1) := Lib.hid (by rw [← hW1]; exact Lib.below_iterAt HB.out (by omega) u (j + 1))
      have HO1 : Hid (W1.ownsRow w.heap.size 9 1 (.slice (some ⟨g, 0, none⟩) m c) m (txs (edT (tx s) k j))) := Lib.hid (by rw [← hW1]; exact own_iterAt HO.out HIt.out)
      simp only [hW1] at hnx
      clear hW1
      have hz1w : w.heap.size ≤ W1.heap.size := HB1.out.size
      obtain ⟨b, hb⟩ : ∃ b : UInt8, u[j] = b := ⟨_, rfl⟩
      rw [hb] at hl
      simp only [hb] at hnx
      have HBj : Hid ((tx s ++ [97])[j]? = some b) := Lib.hid (by rw [← HUx.out, List.getElem?_eq_getElem (by rw [tx_len]; exact hlt'), ← hb]; rfl)
      have HF := Lib.hid (edT_succ (k := k) HBj.out)
      obtain ⟨y, hy⟩ : ∃ y, Utf8.encode (b.toNat : Int) = y := ⟨_, rfl⟩
      have HY : Hid (tx y = [b]) := Lib.hid (by rw [← hy, enc_low b hl])
      have hys : y.size = 1 := by rw [← tx_len, HY.out]; rfl
      obtain ⟨py, hpy⟩ : ∃ py, p ++ y = py := ⟨_, rfl⟩
      have HPY : Hid (tx py = (tx s).take k ++ [b]) := Lib.hid (by rw [← hpy, tx_cat, HPx.out, HY.out])
      have hpys : py.size ≤ 13 := by rw [← tx_len, HPY.out, List.length_append, List.length_take]; simp; omega
      obtain ⟨t1, ht1⟩ : ∃ t1, py ++ q = t1 := ⟨_, rfl⟩
      obtain ⟨t2, ht2⟩ : ∃ t2, py ++ r = t2 := ⟨_, rfl⟩
      have HT1 : Hid (tx t1 = (tx s).take k ++ b :: (tx s).drop k) := Lib.hid (by rw [← ht1, tx_cat, HPY.out, HQx.out, List.append_assoc]; rfl)
      have HT2 : Hid (tx t2 = (tx s).take k ++ b :: (tx s).drop (k + 1)) := Lib.hid (by rw [← ht2, tx_cat, HPY.out, HRx.out, List.append_assoc]; rfl)
      have hc1 : ¬ (9223372036854775807 < p.size + y.size) := by have := HPs.out; omega
      have hc2 : ¬ (9223372036854775807 < py.size + q.size) := by have := HQs.out; omega
      have hc3 : ¬ (9223372036854775807 < py.size + r.size) := by have := HRs.out; omega
      have hw8 : IntKind.u8.wrap (b.toNat : Int) = (b.toNat : Int) := by unfold IntKind.wrap; simp [IntKind.bits]; omega
      clear hys hb hpys
      · have hi1 : (k : Int) < (s.size : Int) := by omega
        by_cases hyz : s[k].toNat = b.toNat
        · have HNe : Hid (¬ (k < (tx s).length ∧ (tx s)[k]? ≠ some b)) := Lib.hid (fun h => h.2 (by rw [HSk.out, UInt8.toNat_inj.1 hyz]))
          have HE : Hid (edOne (tx s) k b = []) := Lib.hid (by
            unfold edOne
            rw [if_neg (by rw [tx_len]; exact h11), if_neg HNe.out]
            simp [])
          have HNew : Hid (edT (tx s) k (j + 1) = edT (tx s) k j) := Lib.hid (by rw [HF.out, HE.out]; simp)
          go_wp2
          go_roundw
          case rel => exact ⟨j + 1, m, g, c, by omega, rfl, Lib.hid (by rw [HNew.out]; have := HM.out; first | exact this | (simp; omega)), Lib.hid (by rw [HNew.out]; exact HO1.out), HI1, HB1⟩
          case measure =>
            have e1 : W1.iterPos w3.heap.size = j + 1 := by simp [World.iterPos, HI1.out]
            rw [HP0.out, e1]
            omega
        · have HNe : Hid (k < (tx s).length ∧ (tx s)[k]? ≠ some b) := Lib.hid ⟨by rw [tx_len]; exact hin, fun h => hyz (by rw [HSk.out] at h; injection h with h; rw [h])⟩
          have HE : Hid (edOne (tx s) k b = [tx t2]) := Lib.hid (by
            unfold edOne
            rw [if_neg (by rw [tx_len]; exact h11), if_pos HNe.out]
            simp [HT2.out])
          have HNew : Hid (edT (tx s) k (j + 1) = edT (tx s) k j ++ [tx t2]) := Lib.hid (by rw [HF.out, HE.out])
          go_wp2
          go_region_held3 (fun w' => True) (trivial)
            (first | (refine step_append_row rfl _ _ 22 rfl w.heap.size 9 i0 (.string ByteArray.empty) 1 16 Try.underlying22 hii hz0 hz1 hz2 rfl (by decide) _ _ _ rfl ((own_stay HO1.out (Below.refl _ _).drew).alloc _) ⟨W1.heap.size, 0, none⟩ 1 1 [.string t2] rfl rfl (cell_one_new _ _ _) (by simp [Value.oneCell']) (by unfold maxLen; omega) (by omega) (by simp; omega) ?_; intro v5 w5 hO6 hG6 _))
          obtain ⟨g5, c5, rfl, hOn, hBn, hIn⟩ := grow_app (by omega) HO1.out HB1.out hO6 hG6
          have HO5 := Lib.hid hOn
          have HB5 := Lib.hid hBn
          have HI5 := Lib.hid (hIn _ _ _ HI1.out)
          have hz5w : w.heap.size ≤ w5.heap.size := hBn.size
          clear hO6 hG6 hOn hBn hIn
          go_wp2
          go_roundw
          case rel => exact ⟨j + 1, m + 1, g5, c5, by omega, rfl, Lib.hid (by rw [HNew.out]; have := HM.out; first | exact this | (simp; omega)), Lib.hid (by rw [HNew.out]; exact HO5.out), HI5, HB5⟩
          case measure =>
            have e1 : w5.iterPos w3.heap.size = j + 1 := by simp [World.iterPos, HI5.out]
            rw [HP0.out, e1]
            omega
    · have hnx := fun ty => Lib.run_next_end_at (P := Try.prog) wr w3.heap.size u j ty HIt.out (by have := HN1.out; omega)
      have HEq : Hid (edT (tx s) k j = edP (tx s) k) := Lib.hid (edT_all _ _ (by rw [tx_len]; have := HN1'.out; omega))
      have HMe : Hid ((edP (tx s) k).length = m) := Lib.hid (by rw [← HEq.out]; exact HM.out)
      go_wp2
      go_ret
      exact ⟨_, rfl, by rw [HMe.out, ← HEq.out]; exact HO.out, HB.out⟩

end Go.Proofs.Ytmgieahachphmaa
