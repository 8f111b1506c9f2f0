/-
  EditsOf: what the program's functions answer; both answer the same.
-/
import Derived.Test.YtmgieahachphmaaEditB
import Derived.Test.YtmgieahachphmaaEditC
import Derived.Test.YtmgieahachphmaaWord
import Derived.Test.YtmgieahachphmaaSortS
namespace Go.Proofs.Ytmgieahachphmaa
open Go.RowKit
set_option linter.unusedVariables false

theorem editsAt_any (s : ByteArray) (k : Nat) (hk : k ≤ s.size) (hw : IsW (tx s)) (w : World) :
    Calls Try.prog 37 #[.string s, .int .i64 k] w fun e w' => ∃ v, e = .returned v ∧ w'.ownsRow w.heap.size 9 1 v (edP (tx s) k).length (txs (edP (tx s) k)) ∧ Below w.heap.size w w' := by
  by_cases hin : k < s.size
  · by_cases h11 : s.size < 12
    · exact editsAt_small s k hk hin h11 hw w
    · exact editsAt_full s k hk hin h11 hw w
  · exact editsAt_end s k hk hin hw w

set_option maxRecDepth 1000000 in
set_option maxHeartbeats 4000000 in
theorem implEdits_any (s : ByteArray) (hs : s.size ≤ 1048576) (w : World) :
    Calls Try.prog 11 #[.string s] w (ownS.OwnTexts w (if okW s = true then edits (tx s) else []) (okW s)) := by
  unfold ownS.OwnTexts
  have cT := Lib.hid (fun W => implIsWord_any s W (by omega))
  cases ht : okW s with
  | false =>
    rw [ht] at cT
    rw [if_neg (by simp)]
    clear ht
    go_enter Try.func11, Try.ntmps11
    go_wp2_with fail
    refine (cT.out _).mono ?_
    rintro e w1 ⟨rfl, hb1⟩
    have HB1 := Lib.hid hb1
    clear hb1
    go_wp2
    go_ret2
    exact ⟨_, rfl, ⟨rfl, .inl ⟨rfl, rfl⟩⟩, HB1.out⟩
  | true =>
    have h12 := okW_size ht
    have HIs := Lib.hid (okW_isW ht)
    have HX12 : Hid ((tx s).length ≤ 12) := Lib.hid (okW_isW ht).1
    rw [ht] at cT
    rw [if_pos rfl]
    clear ht
    obtain ⟨i0, hii, hz0, hz1, hz2⟩ := info_parts infoS
    go_enter Try.func11, Try.ntmps11
    go_wp2_with fail
    refine (cT.out _).mono ?_
    rintro e w1 ⟨rfl, hb1⟩
    have HO1 := Lib.hid (own_down (World.ownsRow_lit (base := w1.heap.size) (e := 9) (size := 1) w1 #[] 0 (Nat.le_refl _) (by unfold maxLen; omega) rfl) hb1.size)
    have HB1 : Hid (Below w.heap.size w (w1.alloc (.cells #[] 9))) := Lib.hid (hb1.alloc hb1.size _)
    clear hb1
    go_wp2_with fail
    go_loopw [4, 13] (fun o i wr => ∃ (k m g c : Nat), k ≤ s.size + 1 ∧ i = .int .i64 k ∧ o = .slice (some ⟨g, 0, none⟩) m c ∧ Hid ((edAll edP (tx s) k).length = m) ∧ Hid (wr.ownsRow w.heap.size 9 1 (.slice (some ⟨g, 0, none⟩) m c) m (txs (edAll edP (tx s) k))) ∧ Hid (Below w.heap.size w wr)) (fun _ i _ => s.size + 1 - (intOf i).toNat)
    case atStart => exact ⟨0, 0, _, 0, Nat.zero_le _, rfl, rfl, Lib.hid rfl, HO1, HB1⟩
    case round =>
      clear HO1 HB1
      obtain ⟨k, m, g, c, hk, rfl, rfl, HM, HO, HB⟩ := hrel
      have hm : m ≤ 351 := by
        have h1 := HM.out
        have h2 := edAll_len (f := edP) (edP_len HX12.out) k
        have : k * 27 ≤ 13 * 27 := Nat.mul_le_mul (by omega) (Nat.le_refl _)
        omega
      by_cases hlt : k < s.size + 1
      · have cE := Lib.hid (editsAt_any s k (by omega) HIs.out wr)
        have hp27 := edP_len HX12.out k
        have HS : Hid (edAll edP (tx s) (k + 1) = edAll edP (tx s) k ++ edP (tx s) k) := Lib.hid (edAll_succ _ _ _)
        have HP1 := Lib.hid (edAll_pos (tx s) k)
        have HPr : Hid (∀ v ∈ txs (edP (tx s) k), v.oneCell' = true) := Lib.hid (fun v hv => by
          obtain ⟨x, _, rfl⟩ := List.mem_map.1 hv
          rfl)
        obtain ⟨z, hz⟩ : ∃ z, edP (tx s) k = z := ⟨_, rfl⟩
        rw [hz] at cE hp27 HS HPr
        clear hz
        obtain ⟨m2, hm2⟩ : ∃ m2, z.length = m2 := ⟨_, rfl⟩
        have HM2 := Lib.hid hm2
        rw [hm2] at cE hp27
        clear hm2
        have hzr : w.heap.size ≤ wr.heap.size := HB.out.size
        have HPos : Hid (0 < m + m2) := Lib.hid (by have := HP1.out; rw [HS.out, List.length_append, HM.out, HM2.out] at this; exact this)
        go_wp2_with (first
          | (go_at_call 37; refine cE.out.mono ?_; rintro e w3 ⟨v3, rfl, hO3, hb3⟩; obtain ⟨a3, c3, rfl⟩ := own_slice hO3; have HSl := Lib.hid (Sl.of_own hO3); have HO3 := Lib.hid (own_stay HO.out hb3); have HB3 := Lib.hid (HB.out.trans (hb3.mono HB.out.size)); have hz3 : w.heap.size ≤ w3.heap.size := HB3.out.size; clear hO3 hb3)
          | (at_builtin; refine wpList_append_sl rfl _ _ 22 rfl w.heap.size 9 i0 (.string ByteArray.empty) 16 Try.underlying22 hii hz0 hz1 hz2 rfl _ _ _ rfl HO3.out rfl HSl.out HPr.out (by unfold maxLen; omega) (by omega) hz3 ?_; intro v4 w4 hO4 hG4; obtain ⟨g4, c4, rfl, _, _⟩ := hO4.form HPos.out; have HB4 : Hid (Below w.heap.size w w4) := Lib.hid (HB3.out.trans (below_grown HO3.out (Nat.le_refl _) hz3 hG4)); have HG4 : Hid (w3.grownBy w4 (some g)) := Lib.hid hG4; have HO4 := Lib.hid hO4; clear hO4 hG4))
        go_roundw
        case rel => exact ⟨k + 1, m + m2, g4, c4, by omega, by go_num, rfl, Lib.hid (by rw [HS.out, List.length_append, HM.out, HM2.out]), Lib.hid (by rw [HS.out, txs_app]; exact HO4.out), HB4⟩
        case measure => simp [intOf]; omega
      · have e : k = s.size + 1 := by omega
        have HK : Hid (k = (tx s).length + 1) := Lib.hid (by rw [tx_len]; exact e)
        clear e
        have cS := Lib.hid (sort_own HO.out (by omega))
        go_wp2_with fail
        refine cS.out.mono ?_
        rintro e w5 ⟨rfl, hO5, hg5⟩
        have cC := Lib.hid (compact_own hO5 (by omega))
        have HG5 := Lib.hid hg5
        have HO5 := Lib.hid hO5
        clear hO5 hg5
        go_wp2_with fail
        refine cC.out.mono ?_
        rintro e w6 ⟨rfl, hO6, hg6⟩
        have HO6 := Lib.hid hO6
        have HG6 := Lib.hid hg6
        clear hO6 hg6
        go_wp2
        go_ret2
        refine ⟨_, rfl, by have := HO6.out; rw [HK.out, edits_sorted] at this; rwa [HK.out, edits_sorted], ?_⟩
        have hb5 : Below w.heap.size wr w5 := below_grown HO.out (Nat.le_refl _) HB.out.size HG5.out
        have hb6 : Below w.heap.size w5 w6 := below_grown HO5.out (Nat.le_refl _) (Nat.le_trans HB.out.size hb5.size) HG6.out
        exact HB.out.trans (hb5.trans hb6)

theorem agreeEditsOf (s : ByteArray) (hs : s.size ≤ 1048576) : ∃ (ws : List Txt) (ok : Bool), ws.length ≤ 1000 ∧ (∀ x ∈ ws, x.length ≤ 9223372036854775807) ∧
    (∀ W : World, Calls Try.prog 10 #[.string s] W (ownS.OwnTexts W ws ok)) ∧
    (∀ W : World, Calls Try.prog 11 #[.string s] W (ownS.OwnTexts W ws ok)) := by
  refine ⟨_, _, ?_, ?_, specEdits_any s hs, implEdits_any s hs⟩
  · split
    · next h => have := edits_len (okW_isW h).1; omega
    · simp
  · intro x hx
    split at hx
    · next h => have := edits_short (okW_isW h).1 x hx; omega
    · simp at hx

end Go.Proofs.Ytmgieahachphmaa
