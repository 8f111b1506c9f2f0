/-
  EndsOf: both functions answer the same.
-/
import Derived.Test.YtifkggapdaflmaaEnds8
import Derived.Test.YtifkggapdaflmaaOrdered8
import Derived.Test.YtifkggapdaflmaaMarkOwnI
namespace Go.Proofs.Ytifkggapdaflmaa
open Go.RowKit
set_option linter.unusedVariables false

set_option maxRecDepth 1000000 in
set_option maxHeartbeats 1000000 in
theorem specEndsOf_any (s : ByteArray) (hs : s.size ≤ 1048576) (W : World) :
    Calls Try.prog 26 #[.string s] W (ownI.OwnNums W (if okT s = true then plo s.size (endsO (tx s)) else []) (okT s)) := by
  have cT := Lib.hid (fun W => l8Text_any s W (by omega))
  unfold ownI.OwnNums
  cases ht : okT s with
  | true =>
    have h16 := okT_size ht
    rw [ht] at cT
    rw [if_pos rfl]
    have cP := Lib.hid (fun W => l8Ends_any s W h16)
    obtain ⟨ps, hps⟩ : ∃ ps, plo s.size (endsO (tx s)) = ps := ⟨_, rfl⟩
    rw [hps] at cP ⊢
    clear ht hps
    go_enter Try.func26, Try.ntmps26
    go_wp2_with fail
    refine (cT.out _).mono ?_
    rintro e w1 ⟨rfl, rfl⟩
    go_wp2_with fail
    refine (cP.out _).mono ?_
    rintro e w2 ⟨v, rfl, hO, hb2⟩
    have HO := Lib.hid hO
    have HB2 := Lib.hid hb2
    clear hO hb2
    go_wp2
    go_ret2
    exact ⟨_, rfl, HO.out, HB2.out⟩
  | false =>
    rw [ht] at cT
    rw [if_neg (by simp)]
    clear ht
    go_enter Try.func26, Try.ntmps26
    go_wp2_with fail
    refine (cT.out _).mono ?_
    rintro e w1 ⟨rfl, rfl⟩
    go_wp2
    go_ret2
    exact ⟨_, rfl, ownI.own_lit0 (Nat.le_refl _), (Below.refl _ _).alloc (Nat.le_refl _) _⟩

set_option maxRecDepth 1000000 in
set_option maxHeartbeats 2000000 in
theorem implEndsOf_any (s : ByteArray) (hs : s.size ≤ 1048576) (w : World) :
    Calls Try.prog 27 #[.string s] w (ownI.OwnNums w (if okT s = true then plo s.size (endsO (tx s)) else []) (okT s)) := by
  have cT := Lib.hid (fun W => implIsText_any s W (by omega))
  unfold ownI.OwnNums
  cases ht : okT s with
  | true =>
    have h16 := okT_size ht
    rw [ht] at cT
    rw [if_pos rfl]
    have cE := Lib.hid (fun W => endsByPlace_any s W ht)
    have HLn : Hid ((endsO (tx s)).length = s.size) := Lib.hid (by rw [endsO_len, tx_len])
    have HSrt := Lib.hid (sorted_ends (tx s))
    obtain ⟨i0, hii, hz0, hz1, hz2⟩ := info_parts infoI
    obtain ⟨n, hn⟩ : ∃ n, s.size = n := ⟨_, rfl⟩
    have HNN := Lib.hid hn
    rw [hn] at cE HLn ⊢
    have hn16 : n ≤ 16 := by omega
    clear ht hn h16
    go_enter Try.func27, Try.ntmps27
    go_wp2_with fail
    refine (cT.out _).mono ?_
    rintro e w1 ⟨rfl, hb1⟩
    have HB1 := Lib.hid hb1
    clear hb1
    go_wp2_with fail
    refine (cE.out _).mono ?_
    rintro e w2 ⟨rfl, hO2, hb2⟩
    have h12 : w1.heap.size < w2.heap.size := own_lt hO2
    have HE2 := Lib.hid hO2
    have HB2 := Lib.hid (HB1.out.trans (hb2.mono HB1.out.size))
    have h01 := HB1.out.size
    clear hO2 hb2
    have HB3 : Hid (Below w.heap.size w (w2.alloc (.cells #[] 3))) := Lib.hid (HB2.out.alloc (by omega) _)
    have HL3 : Hid ((w2.alloc (.cells #[] 3)).ownsRow w1.heap.size 3 1 (.slice (some ⟨w2.heap.size, 0, none⟩) 0 0) 0 []) := Lib.hid (World.ownsRow_lit w2 #[] 0 (by omega) (by unfold maxLen; omega) rfl)
    have HE3 := Lib.hid (HE2.out.alloc (.cells #[] 3))
    have hz3 : Hid ((w2.alloc (.cells #[] 3)).heap.size = w2.heap.size + 1) := Lib.hid (by simp)
    go_wp2_with fail
    obtain ⟨w3, hw3⟩ : ∃ w3, w2.alloc (.cells #[] 3) = w3 := ⟨_, rfl⟩
    rw [hw3] at HB3 HL3 HE3 hz3 ⊢
    clear hw3
    refine (orderedEnds_any _ _ _ _ _ w3 HE3.out (by omega)).mono ?_
    rintro e w4 ⟨rfl, hO4, hb4⟩
    rw [HSrt.out] at hO4
    rw [hz3.out] at hO4
    simp only [hz3.out]
    have h24 : w2.heap.size + 1 < w4.heap.size := own_lt hO4
    have HO4 : Hid (w4.ownsRow w1.heap.size 9 1 (.slice (some ⟨w2.heap.size + 1, 0, none⟩) n n) n (txs (endsO (tx s)))) := Lib.hid (own_down hO4 (by omega))
    have HE4 := Lib.hid (own_stay HE3.out hb4)
    have HL4 := Lib.hid (own_stay HL3.out hb4)
    have HB4 := Lib.hid (HB3.out.trans (hb4.mono HB3.out.size))
    clear hO4 hb4 HE3 HL3 HB3 HE2 HB2 HB1
    go_wp2_with fail
    go_loopw [5, 17] (fun o i wr => ∃ (j g c2 : Nat), j ≤ n ∧ i = .int .i64 j ∧ o = .slice (some ⟨g, 0, none⟩) j c2 ∧ (g = w2.heap.size ∨ w4.heap.size ≤ g) ∧ Hid (wr.ownsRow w1.heap.size 3 1 (.slice (some ⟨g, 0, none⟩) j c2) j (nums (plo n ((endsO (tx s)).take j)))) ∧ Hid (wr.ownsRow w1.heap.size 9 1 (.slice (some ⟨w1.heap.size, 0, none⟩) n n) n (txs (endsL (tx s)))) ∧ Hid (wr.ownsRow w1.heap.size 9 1 (.slice (some ⟨w2.heap.size + 1, 0, none⟩) n n) n (txs (endsO (tx s)))) ∧ w4.heap.size ≤ wr.heap.size ∧ Hid (Below w.heap.size w wr)) (fun _ i _ => n - (intOf i).toNat)
    case atStart => exact ⟨0, w2.heap.size, 0, Nat.zero_le _, rfl, rfl, .inl rfl, HL4, HE4, HO4, Nat.le_refl _, HB4⟩
    case round =>
      clear HL4 HE4 HO4 HB4
      obtain ⟨j, g, c2, hj, rfl, rfl, hg, HO, HE, HS, hzr, HB⟩ := hrel
      by_cases hlt : j < n
      · have hlt' : j < (endsO (tx s)).length := by have := HLn.out; omega
        obtain ⟨x, hx⟩ : ∃ x, (endsO (tx s))[j]? = some x := ⟨_, List.getElem?_eq_getElem hlt'⟩
        have hc := (HS.out.cellAt j (by omega)).trans (txs_at hx)
        have HPl := Lib.hid (plo_snoc n _ j _ hx)
        have hmem := List.mem_of_getElem? hx
        have hid := ends_idx hmem
        have hxl := (endsO_drop hmem).2
        rw [tx_len, HNN.out] at hid hxl
        obtain ⟨hxl1, hxl2⟩ := hxl
        have cI := Lib.hid (fun (W : World) hW => index_any w1.heap.size w1.heap.size n n (endsL (tx s)) x (n - x.length) W hW (by omega) hid.1 hid.2)
        obtain ⟨p, hp⟩ : ∃ p, n - x.length = p := ⟨_, rfl⟩
        rw [hp] at cI HPl
        have HV : Hid (nums [p] = [Value.int .i64 (p : Int)]) := Lib.hid rfl
        clear hx hmem hid hp hxl1 hxl2
        go_wp2_with (first
          | (go_at_call 41; refine (cI.out _ HE.out).mono ?_; rintro e w5 ⟨rfl, rfl⟩)
          | (at_builtin; refine wpList_append_own_at _ rfl _ _ 30 rfl w1.heap.size 3 i0 (.int .i64 0) 1 8 Try.underlying30 hii hz0 hz1 hz2 rfl (by decide) _ _ _ rfl (HO.out.alloc _) ⟨wr.heap.size, 0, none⟩ 1 1 [.int .i64 (p : Int)] rfl rfl (cell_one_new _ _ _) (by simp [Value.oneCell']) (by unfold maxLen; omega) (by omega) (by simp; omega) ?_; intro v3 w6 hO3 hG3 _ hat; obtain ⟨g', cap', rfl⟩ := own_succ hO3; have HO3 := Lib.hid hO3; have HG3 : Hid ((wr.alloc (.cells #[.int .i64 (p : Int)] 3)).grownBy w6 (some g)) := Lib.hid hG3; have HAt : Hid ((some g' : Option Nat) = some g ∨ some g' = some (wr.alloc (.cells #[.int .i64 (p : Int)] 3)).heap.size) := Lib.hid hat; clear hO3 hG3 hat))
        have hag : g' = w2.heap.size ∨ w4.heap.size ≤ g' := by
          rcases HAt.out with h | h
          · injection h with h; omega
          · injection h with h; rw [World.size_alloc] at h; exact .inr (by omega)
        have hz6 := HG3.out.size
        rw [World.size_alloc] at hz6
        have HB6 : Hid (Below w.heap.size w w6) := Lib.hid ((HB.out.alloc (by omega) _).trans (below_grown (HO.out.alloc _) (by omega) (by simp; omega) HG3.out))
        have HE6 := Lib.hid ((HE.out.alloc (.cells #[.int .i64 (p : Int)] 3)).kept HG3.out (.inr (by simp only [Value.ownBlock]; intro e; injection e with e; omega)))
        have HS6 := Lib.hid ((HS.out.alloc (.cells #[.int .i64 (p : Int)] 3)).kept HG3.out (.inr (by simp only [Value.ownBlock]; intro e; injection e with e; omega)))
        have hz6' : w4.heap.size ≤ w6.heap.size := by omega
        clear hz6 hc
        go_wp2
        go_roundw
        case rel => exact ⟨j + 1, g', cap', by omega, by go_num, rfl, hag, Lib.hid (by rw [HPl.out, nums_app, HV.out]; exact HO3.out), HE6, HS6, hz6', HB6⟩
        case measure => simp [intOf]; omega
      · have hjn : j = n := by omega
        have HF : Hid ((endsO (tx s)).take j = endsO (tx s)) := Lib.hid (List.take_of_length_le (by rw [HLn.out]; omega))
        have HL2 : Hid ((plo n (endsO (tx s))).length = j) := Lib.hid (by rw [plo_len, HLn.out, hjn])
        clear hjn
        go_wp2
        go_ret2
        exact ⟨_, rfl, by rw [HL2.out]; have := own_down HO.out h01; rwa [HF.out] at this, HB.out⟩
  | false =>
    rw [ht] at cT
    rw [if_neg (by simp)]
    clear ht
    go_enter Try.func27, Try.ntmps27
    go_wp2_with fail
    refine (cT.out _).mono ?_
    rintro e w1 ⟨rfl, hb1⟩
    have HB1 := Lib.hid hb1
    clear hb1
    go_wp2
    go_ret2
    exact ⟨_, rfl, ⟨rfl, .inl ⟨rfl, rfl⟩⟩, HB1.out⟩

theorem agreeEndsOf (s : ByteArray) (hs : s.size ≤ 1048576) : ∃ (ws : List Nat) (ok : Bool), ws.length ≤ 1000 ∧
    (∀ W : World, Calls Try.prog 26 #[.string s] W (ownI.OwnNums W ws ok)) ∧
    (∀ W : World, Calls Try.prog 27 #[.string s] W (ownI.OwnNums W ws ok)) := by
  refine ⟨_, _, ?_, specEndsOf_any s hs, implEndsOf_any s hs⟩
  split
  · next h => have := okT_size h; rw [plo_len, endsO_len, tx_len]; omega
  · simp

end Go.Proofs.Ytifkggapdaflmaa
