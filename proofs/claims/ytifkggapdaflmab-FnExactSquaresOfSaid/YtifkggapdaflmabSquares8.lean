/-
  SquaresOf: both functions answer the same.
-/
import Derived.Test.YtifkggapdaflmabPwSquares
import Derived.Test.YtifkggapdaflmabSquare8
import Derived.Test.YtifkggapdaflmabBes2
import Derived.Test.YtifkggapdaflmabMarkOwnS
import Derived.Deep.QuietTactic
import Derived.BigQuiet
import Derived.IntWalk
namespace Go.Proofs.Ytifkggapdaflmab
open Go.RowKit
set_option linter.unusedVariables false

set_option maxRecDepth 1000000 in
set_option maxHeartbeats 4000000 in
theorem specSquares_any (s : ByteArray) (hs : s.size ≤ 1048576) (w : World) :
    Calls Try.prog 18 #[.string s] w (ownS.OwnTexts w (if okT s = true then (prt (tx s)).filter sqrB else []) (okT s)) := by
  have cT := Lib.hid (fun W => l8Text_any s W (by omega))
  have HL0 : Hid ((w.alloc (.cells #[] 9)).ownsRow w.heap.size 9 1 (.slice (some ⟨w.heap.size, 0, none⟩) 0 0) 0 []) := Lib.hid (World.ownsRow_lit w #[] 0 (Nat.le_refl _) (by unfold maxLen; omega) rfl)
  have HK0 : Hid ((w.alloc (.cells #[] 9)).heap[w.heap.size]? = some (.cells #[] 9 (0, 0))) := Lib.hid (heap_alloc_new w (.cells #[] 9))
  have HB0 : Hid (Below w.heap.size w (w.alloc (.cells #[] 9))) := Lib.hid ((Below.refl _ _).alloc (Nat.le_refl _) _)
  unfold ownS.OwnTexts
  cases ht : okT s with
  | true =>
    have h16 := okT_size ht
    rw [ht] at cT
    rw [if_pos rfl]
    have cP := Lib.hid (fun W => l8Parts_any s W h16)
    have hp256 : (prt (tx s)).length ≤ 256 := by
      have h1 := prt_len (tx s)
      rw [tx_len] at h1
      exact Nat.le_trans h1 (Nat.mul_le_mul h16 h16)
    have HWd : Hid (∀ x ∈ prt (tx s), x.length ≤ 16) := Lib.hid (fun x hx => by
      have := prt_short hx
      rw [tx_len] at this
      omega)
    obtain ⟨ps, hps⟩ : ∃ ps, prt (tx s) = ps := ⟨_, rfl⟩
    rw [hps] at cP hp256 HWd ⊢
    obtain ⟨i0, hi, hz0, hz1, hz2⟩ := info_parts infoS
    clear ht hps
    go_enter Try.func18, Try.ntmps18
    go_wp2_with fail
    refine (cT.out _).mono ?_
    rintro e w1 ⟨rfl, rfl⟩
    have hsz1 : (w.alloc (.cells #[] 9)).heap.size = w.heap.size + 1 := by simp
    obtain ⟨w1, hw1⟩ : ∃ w1, w.alloc (.cells #[] 9) = w1 := ⟨_, rfl⟩
    rw [hw1] at HL0 HB0 HK0 hsz1 ⊢
    clear hw1
    have HZ1 := Lib.hid hsz1
    clear hsz1
    go_wp2_with fail
    refine (cP.out _).mono ?_
    rintro e w2 ⟨a, n, c, rfl, hW2, hb2⟩
    have hnl := hW2.len
    have HNl := Lib.hid hnl
    have hn256 : n ≤ 256 := by omega
    have hwz : w.heap.size < w1.heap.size := by rw [HZ1.out]; omega
    have HS2 := Lib.hid (Bes.empty hW2 ((hb2.block w.heap.size hwz).trans HK0.out))
    have HL2 := Lib.hid (own_stay HL0.out hb2)
    have HB2 := Lib.hid (HB0.out.trans (hb2.mono HB0.out.size))
    have hwz2 : w.heap.size < w2.heap.size := Nat.lt_of_lt_of_le hwz hb2.size
    clear hW2 hb2 HL0 HB0 HK0 HZ1 hnl hwz
    go_wp2_with fail
    go_loopw [4, 6] (fun o i wr => ∃ (k m g c2 : Nat), k ≤ n ∧ i = .int .i64 k ∧ o = .slice (some ⟨g, 0, none⟩) m c2 ∧ Hid (((ps.take k).filter sqrB).length = m) ∧ Hid (wr.ownsRow w.heap.size 9 1 (.slice (some ⟨g, 0, none⟩) m c2) m (txs ((ps.take k).filter sqrB))) ∧ Hid (Bes w2.heap.size wr a n c ps g) ∧ w2.heap.size ≤ wr.heap.size ∧ Hid (Below w.heap.size w wr)) (fun _ i _ => n - (intOf i).toNat)
    case atStart => exact ⟨0, 0, w.heap.size, 0, Nat.zero_le _, rfl, rfl, Lib.hid rfl, HL2, HS2, Nat.le_refl _, HB2⟩
    case round =>
      clear HL2 HS2 HB2
      obtain ⟨k, m, g, c2, hk, rfl, rfl, HM, HO, HS, hzr, HB⟩ := hrel
      by_cases hlt : k < n
      · obtain ⟨b, o, x, rfl, hbB, hx, hxz, hc⟩ := Wds.elem HS.out.wds k hlt
        have hxl := HWd.out (tx x) (List.mem_of_getElem? hx)
        rw [tx_len] at hxl
        have hm256 : m ≤ 256 := by
          rw [← HM.out]
          have h1 := List.length_filter_le sqrB (ps.take k)
          have h2 : (ps.take k).length ≤ ps.length := by rw [List.length_take]; exact Nat.min_le_right _ _
          omega
        have hk0 : (0 : Int) ≤ (k : Int) := by omega
        have hk1 : (k : Int) < (n : Int) := by omega
        have hTk : ps.take (k + 1) = ps.take k ++ [tx x] := by
          obtain ⟨hkl, e⟩ := List.getElem?_eq_some_iff.1 hx
          rw [List.take_succ_eq_append_getElem hkl, e]
        have HTk := Lib.hid hTk
        clear hx hTk
        have hq := sqr_eq x
        obtain ⟨h, hh⟩ : ∃ h, x.size / 2 = h := ⟨_, rfl⟩
        have h0 : ((x.size : Int) / 2) = (h : Int) := by omega
        rw [hh] at hq
        have h1 : (0 : Int) ≤ (h : Int) := by omega
        have h2 : (h : Int) ≤ (x.size : Int) := by omega
        obtain ⟨pb, hpb⟩ : ∃ pb, sqrB (tx x) = pb := ⟨_, rfl⟩
        have HPb := Lib.hid hpb
        rw [hpb] at hq
        have hodd : x.size % 2 = 1 → pb = false := fun e => by
          cases pb with
          | false => rfl
          | true => have := sqrB_even hpb; rw [tx_len] at this; omega
        clear hh hpb
        by_cases hev : x.size % 2 = 0
        · have he1 : ((x.size : Int) % 2) = 0 := by omega
          have he2 : ((x.size : Int) % 2 == 0) = true := by rw [he1]; rfl
          have he3 : (x.size % 2 == 0) = true := by rw [hev]; rfl
          clear hodd hev
          cases pb
          · have HN : Hid ((ps.take (k + 1)).filter sqrB = (ps.take k).filter sqrB) := Lib.hid (by rw [HTk.out, List.filter_append, List.filter_cons_of_neg (by rw [HPb.out]; simp), List.filter_nil, List.append_nil])
            go_wp2_with fail
            go_quiet (fail)
            go_wp2
            go_roundw
            case rel => exact ⟨k + 1, m, g, c2, by omega, by go_num, rfl, Lib.hid (by rw [HN.out, HM.out]), Lib.hid (by rw [HN.out]; exact own_stay HO.out (below_drewN (Below.refl _ _) _)), Lib.hid (HS.out.on hzr (below_drewN (Below.refl _ _) _)), by simpa using hzr, Lib.hid (below_drewN HB.out _)⟩
            case measure => simp [intOf]; omega
          · have HN : Hid ((ps.take (k + 1)).filter sqrB = (ps.take k).filter sqrB ++ [tx x]) := Lib.hid (by rw [HTk.out, List.filter_append, List.filter_cons_of_pos HPb.out, List.filter_nil])
            go_wp2_with fail
            go_quiet (fail)
            have HO4 := Lib.hid (own_stay HO.out (below_drewN (Below.refl _ wr) nq))
            have HS4 := Lib.hid (HS.out.on hzr (below_drewN (Below.refl _ _) nq))
            have HB4 := Lib.hid (below_drewN HB.out nq)
            have hc4 : (wr.drewN nq).cell? ⟨b, o + k, none⟩ = some (.string x) := by simpa using hc
            have hz4 : w2.heap.size ≤ (wr.drewN nq).heap.size := by simpa using hzr
            obtain ⟨w4, hw4⟩ : ∃ w4, wr.drewN nq = w4 := ⟨_, rfl⟩
            rw [hw4] at HO4 HS4 HB4 hc4 hz4 ⊢
            clear hw4 hc
            go_wp2_with ((at_builtin; refine wpList_append_own_at _ rfl _ _ 29 rfl w.heap.size 9 i0 (.string ByteArray.empty) 1 16 Try.underlying29 hi hz0 hz1 hz2 rfl (by decide) _ _ _ rfl (HO4.out.alloc _) ⟨w4.heap.size, 0, none⟩ 1 1 [.string x] rfl rfl (cell_one_new _ _ _) (by simp [Value.oneCell']) (by unfold maxLen; omega) (by omega) (by simp; omega) ?_; intro v3 w3 hO3 hG3 _ hat; obtain ⟨g', cap', rfl⟩ := own_succ hO3; have HO3 := Lib.hid hO3; have HG3 : Hid ((w4.alloc (.cells #[.string x] 9)).grownBy w3 (some g)) := Lib.hid hG3; have HAt : Hid ((some g' : Option Nat) = some g ∨ some g' = some (w4.alloc (.cells #[.string x] 9)).heap.size) := Lib.hid hat; clear hO3 hG3 hat))
            have hag : g' = g ∨ w2.heap.size ≤ g' := by
              rcases HAt.out with h | h
              · injection h with h; exact .inl h
              · injection h with h; rw [World.size_alloc] at h; exact .inr (by omega)
            have hz3 := HG3.out.size
            rw [World.size_alloc] at hz3
            have HB3 : Hid (Below w.heap.size w w3) := Lib.hid ((HB4.out.alloc (by omega) _).trans (below_grown (HO4.out.alloc _) (by omega) (by simp; omega) HG3.out))
            have HS3 := Lib.hid (HS4.out.app hz4 HG3.out hag)
            have hz3' : w2.heap.size ≤ w3.heap.size := by omega
            clear hz3 hag
            go_wp2
            go_roundw
            case rel => exact ⟨k + 1, m + 1, g', cap', by omega, by go_num, rfl, Lib.hid (by rw [HN.out, List.length_append, HM.out]; rfl), Lib.hid (by rw [HN.out, txs_app]; have := HO3.out; simpa [txs, bx_tx] using this), HS3, hz3', HB3⟩
            case measure => simp [intOf]; omega
        · have he1 : ((x.size : Int) % 2) = 1 := by omega
          have he2 : ((x.size : Int) % 2 == 0) = false := by rw [he1]; rfl
          have he3 : (x.size % 2 == 0) = false := by rw [show x.size % 2 = 1 by omega]; rfl
          have hpf := hodd (by omega)
          subst hpf
          have HN : Hid ((ps.take (k + 1)).filter sqrB = (ps.take k).filter sqrB) := Lib.hid (by rw [HTk.out, List.filter_append, List.filter_cons_of_neg (by rw [HPb.out]; simp), List.filter_nil, List.append_nil])
          clear hodd hev
          go_wp2_with fail
          go_quiet (fail)
          go_wp2
          go_roundw
          case rel => exact ⟨k + 1, m, g, c2, by omega, by go_num, rfl, Lib.hid (by rw [HN.out, HM.out]), Lib.hid (by rw [HN.out]; exact own_stay HO.out (below_drewN (Below.refl _ _) _)), Lib.hid (HS.out.on hzr (below_drewN (Below.refl _ _) _)), by simpa using hzr, Lib.hid (below_drewN HB.out _)⟩
          case measure => simp [intOf]; omega
      · have HF : Hid (ps.take k = ps) := Lib.hid (List.take_of_length_le (by have := HNl.out; omega))
        go_wp2
        go_ret2
        exact ⟨_, rfl, by have h9 := HO.out; have h8 := HM.out; rw [HF.out] at h9 h8; rw [h8]; exact h9, HB.out⟩
  | false =>
    rw [ht] at cT
    rw [if_neg (by simp)]
    clear ht
    go_enter Try.func18, Try.ntmps18
    go_wp2_with fail
    refine (cT.out _).mono ?_
    rintro e w1 ⟨rfl, rfl⟩
    go_wp2
    go_ret2
    exact ⟨_, rfl, HL0.out, HB0.out⟩

set_option maxRecDepth 1000000 in
set_option maxHeartbeats 1000000 in
theorem implSquares_any (s : ByteArray) (hs : s.size ≤ 1048576) (W : World) :
    Calls Try.prog 19 #[.string s] W (ownS.OwnTexts W (if okT s = true then (prt (tx s)).filter sqrB else []) (okT s)) := by
  have cT := Lib.hid (fun W => implIsText_any s W (by omega))
  unfold ownS.OwnTexts
  cases ht : okT s with
  | true =>
    have h16 := okT_size ht
    rw [ht] at cT
    rw [if_pos rfl]
    have cP := Lib.hid (fun W => pwSquares.partsWhere_any s sqrB W ht (fun W2 t _ hin => isSquare_any t W2 (by
      have := prt_short hin
      rw [tx_len, tx_len] at this
      omega)))
    obtain ⟨ps, hps⟩ : ∃ ps, (prt (tx s)).filter sqrB = ps := ⟨_, rfl⟩
    rw [hps] at cP ⊢
    clear ht hps
    go_enter Try.func19, Try.ntmps19
    go_wp2_with fail
    refine (cT.out _).mono ?_
    rintro e w1 ⟨rfl, hb1⟩
    have HB1 := Lib.hid hb1
    clear hb1
    go_wp2_with fail
    refine (cP.out _).mono ?_
    rintro e w3 ⟨v, rfl, hO3, hb3⟩
    have HO3 := Lib.hid (own_down hO3 HB1.out.size)
    have HB3 := Lib.hid (HB1.out.trans (hb3.mono HB1.out.size))
    clear hO3 hb3
    go_wp2
    go_ret2
    exact ⟨_, rfl, HO3.out, HB3.out⟩
  | false =>
    rw [ht] at cT
    rw [if_neg (by simp)]
    clear ht
    go_enter Try.func19, Try.ntmps19
    go_wp2_with fail
    refine (cT.out _).mono ?_
    rintro e w1 ⟨rfl, hb1⟩
    have HB1 := Lib.hid hb1
    clear hb1
    go_wp2
    go_ret2
    exact ⟨_, rfl, ⟨rfl, .inl ⟨rfl, rfl⟩⟩, HB1.out⟩

theorem agreeSquaresOf (s : ByteArray) (hs : s.size ≤ 1048576) : ∃ (ws : List Txt) (ok : Bool), ws.length ≤ 1000 ∧ (∀ x ∈ ws, x.length ≤ 9223372036854775807) ∧
    (∀ W : World, Calls Try.prog 18 #[.string s] W (ownS.OwnTexts W ws ok)) ∧
    (∀ W : World, Calls Try.prog 19 #[.string s] W (ownS.OwnTexts W ws ok)) := by
  refine ⟨_, _, ?_, ?_, specSquares_any s hs, implSquares_any s hs⟩
  · split
    · next h =>
      have h1 := prt_len (tx s)
      rw [tx_len] at h1
      have h2 := Nat.mul_le_mul (okT_size h) (okT_size h)
      have h3 := List.length_filter_le sqrB (prt (tx s))
      omega
    · simp
  · intro x hx
    split at hx
    · next h =>
      have h1 := prt_short (List.mem_filter.1 hx).1
      rw [tx_len] at h1
      have := okT_size h
      omega
    · simp at hx

end Go.Proofs.Ytifkggapdaflmab
