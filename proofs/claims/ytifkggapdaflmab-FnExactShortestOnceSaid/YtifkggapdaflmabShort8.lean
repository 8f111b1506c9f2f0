/-
  ShortestOnce: both functions answer the same.
-/
import Derived.Test.YtifkggapdaflmabPwParts
import Derived.Test.YtifkggapdaflmabLongIn8
import Derived.Laws.StructEq
namespace Go.Proofs.Ytifkggapdaflmab
open Go.RowKit
set_option linter.unusedVariables false

/-- a part does not repeat -/
def oncB (x t : Txt) : Bool := !repB x t
/-- the text is one that is not empty -/
def okS (s : ByteArray) : Bool := okT s && !decide (s.size = 0)
def shtR (s : ByteArray) : ByteArray := if okS s = true then bx (sht (oncB (tx s)) (prt (tx s)) (tx s)) else ByteArray.empty

theorem onc_is {x t : Txt} (h : t ∈ prt x) {m : Nat} (hm : (plcs x t).length = m) : oncB x t = decide (m = 1) := by
  have := plcs_some h
  unfold oncB repB
  rw [hm] at *
  by_cases h1 : m = 1
  · subst h1; rfl
  · rw [decide_eq_false h1, decide_eq_true (by omega)]; rfl

theorem empty_facts {s : ByteArray} (h : s.size = 0) : s.toList = [] ∧ s.toList.isEmpty = true ∧ (s.toList == ByteArray.toList { data := #[] }) = true := by
  have he : s = ByteArray.empty := by
    apply tx_inj
    exact List.eq_nil_of_length_eq_zero (by rw [tx_len]; exact h)
  have hl1 : s.toList = [] := by rw [Lib.toList_data, he]; rfl
  exact ⟨hl1, by rw [hl1]; rfl, by rw [str_eq_list, he]; exact decide_eq_true rfl⟩

theorem nonempty_facts {s : ByteArray} (h : 0 < s.size) : s.toList.isEmpty = false ∧ (s.toList == ByteArray.toList { data := #[] }) = false := by
  have hl0 : s.toList ≠ [] := by
    intro e
    rw [Lib.toList_data] at e
    have h9 := tx_len s
    rw [show tx s = [] from e] at h9
    simp at h9
    omega
  refine ⟨?_, ?_⟩
  · cases hh : s.toList with
    | nil => exact absurd hh hl0
    | cons a b => rfl
  · rw [str_eq_list]
    exact decide_eq_false (fun h9 => by rw [h9] at h; exact absurd h (by decide))

theorem parts1S_any (t : ByteArray) (w : World) :
    Calls Try.prog 60 #[.string t] w fun e w' => e = .returned (.bool true) ∧ Below w.heap.size w w' := by
  go_enter Try.func60, Try.ntmps60
  go_wp2
  go_ret
  exact ⟨rfl, Below.refl _ _⟩

theorem partsOfTextS_any (s : ByteArray) (w : World) (ht : okT s = true) :
    Calls Try.prog 38 #[.string s] w fun e w' => ∃ v, e = .returned v ∧ w'.ownsRow w.heap.size 9 1 v (prt (tx s)).length (txs (prt (tx s))) ∧ Below w.heap.size w w' := by
  have c := pwParts.partsWhere_any s (fun _ => true) w ht (fun W t _ _ => parts1S_any t W)
  rw [List.filter_eq_self.2 (fun _ _ => rfl)] at c
  have C := Lib.hid c
  clear c
  go_enter Try.func38, Try.ntmps38
  go_wp2_with fail
  refine C.out.mono ?_
  rintro e w2 ⟨v, rfl, hO, hb⟩
  have HO := Lib.hid hO
  have HB := Lib.hid hb
  clear hO hb
  go_wp2
  go_ret
  exact ⟨_, rfl, HO.out, HB.out⟩

set_option maxRecDepth 1000000 in
set_option maxHeartbeats 4000000 in
theorem specShort_any (s : ByteArray) (hs : s.size ≤ 1048576) (w : World) :
    Calls Try.prog 12 #[.string s] w fun e w' => e = .returned (.tuple #[.string (shtR s), .bool (okS s)]) ∧ Below w.heap.size w w' := by
  have cT := Lib.hid (fun W => l8Text_any s W (by omega))
  unfold shtR okS
  cases ht : okT s with
  | false =>
    rw [ht] at cT
    simp only [Bool.false_and, Bool.false_eq_true, if_false]
    clear ht
    go_enter Try.func12, Try.ntmps12
    go_wp2_with fail
    refine (cT.out _).mono ?_
    rintro e w1 ⟨rfl, rfl⟩
    go_wp2
    go_ret2
    exact ⟨rfl, Below.refl _ _⟩
  | true =>
    rw [ht] at cT
    have h16 := okT_size ht
    by_cases h2 : s.size = 0
    · simp only [Bool.true_and, show decide (s.size = 0) = true from decide_eq_true h2, Bool.not_true, Bool.false_eq_true, if_false]
      obtain ⟨hl1, hl2, hl3⟩ := empty_facts h2
      clear ht h2
      go_enter Try.func12, Try.ntmps12
      go_wp2_with fail
      refine (cT.out _).mono ?_
      rintro e w1 ⟨rfl, rfl⟩
      go_wp2
      go_ret2
      exact ⟨rfl, Below.refl _ _⟩
    · simp only [Bool.true_and, show decide (s.size = 0) = false from decide_eq_false h2, Bool.not_false, if_true]
      obtain ⟨hl2, hl3⟩ := nonempty_facts (s := s) (by omega)
      have cP := Lib.hid (fun W => l8Parts_any s W h16)
      have hp256 : (prt (tx s)).length ≤ 256 := by
        have h1 := prt_len (tx s)
        rw [tx_len] at h1
        exact Nat.le_trans h1 (Nat.mul_le_mul h16 h16)
      have HPr : Hid (∀ x ∈ prt (tx s), 0 < x.length ∧ x.length ≤ 16 ∧ ∀ m, (plcs (tx s) x).length = m → oncB (tx s) x = decide (m = 1)) := Lib.hid (fun x hx => ⟨prt_pos hx, by have := prt_short hx; rw [tx_len] at this; omega, fun m hm => onc_is hx hm⟩)
      obtain ⟨ps, hps⟩ : ∃ ps, prt (tx s) = ps := ⟨_, rfl⟩
      rw [hps] at cP HPr hp256 ⊢
      clear ht hps
      go_enter Try.func12, Try.ntmps12
      go_wp2_with fail
      refine (cT.out _).mono ?_
      rintro e w1 ⟨rfl, rfl⟩
      go_wp2_with fail
      refine (cP.out _).mono ?_
      rintro e w2 ⟨a, n, c, rfl, hW2, hb2⟩
      have hnl := hW2.len
      have HNl := Lib.hid hnl
      have hn256 : n ≤ 256 := by omega
      have HW2 := Lib.hid hW2
      have HB2 := Lib.hid hb2
      clear hW2 hb2 hnl
      go_wp2_with fail
      go_loopw [4, 6] (fun o i wr => ∃ (k : Nat) (y : ByteArray), k ≤ n ∧ i = .int .i64 k ∧ o = .string y ∧ Hid (tx y = sht (oncB (tx s)) (ps.take k) (tx s)) ∧ y.size ≤ 1000 ∧ Hid (Wds w2.heap.size wr a n c ps) ∧ w2.heap.size ≤ wr.heap.size ∧ Hid (Below w.heap.size w wr)) (fun _ i _ => n - (intOf i).toNat)
      case atStart => exact ⟨0, s, Nat.zero_le _, rfl, rfl, Lib.hid rfl, by omega, HW2, Nat.le_refl _, HB2⟩
      case round =>
        clear HW2 HB2
        obtain ⟨k, y, hk, rfl, rfl, HY, hy, HW, hzr, HB⟩ := hrel
        by_cases hlt : k < n
        · obtain ⟨b, o, x, rfl, hbB, hx, hxz, hc⟩ := Wds.elem HW.out k hlt
          obtain ⟨hx0, hx1, hx2⟩ := HPr.out _ (List.mem_of_getElem? hx)
          rw [tx_len] at hx1 hx0
          have HT := Lib.hid (sht_take (c := oncB (tx s)) (b := tx s) hx)
          have hk0 : (0 : Int) ≤ (k : Int) := by omega
          have hk1 : (k : Int) < (n : Int) := by omega
          have cA := Lib.hid (fun W => l8At_any s x W h16 hx1 hx0)
          have hm := ats_len (tx s) (tx x) (tx s).length
          rw [tx_len] at hm
          have hm' : (plcs (tx s) (tx x)).length ≤ 16 := by unfold plcs; rw [tx_len]; omega
          obtain ⟨qs, hqs⟩ : ∃ qs, plcs (tx s) (tx x) = qs := ⟨_, rfl⟩
          rw [hqs] at cA hx2 hm'
          obtain ⟨m, hmm⟩ : ∃ m, qs.length = m := ⟨_, rfl⟩
          have HR : Hid (oncB (tx s) (tx x) = decide (m = 1)) := Lib.hid (hx2 m hmm)
          rw [hmm] at cA hm'
          clear hm hqs hmm hx2 hx
          by_cases h1 : m = 1
          · subst h1
            by_cases hg : x.size < y.size
            · have HN : Hid (tx x = sht (oncB (tx s)) (ps.take (k + 1)) (tx s)) := Lib.hid (by rw [HT.out, ← HY.out, tx_len, tx_len, if_pos ⟨hg, by rw [HR.out]; rfl⟩])
              go_wp2_with fail
              refine (cA.out _).mono ?_
              rintro e w4 ⟨v, rfl, hO, hb4⟩
              obtain ⟨a4, c4, rfl⟩ := own_slice hO
              have hc4 := (hb4.cell (p := ⟨b, o + k, none⟩) (by show b < _; omega)).trans hc
              have HW4 := Lib.hid (HW.out.keep (hb4.mono hzr))
              have HB4 := Lib.hid (HB.out.trans (hb4.mono HB.out.size))
              have hz4 : w2.heap.size ≤ w4.heap.size := Nat.le_trans hzr hb4.size
              clear hO hb4 hc
              go_wp2
              go_roundw
              case rel => exact ⟨k + 1, x, by omega, by go_num, rfl, HN, by omega, HW4, hz4, HB4⟩
              case measure => simp [intOf]; omega
            · have HN : Hid (tx y = sht (oncB (tx s)) (ps.take (k + 1)) (tx s)) := Lib.hid (by rw [HT.out, ← HY.out, if_neg (by rintro ⟨h9, _⟩; rw [tx_len, tx_len] at h9; exact hg h9)])
              go_wp2_with fail
              refine (cA.out _).mono ?_
              rintro e w4 ⟨v, rfl, hO, hb4⟩
              obtain ⟨a4, c4, rfl⟩ := own_slice hO
              have hc4 := (hb4.cell (p := ⟨b, o + k, none⟩) (by show b < _; omega)).trans hc
              have HW4 := Lib.hid (HW.out.keep (hb4.mono hzr))
              have HB4 := Lib.hid (HB.out.trans (hb4.mono HB.out.size))
              have hz4 : w2.heap.size ≤ w4.heap.size := Nat.le_trans hzr hb4.size
              clear hO hb4 hc
              go_wp2
              go_roundw
              case rel => exact ⟨k + 1, y, by omega, by go_num, rfl, HN, hy, HW4, hz4, HB4⟩
              case measure => simp [intOf]; omega
          · have HN : Hid (tx y = sht (oncB (tx s)) (ps.take (k + 1)) (tx s)) := Lib.hid (by rw [HT.out, ← HY.out, if_neg (by rintro ⟨_, h9⟩; rw [HR.out, decide_eq_true_eq] at h9; exact h1 h9)])
            have h1b : ((m : Int) == 1) = false := by simp; omega
            have h1c : (m == 1) = false := by simp; omega
            go_wp2_with fail
            refine (cA.out _).mono ?_
            rintro e w4 ⟨v, rfl, hO, hb4⟩
            obtain ⟨a4, c4, rfl⟩ := own_slice hO
            have HW4 := Lib.hid (HW.out.keep (hb4.mono hzr))
            have HB4 := Lib.hid (HB.out.trans (hb4.mono HB.out.size))
            have hz4 : w2.heap.size ≤ w4.heap.size := Nat.le_trans hzr hb4.size
            clear hO hb4 hc
            go_wp2
            go_roundw
            case rel => exact ⟨k + 1, y, by omega, by go_num, rfl, HN, hy, HW4, hz4, HB4⟩
            case measure => simp [intOf]; omega
        · have HF : Hid (y = bx (sht (oncB (tx s)) ps (tx s))) := Lib.hid (tx_inj (by rw [HY.out, tx_bx, List.take_of_length_le (by have := HNl.out; omega)]))
          go_wp2
          go_ret2
          exact ⟨by rw [HF.out]; rfl, HB.out⟩

set_option maxRecDepth 1000000 in
set_option maxHeartbeats 4000000 in
theorem implShort_any (s : ByteArray) (hs : s.size ≤ 1048576) (w : World) :
    Calls Try.prog 13 #[.string s] w fun e w' => e = .returned (.tuple #[.string (shtR s), .bool (okS s)]) ∧ Below w.heap.size w w' := by
  have cT := Lib.hid (fun W => implIsText_any s W (by omega))
  unfold shtR okS
  cases ht : okT s with
  | false =>
    rw [ht] at cT
    simp only [Bool.false_and, Bool.false_eq_true, if_false]
    clear ht
    go_enter Try.func13, Try.ntmps13
    go_wp2_with fail
    refine (cT.out _).mono ?_
    rintro e w1 ⟨rfl, hb1⟩
    have HB1 := Lib.hid hb1
    clear hb1
    go_wp2
    go_ret2
    exact ⟨rfl, HB1.out⟩
  | true =>
    rw [ht] at cT
    have h16 := okT_size ht
    by_cases h2 : s.size = 0
    · simp only [Bool.true_and, show decide (s.size = 0) = true from decide_eq_true h2, Bool.not_true, Bool.false_eq_true, if_false]
      obtain ⟨hl1, hl2, hl3⟩ := empty_facts h2
      clear ht h2
      go_enter Try.func13, Try.ntmps13
      go_wp2_with fail
      refine (cT.out _).mono ?_
      rintro e w1 ⟨rfl, hb1⟩
      have HB1 := Lib.hid hb1
      clear hb1
      go_wp2
      go_ret2
      exact ⟨rfl, HB1.out⟩
    · simp only [Bool.true_and, show decide (s.size = 0) = false from decide_eq_false h2, Bool.not_false, if_true]
      obtain ⟨hl2, hl3⟩ := nonempty_facts (s := s) (by omega)
      have cP := Lib.hid (fun W => partsOfTextS_any s W ht)
      have cD := Lib.hid (fun (x : ByteArray) W => doesRepeat_any s x W ht)
      have hp256 : (prt (tx s)).length ≤ 256 := by
        have h1 := prt_len (tx s)
        rw [tx_len] at h1
        exact Nat.le_trans h1 (Nat.mul_le_mul h16 h16)
      have HPr : Hid (∀ x ∈ prt (tx s), x.length ≤ 16) := Lib.hid (fun x hx => by have := prt_short hx; rw [tx_len] at this; omega)
      obtain ⟨ps, hps⟩ : ∃ ps, prt (tx s) = ps := ⟨_, rfl⟩
      rw [hps] at cP HPr hp256 ⊢
      obtain ⟨n, hnl⟩ : ∃ n, ps.length = n := ⟨_, rfl⟩
      rw [hnl] at cP hp256
      have HNl := Lib.hid hnl
      clear ht hps hnl
      go_enter Try.func13, Try.ntmps13
      go_wp2_with fail
      refine (cT.out _).mono ?_
      rintro e w1 ⟨rfl, hb1⟩
      have HB1 := Lib.hid hb1
      clear hb1
      go_wp2_with fail
      refine (cP.out _).mono ?_
      rintro e w2 ⟨v, rfl, hO, hb2⟩
      obtain ⟨a, c, rfl, hW2⟩ := own_wds hO (fun x hx => by have := HPr.out x hx; omega)
      have HW2 := Lib.hid hW2
      have HB2 := Lib.hid (HB1.out.trans (hb2.mono HB1.out.size))
      clear hO hW2 hb2 HB1
      go_wp2_with fail
      go_loopw [4, 18] (fun o i wr => ∃ (k : Nat) (y : ByteArray), k ≤ n ∧ i = .int .i64 k ∧ o = .string y ∧ Hid (tx y = sht (oncB (tx s)) (ps.take k) (tx s)) ∧ y.size ≤ 1000 ∧ Hid (Wds w2.heap.size wr a n c ps) ∧ w2.heap.size ≤ wr.heap.size ∧ Hid (Below w.heap.size w wr)) (fun _ i _ => n - (intOf i).toNat)
      case atStart => exact ⟨0, s, Nat.zero_le _, rfl, rfl, Lib.hid rfl, by omega, HW2, Nat.le_refl _, HB2⟩
      case round =>
        clear HW2 HB2
        obtain ⟨k, y, hk, rfl, rfl, HY, hy, HW, hzr, HB⟩ := hrel
        by_cases hlt : k < n
        · obtain ⟨b, o, x, rfl, hbB, hx, hxz, hc⟩ := Wds.elem HW.out k hlt
          have hx1 := HPr.out _ (List.mem_of_getElem? hx)
          rw [tx_len] at hx1
          have HT := Lib.hid (sht_take (c := oncB (tx s)) (b := tx s) hx)
          have hk0 : (0 : Int) ≤ (k : Int) := by omega
          have hk1 : (k : Int) < (n : Int) := by omega
          clear hx
          by_cases hg : x.size < y.size
          · obtain ⟨r, hr⟩ : ∃ r, repB (tx s) (tx x) = r := ⟨_, rfl⟩
            have HR : Hid (oncB (tx s) (tx x) = !r) := Lib.hid (by unfold oncB; rw [hr])
            have cX : Hid (∀ W, Calls Try.prog 36 #[.string s, .string x] W fun e w' => e = .returned (.bool r) ∧ Below W.heap.size W w') := Lib.hid (fun W => by rw [← hr]; exact cD.out x W)
            clear hr
            cases r
            · have HN : Hid (tx x = sht (oncB (tx s)) (ps.take (k + 1)) (tx s)) := Lib.hid (by rw [HT.out, ← HY.out, tx_len, tx_len, if_pos ⟨hg, by rw [HR.out]; rfl⟩])
              go_wp2_with fail
              refine (cX.out _).mono ?_
              rintro e w4 ⟨rfl, hb4⟩
              have HW4 := Lib.hid (HW.out.keep (hb4.mono hzr))
              have HB4 := Lib.hid (HB.out.trans (hb4.mono HB.out.size))
              have hz4 : w2.heap.size ≤ w4.heap.size := Nat.le_trans hzr hb4.size
              clear hb4 hc
              go_wp2
              go_roundw
              case rel => exact ⟨k + 1, x, by omega, by go_num, rfl, HN, by omega, HW4, hz4, HB4⟩
              case measure => simp [intOf]; omega
            · have HN : Hid (tx y = sht (oncB (tx s)) (ps.take (k + 1)) (tx s)) := Lib.hid (by rw [HT.out, ← HY.out, if_neg (by rintro ⟨_, h9⟩; rw [HR.out] at h9; cases h9)])
              go_wp2_with fail
              refine (cX.out _).mono ?_
              rintro e w4 ⟨rfl, hb4⟩
              have HW4 := Lib.hid (HW.out.keep (hb4.mono hzr))
              have HB4 := Lib.hid (HB.out.trans (hb4.mono HB.out.size))
              have hz4 : w2.heap.size ≤ w4.heap.size := Nat.le_trans hzr hb4.size
              clear hb4 hc
              go_wp2
              go_roundw
              case rel => exact ⟨k + 1, y, by omega, by go_num, rfl, HN, hy, HW4, hz4, HB4⟩
              case measure => simp [intOf]; omega
          · have HN : Hid (tx y = sht (oncB (tx s)) (ps.take (k + 1)) (tx s)) := Lib.hid (by rw [HT.out, ← HY.out, if_neg (by rintro ⟨h9, _⟩; rw [tx_len, tx_len] at h9; exact hg h9)])
            go_wp2_with fail
            go_roundw
            case rel => exact ⟨k + 1, y, by omega, by go_num, rfl, HN, hy, HW, hzr, HB⟩
            case measure => simp [intOf]; omega
        · have HF : Hid (y = bx (sht (oncB (tx s)) ps (tx s))) := Lib.hid (tx_inj (by rw [HY.out, tx_bx, List.take_of_length_le (by have := HNl.out; omega)]))
          go_wp2
          go_ret2
          exact ⟨by rw [HF.out]; rfl, HB.out⟩

theorem agreeShortestOnce (s : ByteArray) (hs : s.size ≤ 1048576) : ∃ (v : ByteArray) (ok : Bool),
    (∀ W : World, Calls Try.prog 12 #[.string s] W fun e w' => e = .returned (.tuple #[.string v, .bool ok]) ∧ Below W.heap.size W w') ∧
    (∀ W : World, Calls Try.prog 13 #[.string s] W fun e w' => e = .returned (.tuple #[.string v, .bool ok]) ∧ Below W.heap.size W w') :=
  ⟨_, _, specShort_any s hs, implShort_any s hs⟩

end Go.Proofs.Ytifkggapdaflmab
