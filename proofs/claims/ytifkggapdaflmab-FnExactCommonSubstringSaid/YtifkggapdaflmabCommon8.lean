/-
  CommonSubstring: both functions answer the same.
-/
import Derived.Test.YtifkggapdaflmabPwCommon
import Derived.Test.YtifkggapdaflmabLongIn8
import Derived.Test.YtifkggapdaflmabContains
import Derived.Laws.StructEq
namespace Go.Proofs.Ytifkggapdaflmab
open Go.RowKit
set_option linter.unusedVariables false

theorem prt256c {s : ByteArray} (h16 : s.size ≤ 16) : (prt (tx s)).length ≤ 256 := by
  have h1 := prt_len (tx s)
  rw [tx_len] at h1
  exact Nat.le_trans h1 (Nat.mul_le_mul h16 h16)
theorem prt16c {s : ByteArray} (h16 : s.size ≤ 16) : ∀ x ∈ prt (tx s), x.length ≤ 16 := fun x hx => by
  have := prt_short hx
  rw [tx_len] at this
  omega

def okC (a b : ByteArray) : Bool := okT a && okT b
def cmnR (a b : ByteArray) : ByteArray := if okC a b = true then bx (lst ((prt (tx a)).filter (Lib.contains (tx b))) []) else ByteArray.empty

set_option maxRecDepth 1000000 in
set_option maxHeartbeats 4000000 in
theorem specCommon_any (s z : ByteArray) (hs : s.size ≤ 1048576) (hz : z.size ≤ 1048576) (w : World) :
    Calls Try.prog 16 #[.string s, .string z] w fun e w' => e = .returned (.tuple #[.string (cmnR s z), .bool (okC s z)]) ∧ Below w.heap.size w w' := by
  have cT := Lib.hid (fun W => l8Text_any s W (by omega))
  have cZ := Lib.hid (fun W => l8Text_any z W (by omega))
  unfold cmnR okC
  cases ht : okT s with
  | false =>
    rw [ht] at cT
    simp only [Bool.false_and, Bool.false_eq_true, if_false]
    clear ht
    go_enter Try.func16, Try.ntmps16
    go_wp2_with fail
    refine (cT.out _).mono ?_
    rintro e w1 ⟨rfl, rfl⟩
    go_wp2
    go_ret2
    exact ⟨rfl, Below.refl _ _⟩
  | true =>
    rw [ht] at cT
    have h16 := okT_size ht
    cases hq : okT z with
    | false =>
      rw [hq] at cZ
      simp only [Bool.and_false, Bool.false_eq_true, if_false]
      clear ht hq
      go_enter Try.func16, Try.ntmps16
      go_wp2_with fail
      refine (cT.out _).mono ?_
      rintro e w1 ⟨rfl, rfl⟩
      go_wp2_with fail
      refine (cZ.out _).mono ?_
      rintro e w1 ⟨rfl, rfl⟩
      go_wp2
      go_ret2
      exact ⟨rfl, Below.refl _ _⟩
    | true =>
      rw [hq] at cZ
      have hz16 := okT_size hq
      simp only [Bool.and_true, if_true]
      have cP := Lib.hid (fun W => l8Parts_any s W h16)
      have hp256 := prt256c h16
      have HPr : Hid (∀ x ∈ prt (tx s), 0 < x.length ∧ x.length ≤ 16 ∧ Lib.contains (tx z) x = decide (0 < (plcs (tx z) x).length)) := Lib.hid (fun x hx => ⟨prt_pos hx, prt16c h16 x hx, contains_plcs (mem_prt.1 hx).1⟩)
      have HFl : Hid (lst ((prt (tx s)).filter (Lib.contains (tx z))) [] = lstIf (Lib.contains (tx z)) (prt (tx s)) []) := Lib.hid (lstIf_filter _ _ _).symm
      rw [HFl.out]
      obtain ⟨ps, hps⟩ : ∃ ps, prt (tx s) = ps := ⟨_, rfl⟩
      rw [hps] at cP HPr hp256 ⊢
      clear ht hq hps HFl
      go_enter Try.func16, Try.ntmps16
      go_wp2_with fail
      refine (cT.out _).mono ?_
      rintro e w1 ⟨rfl, rfl⟩
      go_wp2_with fail
      refine (cZ.out _).mono ?_
      rintro e w1 ⟨rfl, rfl⟩
      go_wp2_with fail
      refine (cP.out _).mono ?_
      rintro e w2 ⟨a, n, c, rfl, hW2, hb2⟩
      have hnl := hW2.len
      have HNl := Lib.hid hnl
      have hn256 : n ≤ 256 := by omega
      have HW2 := Lib.hid hW2
      have HB2 := Lib.hid hb2
      clear hW2 hb2 hnl
      go_wp2_with fail
      go_loopw [6, 8] (fun o i wr => ∃ (k : Nat) (y : ByteArray), k ≤ n ∧ i = .int .i64 k ∧ o = .string y ∧ Hid (tx y = lstIf (Lib.contains (tx z)) (ps.take k) []) ∧ y.size ≤ 1000 ∧ Hid (Wds w2.heap.size wr a n c ps) ∧ w2.heap.size ≤ wr.heap.size ∧ Hid (Below w.heap.size w wr)) (fun _ i _ => n - (intOf i).toNat)
      case atStart => exact ⟨0, ⟨#[]⟩, Nat.zero_le _, rfl, rfl, Lib.hid rfl, by decide, HW2, Nat.le_refl _, HB2⟩
      case round =>
        clear HW2 HB2
        obtain ⟨k, y, hk, rfl, rfl, HY, hy, HW, hzr, HB⟩ := hrel
        by_cases hlt : k < n
        · obtain ⟨b, o, x, rfl, hbB, hx, hxz, hc⟩ := Wds.elem HW.out k hlt
          obtain ⟨hx0, hx1, hx2⟩ := HPr.out _ (List.mem_of_getElem? hx)
          rw [tx_len] at hx1 hx0
          have HT := Lib.hid (lstIf_take (c := Lib.contains (tx z)) (b := []) hx)
          have hk0 : (0 : Int) ≤ (k : Int) := by omega
          have hk1 : (k : Int) < (n : Int) := by omega
          clear hx
          by_cases hg : y.size < x.size
          · have cA := Lib.hid (fun W => l8At_any z x W hz16 hx1 hx0)
            have HR := Lib.hid hx2
            have hm := ats_len (tx z) (tx x) (tx z).length
            rw [tx_len] at hm
            have hm' : (plcs (tx z) (tx x)).length ≤ 16 := by unfold plcs; rw [tx_len]; omega
            obtain ⟨qs, hqs⟩ : ∃ qs, plcs (tx z) (tx x) = qs := ⟨_, rfl⟩
            rw [hqs] at cA HR hm'
            obtain ⟨m, hmm⟩ : ∃ m, qs.length = m := ⟨_, rfl⟩
            rw [hmm] at cA HR hm'
            clear hm hqs hmm hx2
            by_cases h1 : 0 < m
            · have HN : Hid (tx x = lstIf (Lib.contains (tx z)) (ps.take (k + 1)) []) := Lib.hid (by rw [HT.out, ← HY.out, tx_len, tx_len, if_pos ⟨hg, by rw [HR.out]; exact decide_eq_true h1⟩])
              go_wp2_with fail
              refine (cA.out _).mono ?_
              rintro e w4 ⟨v, rfl, hO, hb4⟩
              obtain ⟨a4, c4, rfl⟩ := own_slice hO
              have hc4 := (hb4.cell (p := ⟨b, o + k, none⟩) (by show b < _; omega)).trans hc
              have HW4 := Lib.hid (HW.out.keep (hb4.mono hzr))
              have HB4 := Lib.hid (HB.out.trans (hb4.mono HB.out.size))
              have hz4 : w2.heap.size ≤ w4.heap.size := Nat.le_trans hzr hb4.size
              clear hO hb4 hc
              go_wp2
              go_roundw
              case rel => exact ⟨k + 1, x, by omega, by go_num, rfl, HN, by omega, HW4, hz4, HB4⟩
              case measure => simp [intOf]; omega
            · have HN : Hid (tx y = lstIf (Lib.contains (tx z)) (ps.take (k + 1)) []) := Lib.hid (by rw [HT.out, ← HY.out, if_neg (by rintro ⟨_, h9⟩; rw [HR.out, decide_eq_true_eq] at h9; exact h1 h9)])
              go_wp2_with fail
              refine (cA.out _).mono ?_
              rintro e w4 ⟨v, rfl, hO, hb4⟩
              obtain ⟨a4, c4, rfl⟩ := own_slice hO
              have HW4 := Lib.hid (HW.out.keep (hb4.mono hzr))
              have HB4 := Lib.hid (HB.out.trans (hb4.mono HB.out.size))
              have hz4 : w2.heap.size ≤ w4.heap.size := Nat.le_trans hzr hb4.size
              clear hO hb4 hc
              go_wp2
              go_roundw
              case rel => exact ⟨k + 1, y, by omega, by go_num, rfl, HN, hy, HW4, hz4, HB4⟩
              case measure => simp [intOf]; omega
          · have HN : Hid (tx y = lstIf (Lib.contains (tx z)) (ps.take (k + 1)) []) := Lib.hid (by rw [HT.out, ← HY.out, if_neg (by rintro ⟨h9, _⟩; rw [tx_len, tx_len] at h9; exact hg h9)])
            clear hx2
            go_wp2_with fail
            go_roundw
            case rel => exact ⟨k + 1, y, by omega, by go_num, rfl, HN, hy, HW, hzr, HB⟩
            case measure => simp [intOf]; omega
        · have HF : Hid (y = bx (lstIf (Lib.contains (tx z)) ps [])) := Lib.hid (tx_inj (by rw [HY.out, tx_bx, List.take_of_length_le (by have := HNl.out; omega)]))
          go_wp2
          go_ret2
          exact ⟨by rw [HF.out]; rfl, HB.out⟩

theorem common1_any (z : ByteArray) (q0 : Nat) (t : ByteArray) (mx : Int) (w : World) (hz : z.size ≤ 1000000) (hc : w.cell? ⟨q0, 0, none⟩ = some (.string z)) (hm : w.cell? ⟨0, 0, none⟩ = some (.int .i64 mx)) :
    Calls Try.prog 42 #[.string t, .pointer (some ⟨q0, 0, none⟩)] w fun e w' => e = .returned (.bool (Lib.contains (tx z) (tx t))) ∧ Below w.heap.size w w' := by
  have cD := Lib.hid ((Try.strings_Contains z t mx w (by omega) hm).mono fun e w' (h : _ ∧ _) => (⟨h.1, h.2.symm⟩ : e = .returned (.bool (Lib.contains (tx z) (tx t))) ∧ w = w'))
  obtain ⟨r, hr⟩ : ∃ r, Lib.contains (tx z) (tx t) = r := ⟨_, rfl⟩
  rw [hr] at cD ⊢
  clear hr hm
  go_enter Try.func42, Try.ntmps42
  go_wp2_with fail
  refine cD.out.mono ?_
  rintro e w2 ⟨rfl, rfl⟩
  go_wp2
  go_ret
  exact ⟨rfl, Below.refl _ _⟩

set_option maxRecDepth 1000000 in
set_option maxHeartbeats 4000000 in
theorem implCommon_any (s z : ByteArray) (hs : s.size ≤ 1048576) (hz : z.size ≤ 1048576) (mx : Int) (w : World) (hm : w.cell? ⟨0, 0, none⟩ = some (.int .i64 mx)) :
    Calls Try.prog 17 #[.string s, .string z] w fun e w' => e = .returned (.tuple #[.string (cmnR s z), .bool (okC s z)]) ∧ Below w.heap.size w w' := by
  have cT := Lib.hid (fun W => implIsText_any s W (by omega))
  have cZ := Lib.hid (fun W => implIsText_any z W (by omega))
  have hbx : (w.alloc (.cells #[.string z] 9)).cell? ⟨w.heap.size, 0, none⟩ = some (.string z) := by simp
  have hlt0 : w.heap.size < (w.alloc (.cells #[.string z] 9)).heap.size := by simp
  have HB0 : Hid (Below w.heap.size w (w.alloc (.cells #[.string z] 9))) := Lib.hid ((Below.refl _ _).alloc (Nat.le_refl _) _)
  have HMl : Hid (∀ W, Below w.heap.size w W → W.cell? ⟨0, 0, none⟩ = some (.int .i64 mx)) := Lib.hid (fun W hb => (hb.cell (p := ⟨0, 0, none⟩) (World.block_lt_of_cell? w _ hm)).trans hm)
  clear hm
  unfold cmnR okC
  cases ht : okT s with
  | false =>
    rw [ht] at cT
    simp only [Bool.false_and, Bool.false_eq_true, if_false]
    clear ht
    go_enter Try.func17, Try.ntmps17
    go_wp2_with fail
    refine (cT.out _).mono ?_
    rintro e w1 ⟨rfl, hb1⟩
    have HB1 := Lib.hid (HB0.out.trans (hb1.mono HB0.out.size))
    clear hb1
    go_wp2
    go_ret2
    exact ⟨rfl, HB1.out⟩
  | true =>
    rw [ht] at cT
    have h16 := okT_size ht
    cases hq : okT z with
    | false =>
      rw [hq] at cZ
      simp only [Bool.and_false, Bool.false_eq_true, if_false]
      clear ht hq
      go_enter Try.func17, Try.ntmps17
      go_wp2_with fail
      refine (cT.out _).mono ?_
      rintro e w1 ⟨rfl, hb1⟩
      have hbx1 := (hb1.cell (p := ⟨w.heap.size, 0, none⟩) hlt0).trans hbx
      have HB1 := Lib.hid (HB0.out.trans (hb1.mono HB0.out.size))
      clear hb1
      go_wp2_with fail
      refine (cZ.out _).mono ?_
      rintro e w2 ⟨rfl, hb2⟩
      have HB2 := Lib.hid (HB1.out.trans (hb2.mono HB1.out.size))
      clear hb2 hbx1
      go_wp2
      go_ret2
      exact ⟨rfl, HB2.out⟩
    | true =>
      rw [hq] at cZ
      have hz16 := okT_size hq
      simp only [Bool.and_true, if_true]
      have cP : Hid (∀ W : World, W.cell? ⟨w.heap.size, 0, none⟩ = some (.string z) → w.heap.size < W.heap.size → Below w.heap.size w W → _) := Lib.hid (fun W hW hlt hbl => pwCommon.partsWhere_any s w.heap.size (Lib.contains (tx z)) W ht (fun W2 t hb _ => common1_any z w.heap.size t mx W2 (by omega) ((hb.cell (p := ⟨w.heap.size, 0, none⟩) hlt).trans hW) (HMl.out W2 (hbl.trans (hb.mono (by omega))))))
      have hp256 : ((prt (tx s)).filter (Lib.contains (tx z))).length ≤ 256 := Nat.le_trans (List.length_filter_le _ _) (prt256c h16)
      have HPr : Hid (∀ x ∈ (prt (tx s)).filter (Lib.contains (tx z)), x.length ≤ 16) := Lib.hid (fun x hx => prt16c h16 x (List.mem_filter.1 hx).1)
      obtain ⟨ps, hps⟩ : ∃ ps, (prt (tx s)).filter (Lib.contains (tx z)) = ps := ⟨_, rfl⟩
      rw [hps] at cP HPr hp256 ⊢
      have hmf : ∀ (fn : Fn) (first cap : Array Value) (w : World), (Instr.makeFunc fn first cap).run Try.prog w = .ok (.func fn first cap) w := fun _ _ _ _ => rfl
      clear ht hq hps
      go_enter Try.func17, Try.ntmps17
      go_wp2_with fail
      refine (cT.out _).mono ?_
      rintro e w1 ⟨rfl, hb1⟩
      have hbx1 := (hb1.cell (p := ⟨w.heap.size, 0, none⟩) hlt0).trans hbx
      have hlt1 : w.heap.size < w1.heap.size := Nat.lt_of_lt_of_le hlt0 hb1.size
      have HB1 := Lib.hid (HB0.out.trans (hb1.mono HB0.out.size))
      clear hb1
      go_wp2_with fail
      refine (cZ.out _).mono ?_
      rintro e w2 ⟨rfl, hb2⟩
      have hbx2 := (hb2.cell (p := ⟨w.heap.size, 0, none⟩) hlt1).trans hbx1
      have hlt2 : w.heap.size < w2.heap.size := Nat.lt_of_lt_of_le hlt1 hb2.size
      have HB2 := Lib.hid (HB1.out.trans (hb2.mono HB1.out.size))
      clear hb2 hbx1
      go_wp2_with fail
      refine (cP.out _ hbx2 hlt2 HB2.out).mono ?_
      rintro e w3 ⟨v, rfl, hO, hb3⟩
      obtain ⟨a, c, rfl, hW⟩ := own_wds hO (fun x hx => by have := HPr.out x hx; omega)
      have cL := Lib.hid (longestIn_any w3.heap.size a ps.length c ps w3 (Nat.le_refl _) hW (by omega) (fun x hx => by have := HPr.out x hx; omega))
      have HB3 := Lib.hid (HB2.out.trans (hb3.mono HB2.out.size))
      clear hO hW hb3 hbx2 hlt2
      go_wp2_with fail
      refine cL.out.mono ?_
      rintro e w4 ⟨rfl, rfl⟩
      go_wp2
      go_ret2
      exact ⟨rfl, HB3.out⟩

theorem agreeCommonSubstring (s z : ByteArray) (hs : s.size ≤ 1048576) (hz : z.size ≤ 1048576) : ∃ (v : ByteArray) (ok : Bool),
    (∀ W : World, Calls Try.prog 16 #[.string s, .string z] W fun e w' => e = .returned (.tuple #[.string v, .bool ok]) ∧ Below W.heap.size W w') ∧
    (∀ (W : World) (mx : Int), W.cell? ⟨0, 0, none⟩ = some (.int .i64 mx) → Calls Try.prog 17 #[.string s, .string z] W fun e w' => e = .returned (.tuple #[.string v, .bool ok]) ∧ Below W.heap.size W w') :=
  ⟨_, _, specCommon_any s z hs hz, fun W mx h => implCommon_any s z hs hz mx W h⟩

end Go.Proofs.Ytifkggapdaflmab
