/-
  ShortestAbsent: the program's function.
-/
import Derived.Test.YtifkggapdaflmabAbsent
import Derived.Test.YtifkggapdaflmabOwnAt
import Derived.Test.YtifkggapdaflmabPlaces8
import Derived.Laws.Runes
import Derived.Deep.LoopGhost
namespace Go.Proofs.Ytifkggapdaflmab
open Go.RowKit
set_option linter.unusedVariables false

/-- the text is one, the number of letters is in range -/
def okA (s : ByteArray) (z : Int) : Bool := okT s && (decide (1 ≤ z) && decide (z ≤ 4))
noncomputable def absR (s : ByteArray) (z : Int) : ByteArray := if okA s z = true then bx (faR z.toNat (tx s)) else ByteArray.empty

theorem enc_letter {j : Nat} (h : j < 4) : Utf8.encode (97 + (j : Int)) = bx [UInt8.ofNat (97 + j)] := by
  have : j = 0 ∨ j = 1 ∨ j = 2 ∨ j = 3 := by omega
  rcases this with rfl | rfl | rfl | rfl <;> rfl

theorem bx_app (x y : Txt) : bx x ++ bx y = bx (x ++ y) := by
  apply tx_inj
  rw [tx_bx]
  simp [tx, bx]

set_option maxRecDepth 1000000 in
set_option maxHeartbeats 4000000 in
theorem implAbsent_any (s : ByteArray) (z : Int) (hs : s.size ≤ 1048576) (hz : -9223372036854775808 ≤ z ∧ z ≤ 9223372036854775807) (mx : Int) (w : World) (hm : w.cell? ⟨0, 0, none⟩ = some (.int .i64 mx)) :
    Calls Try.prog 15 #[.string s, .int .i64 z] w fun e w' => e = .returned (.tuple #[.string (absR s z), .bool (okA s z)]) ∧ Below w.heap.size w w' := by
  have cT := Lib.hid (fun W => implIsText_any s W (by omega))
  have HMl : Hid (∀ W, Below w.heap.size w W → W.cell? ⟨0, 0, none⟩ = some (.int .i64 mx)) := Lib.hid (fun W hb => (hb.cell (p := ⟨0, 0, none⟩) (World.block_lt_of_cell? w _ hm)).trans hm)
  clear hm
  unfold absR okA
  cases ht : okT s with
  | false =>
    rw [ht] at cT
    simp only [Bool.false_and, Bool.false_eq_true, if_false]
    clear ht
    go_enter Try.func15, Try.ntmps15
    go_wp2_with fail
    refine (cT.out _).mono ?_
    rintro e w1 ⟨rfl, hb1⟩
    have HB1 := Lib.hid hb1
    clear hb1
    go_wp2
    go_ret2
    exact ⟨rfl, HB1.out⟩
  | true =>
    rw [ht] at cT
    have h16 := okT_size ht
    by_cases hz1 : z < 1
    · simp only [show decide (1 ≤ z) = false from decide_eq_false (by omega), Bool.false_and, Bool.and_false, Bool.false_eq_true, if_false]
      clear ht
      go_enter Try.func15, Try.ntmps15
      go_wp2_with fail
      refine (cT.out _).mono ?_
      rintro e w1 ⟨rfl, hb1⟩
      have HB1 := Lib.hid hb1
      clear hb1
      go_wp2
      go_ret2
      exact ⟨rfl, HB1.out⟩
    · by_cases hz4 : 4 < z
      · simp only [show decide (z ≤ 4) = false from decide_eq_false (by omega), Bool.and_false, Bool.false_eq_true, if_false]
        clear ht
        go_enter Try.func15, Try.ntmps15
        go_wp2_with fail
        refine (cT.out _).mono ?_
        rintro e w1 ⟨rfl, hb1⟩
        have HB1 := Lib.hid hb1
        clear hb1
        go_wp2
        go_ret2
        exact ⟨rfl, HB1.out⟩
      · simp only [show decide (1 ≤ z) = true from decide_eq_true (by omega), show decide (z ≤ 4) = true from decide_eq_true (by omega), Bool.and_true, if_true]
        obtain ⟨L, hL⟩ : ∃ L : Nat, z = (L : Int) := ⟨z.toNat, by omega⟩
        subst hL
        rw [Int.toNat_natCast]
        have hL0 : 0 < L := by omega
        have hL4 : L ≤ 4 := by omega
        have hx16 : (tx s).length ≤ 16 := by rw [tx_len]; exact h16
        have HX := Lib.hid hx16
        have cC : Hid (∀ (W : World) (t : ByteArray), Below w.heap.size w W → Calls Try.prog 41 #[.string s, .string t] W fun e w' => e = .returned (.bool (Lib.contains (tx s) (tx t))) ∧ W = w') := Lib.hid (fun W t hb => (Try.strings_Contains s t mx W (by omega) (HMl.out W hb)).mono fun e w' (h : _ ∧ _) => ⟨h.1, h.2.symm⟩)
        obtain ⟨i0, hii, hz0, hz1', hz2⟩ := info_parts infoS
        clear ht hz1 hz4 hz hx16
        go_enter Try.func15, Try.ntmps15
        go_wp2_with fail
        refine (cT.out _).mono ?_
        rintro e w1 ⟨rfl, hb1⟩
        have HB1 := Lib.hid hb1
        have h01 := hb1.size
        clear hb1
        have HQ0 : Hid (OwnA (w1.alloc (.cells #[.string { data := #[] }] 9)) w.heap.size 9 w1.heap.size 0 1 1 (txs (qu L 0 0))) := Lib.hid (OwnA.of_own (by
          rw [qu_start]
          exact World.ownsRow_lit w1 #[.string { data := #[] }] 1 h01 (by unfold maxLen; omega) rfl))
        have HB2 : Hid (Below w.heap.size w (w1.alloc (.cells #[.string { data := #[] }] 9))) := Lib.hid (HB1.out.alloc h01 _)
        go_wp2_with fail
        obtain ⟨w2, hw2⟩ : ∃ w2, w1.alloc (.cells #[.string { data := #[] }] 9) = w2 := ⟨_, rfl⟩
        rw [hw2] at HQ0 HB2 ⊢
        clear hw2 HB1
        go_loopg [6] 40000 (fun kk q wr => ∃ (n i g off c m : Nat), kk = 40000 - (n * 2000 + i) ∧ q = .slice (some ⟨g, off, none⟩) m c ∧ i < (lev L n).length ∧ Hid ((qu L n i).length = m) ∧ Hid (OwnA wr w.heap.size 9 g off m c (txs (qu L n i))) ∧ Hid (Below' L (tx s) n) ∧ Hid (AllIn (tx s) ((lev L n).take i)) ∧ Hid (Below w.heap.size w wr))
        case atStart => exact ⟨0, 0, w1.heap.size, 0, 1, 1, rfl, rfl, lev_pos hL0 0, Lib.hid (by rw [qu_start]; rfl), HQ0, Lib.hid (fun m hm => by omega), Lib.hid (by rw [List.take_zero]; exact AllIn.nil _), HB2⟩
        case round =>
          clear HQ0 HB2
          obtain ⟨n, i, g, off, c, m, rfl, rfl, hi, HM, HQ, HBl, HA, HB⟩ := hrel
          obtain ⟨t, htn⟩ : ∃ t, (lev L n)[i]? = some t := ⟨_, List.getElem?_eq_getElem hi⟩
          obtain ⟨rest, hq, hnext⟩ := qu_step htn
          have HQe := Lib.hid hq
          have HNx := Lib.hid hnext
          have HTn := Lib.hid htn
          have hroom := lev_room hL4 HBl.out HX.out
          have hn17 := below_le hL0 HBl.out HX.out
          have hmb : m ≤ 6000 := by
            have h1 := qu_len L n i
            rw [HM.out] at h1
            have : (lev L n).length * L ≤ 1028 * 4 := Nat.mul_le_mul hroom hL4
            omega
          have htl := lev_mem_len L n t (List.mem_of_getElem? htn)
          have hm1 : 1 ≤ m := by rw [← HM.out, hq]; simp
          have hc0 := HQ.out.at (j := 0) (txs_at (x := t) (by rw [hq]; rfl))
          rw [Nat.add_zero] at hc0
          obtain ⟨y, hy⟩ : ∃ y, bx t = y := ⟨_, rfl⟩
          rw [hy] at hc0
          have HY : Hid (tx y = t) := Lib.hid (by rw [← hy, tx_bx])
          have hyl : y.size ≤ 17 := by rw [← tx_len, HY.out]; omega
          have hm0 : (0 : Int) < (m : Int) := by omega
          obtain ⟨b, hb⟩ : ∃ b, Lib.contains (tx s) t = b := ⟨_, rfl⟩
          have HPb := Lib.hid hb
          have cX : Hid (Calls Try.prog 41 #[.string s, .string y] wr fun e w' => e = .returned (.bool b) ∧ wr = w') := Lib.hid (by
            have := cC.out wr y HB.out
            rw [HY.out, hb] at this
            exact this)
          clear hq hnext htn hb htl
          cases b
          · have HF : Hid (y = bx (faR L (tx s))) := Lib.hid (by
              obtain ⟨hil, e⟩ := List.getElem?_eq_some_iff.1 HTn.out
              have e2 : lev L n = (lev L n).take i ++ t :: (lev L n).drop (i + 1) := by
                rw [← e, ← List.drop_eq_getElem_cons hil, List.take_append_drop]
              rw [faR_eq (fa_split HBl.out e2 HA.out HPb.out), ← HY.out, bx_tx])
            go_wp2_with fail
            refine cX.out.mono ?_
            rintro e w3 ⟨rfl, rfl⟩
            go_wp2
            go_ret2
            exact ⟨by rw [HF.out]; rfl, HB.out⟩
          · go_wp2_with fail
            refine cX.out.mono ?_
            rintro e w3 ⟨rfl, rfl⟩
            rename World => wo
            have hzo : w.heap.size ≤ wo.heap.size := HB.out.size
            go_wp2_with fail
            go_loopw [6, 26] (fun q p wr => ∃ (j g off c : Nat), j ≤ L ∧ p = .int .i64 j ∧ q = .slice (some ⟨g, off, none⟩) (m + j) c ∧ Hid (OwnA wr w.heap.size 9 g off (m + j) c (txs (qu L n i ++ (chd L t).take j))) ∧ Hid (Below w.heap.size w wr)) (fun _ p _ => L - (intOf p).toNat)
            case atStart => exact ⟨0, g, off, c, Nat.zero_le _, rfl, rfl, Lib.hid (by rw [List.take_zero, List.append_nil]; exact HQ.out), HB⟩
            case round =>
              clear HQ HB hc0 cX
              obtain ⟨j, g, off, c, hj, rfl, rfl, HQ, HB⟩ := hrel
              by_cases hlt : j < L
              · have hc0 := HQ.out.at (j := 0) (txs_at (x := t) (by rw [HQe.out]; rfl))
                rw [Nat.add_zero, ← HY.out, bx_tx] at hc0
                have hmj : (0 : Int) < ((m + j : Nat) : Int) := by omega
                have he := enc_letter (j := j) (by omega)
                have HE := Lib.hid he
                obtain ⟨l, hl⟩ : ∃ l, Utf8.encode (97 + (j : Int)) = l := ⟨_, rfl⟩
                have HLl : Hid (y ++ l = bx (t ++ [UInt8.ofNat (97 + j)])) := Lib.hid (by rw [← hl, HE.out, ← HY.out, ← bx_app, bx_tx])
                have hls : l.size = 1 := by rw [← hl, he]; rfl
                have hcat : ¬ (9223372036854775807 < y.size + l.size) := by omega
                have hw32 : IntKind.i32.wrap (97 + (j : Int)) = 97 + (j : Int) := by unfold IntKind.wrap; simp [IntKind.bits]; omega
                have HT1 : Hid (txs (qu L n i ++ (chd L t).take (j + 1)) = txs (qu L n i ++ (chd L t).take j) ++ [.string (y ++ l)]) := Lib.hid (by
                  have h1 := chd_at (L := L) t hlt
                  obtain ⟨hk, e⟩ := List.getElem?_eq_some_iff.1 h1
                  rw [List.take_succ_eq_append_getElem hk, e, ← List.append_assoc, txs_app, HLl.out]
                  rfl)
                have hzr := HB.out.size
                clear he
                go_wp2_with (at_builtin; refine wpList_append_oa rfl _ _ 29 rfl w.heap.size 9 i0 (.string ByteArray.empty) Try.underlying29 hii hz0 hz1' (by omega) rfl rfl (HQ.out.alloc _) ⟨wr.heap.size, 0, none⟩ (.string (y ++ l)) rfl (by simp [Addr.add]) (by simp [Value.oneCell']) (by omega) (by simp; omega) ?_; intro g' off' c' w5 hO5 hG5 _; have HO5 := Lib.hid hO5; have HB5 : Hid (Below w.heap.size w w5) := Lib.hid ((HB.out.alloc hzr _).grown hG5 (by simp; omega) (fun k e => by injection e with e; have := HQ.out.ge; omega)); clear hO5 hG5)
                go_roundw
                case rel => exact ⟨j + 1, g', off', c', by omega, by go_num, rfl, Lib.hid (by rw [HT1.out]; exact HO5.out), HB5⟩
                case measure => simp [intOf]; omega
              · have hjL : j = L := by omega
                subst hjL
                obtain ⟨c1, hc1⟩ : ∃ c1, c = c1 + 1 := ⟨c - 1, by have := HQ.out.nc; omega⟩
                obtain ⟨m1, hm1'⟩ : ∃ m1, m + j = m1 + 1 := ⟨m + j - 1, by omega⟩
                have hc1n : ¬ c1 + 1 = 1 := by have := HQ.out.nc; omega
                subst hc1
                rw [hm1'] at HQ ⊢
                have HCut := Lib.hid HQ.out.cut
                have HLs : Hid ((txs (qu j n i ++ (chd j t).take j)).drop 1 = txs (rest ++ chd j t)) := Lib.hid (by
                  rw [List.take_of_length_le (by rw [chd_len]; omega), HQe.out]
                  rfl)
                have hcc : m1 + 1 ≤ c1 + 1 := HQ.out.nc
                have hcm : (c1 : Int) + 1 ≤ 9223372036854775807 := by have := HQ.out.cm; unfold maxLen at this; omega
                have hAll : AllIn (tx s) ((lev j n).take (i + 1)) := by
                  obtain ⟨hil, e⟩ := List.getElem?_eq_some_iff.1 HTn.out
                  rw [List.take_succ_eq_append_getElem hil, e]
                  exact HA.out.app (AllIn.one HPb.out)
                have HAll := Lib.hid hAll
                clear hAll
                have h1m : (1 : Int) ≤ ((m1 + 1 : Nat) : Int) := by omega
                have hlm : (rest ++ chd j t).length = m1 := by
                  have h1 := HCut.out.len
                  rw [HLs.out, txs_len] at h1
                  exact h1
                have HLm := Lib.hid hlm
                clear hlm
                have hBig : n * 2000 + i < 40000 := by
                  have : n * 2000 ≤ 17 * 2000 := Nat.mul_le_mul hn17 (Nat.le_refl _)
                  omega
                go_wp2
                rcases HNx.out with ⟨hi1, hq1⟩ | ⟨hi1, hq1⟩
                · go_roundg (40000 - (n * 2000 + (i + 1)))
                  case measure => omega
                  case rel => exact ⟨n, i + 1, g, off + 1, c1, m1, rfl, rfl, hi1, Lib.hid (by rw [← hq1]; exact HLm.out), Lib.hid (by rw [← hq1, ← HLs.out]; exact HCut.out), HBl, HAll, HB⟩
                · go_roundg (40000 - ((n + 1) * 2000 + 0))
                  case measure => omega
                  case rel => exact ⟨n + 1, 0, g, off + 1, c1, m1, rfl, rfl, lev_pos hL0 _, Lib.hid (by rw [← hq1]; exact HLm.out), Lib.hid (by rw [← hq1, ← HLs.out]; exact HCut.out), Lib.hid (fun k hk => by
                    by_cases e : k = n
                    · subst e
                      have := HAll.out
                      rwa [hi1, List.take_length] at this
                    · exact HBl.out k (by omega)), Lib.hid (by rw [List.take_zero]; exact AllIn.nil _), HB⟩

end Go.Proofs.Ytifkggapdaflmab
