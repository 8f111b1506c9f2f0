/-
  The reference's text of a node.
-/
import Derived.Test.YtjcaikfejgeknabL2Kids
import Derived.Test.YtjcaikfejgeknabTxtOf
import Derived.Laws.BytesArg
namespace Go.Proofs.Ytjcaikfejgeknab
open Go.RowKit
set_option linter.unusedVariables false

theorem bx_app (x y : Txt) : bx (x ++ y) = bx x ++ bx y := by
  apply tx_inj
  rw [tx_bx]
  simp [tx, bx]

theorem strOf_one (n : Int) : strOfNums [n] = bx [UInt8.ofNat n.toNat] := rfl

theorem ret_bx {a b : ByteArray} (h : b = a) : Ending.returned (.string a) = .returned (.string b) := by rw [h]

set_option maxRecDepth 1000000 in
set_option maxHeartbeats 2000000 in
theorem l2Text_any (B : Nat) (a : Option Addr) (n c : Nat) (t : List Nd) (ps : List Txt) (hv : Valid t ps) : ∀ (f i : Nat) (w : World), n ≤ i + f → i < n → B ≤ w.heap.size → Nds B w a n c t →
    Calls Try.prog 86 #[.agg #[.slice a n c], .int .i64 (i : Int)] w fun e w' => e = .returned (.string (bx (txtOf t f i))) ∧ Below w.heap.size w w'
  | 0, i, w, hf, hi, _, _ => by omega
  | f + 1, i, w, hf, hi, hB, h => by
    have ih := Lib.hid (l2Text_any B a n c t ps hv f)
    have HL : Hid (t.length = n) := Lib.hid h.len
    have hn : n ≤ 481 := by have := hv.size; have := h.len; omega
    have HB := Lib.hid hB
    have H := Lib.hid h
    have HV := Lib.hid hv
    have CC := h.cap
    have TT := h.top
    clear h hB hv
    obtain ⟨d, x, hd, hx⟩ := HV.out.tells.at (show i < t.length by rw [HL.out]; exact hi)
    have HD := Lib.hid hd
    have hfit := Lib.hid (txt_short HV.out.tells (by rw [HL.out]; exact hn) (f := f + 1) (i := i) (by rw [HL.out]; exact hi))
    have hlow : 1 ≤ i → 0 ≤ d.l ∧ d.l ≤ 25 := fun h1 => by
      obtain ⟨q, v, c, _, _, hl, c0, c1, _, _⟩ := HV.out.tells.step i d h1 (by rw [HL.out]; exact hi) hd
      omega
    have HLow := Lib.hid hlow
    clear hd hx hlow
    have HB1 : Hid (Below w.heap.size w (w.alloc (.cells #[.slice a n c] 30))) := Lib.hid ((Below.refl _ _).alloc (Nat.le_refl _) _)
    have hbx : (w.alloc (.cells #[.slice a n c] 30)).cell? ⟨w.heap.size, 0, none⟩ = some (.slice a n c) := by simp
    have hlt : w.heap.size < (w.alloc (.cells #[.slice a n c] 30)).heap.size := by simp
    have cK := Lib.hid (l2Kids_any B a n c i t (w.alloc (.cells #[.slice a n c] 30)) (Nat.le_trans HB.out HB1.out.size) (H.out.keep (HB1.out.mono HB.out)) (by omega) hi)
    have hcv : ∀ (W : World) (l : Int), (convert 48 9 (.slice (some ⟨W.heap.size, 0, none⟩) 1 1)).run Try.prog (W.alloc (.cells #[.int .u8 (97 + l)] 5)) = .ok (.string (strOfNums [97 + l])) (W.alloc (.cells #[.int .u8 (97 + l)] 5)) := fun W l =>
      run_convert_bytes_arg _ 48 5 Try.underlying48 Try.underlying5 W.heap.size 0 1 1 [97 + l] rfl (fun i hi => by
        obtain rfl : i = 0 := by omega
        exact by simp) 9 Try.underlying9
    obtain ⟨ks, hks⟩ : ∃ ks, kidsTo t i n = ks := ⟨_, rfl⟩
    have HKs : Hid (kidsTo t i t.length = ks) := Lib.hid (by rw [HL.out]; exact hks)
    have hmem : ∀ j, j ∈ ks → i < j ∧ j < n := fun j hj => by
      rw [← hks] at hj
      have := mem_kidsTo.1 hj
      exact ⟨this.2.1, this.1⟩
    have HMem := Lib.hid hmem
    rw [hks] at cK
    obtain ⟨m, hm⟩ : ∃ m, ks.length = m := ⟨_, rfl⟩
    have HM := Lib.hid hm
    have hmn : m ≤ n := by rw [← hm, ← hks]; exact kidsTo_le n
    rw [hm] at cK
    clear hks hmem hm
    go_enter Try.func86, Try.ntmps86
    go_wp2_with fail
    obtain ⟨W1, hW1⟩ : ∃ W1, w.alloc (.cells #[.slice a n c] 30) = W1 := ⟨_, rfl⟩
    rw [hW1] at HB1 hbx hlt cK ⊢
    clear hW1
    refine cK.out.mono ?_
    rintro e W2 ⟨v2, rfl, hO2, hb2⟩
    obtain ⟨a2, c2, rfl, hS2⟩ := own_nums hO2
    have HB2 := Lib.hid (HB1.out.trans (hb2.mono HB1.out.size))
    have hbx2 := (hb2.cell (p := ⟨w.heap.size, 0, none⟩) hlt).trans hbx
    have hlt2 : w.heap.size < W2.heap.size := Nat.lt_of_lt_of_le hlt hb2.size
    have HS2 := Lib.hid hS2
    have C2 := hS2.cap
    have T2 := hS2.top
    clear hO2 hb2 hbx hS2
    obtain ⟨b, o, l, p, e, rfl, hbB, hd', hl, hp, hc1, hc2, hc3⟩ := (H.out.keep (HB2.out.mono HB.out)).elem i hi
    have hde := Option.some.inj (HD.out.symm.trans hd')
    subst hde
    clear hd'
    have hs1 : ∃ s1 : ByteArray, s1 = bx (headOf ⟨l, p, e⟩ i) ∧ s1.size ≤ 2 := ⟨_, rfl, by
      rw [bx_size]
      unfold headOf
      rw [List.length_append]
      have h1 : ((if i = 0 then [] else [UInt8.ofNat (97 + l).toNat] : Txt)).length ≤ 1 := by split <;> simp
      have h2 : ((if e then [46] else [] : Txt)).length ≤ 1 := by split <;> simp
      exact Nat.add_le_add h1 h2⟩
    obtain ⟨s1, hs1, hs12⟩ := hs1
    have HS1 := Lib.hid hs1
    clear hs1
    have hcase : (i = 0 ∧ e = true ∨ i = 0 ∧ e = false) ∨ (1 ≤ i ∧ e = true ∨ 1 ≤ i ∧ e = false) := by
      cases e
      · by_cases h : i = 0
        · exact .inl (.inr ⟨h, rfl⟩)
        · exact .inr (.inr ⟨by omega, rfl⟩)
      · by_cases h : i = 0
        · exact .inl (.inl ⟨h, rfl⟩)
        · exact .inr (.inl ⟨by omega, rfl⟩)
    have hlb : 1 ≤ i → 0 ≤ l ∧ l ≤ 25 := HLow.out
    have cv := hcv W2 l
    rw [strOf_one] at cv
    obtain ⟨sl1, hsl1⟩ : ∃ sl1, bx [UInt8.ofNat (97 + l).toNat] = sl1 := ⟨_, rfl⟩
    have hsl : sl1.size ≤ 1 := by rw [← hsl1, bx_size]; simp
    have HSL := Lib.hid hsl1
    rw [hsl1] at cv
    have hstart : ∀ q : ByteArray, s1.size ≤ 2 → True := fun _ _ => trivial
    have HB2a := Lib.hid (HB2.out.alloc HB2.out.size (.cells #[.int .u8 (97 + l)] 5))
    have HBxa := Lib.hid ((World.cell?_alloc_lt W2 (.cells #[.int .u8 (97 + l)] 5) ⟨w.heap.size, 0, none⟩ hlt2).trans hbx2)
    have HSa := Lib.hid (HS2.out.keep ((Below.refl _ _).alloc (Nat.le_refl _) (.cells #[.int .u8 (97 + l)] 5)))
    have HBx2 := Lib.hid hbx2
    have hbW : b < W2.heap.size := by have := HB.out; have := HB2.out.size; omega
    clear hsl1 hcv hstart
    by_cases hm0 : m = 0
    · have HX : Hid (bx (txtOf t (f + 1) i) = s1) := Lib.hid (by rw [txtOf_leaf HD.out (by rw [HKs.out]; exact List.eq_nil_of_length_eq_zero (by rw [HM.out]; exact hm0)), HS1.out])
      have hb1 : ((m : Int) == 0) = true := by simp [hm0]
      clear hm0
      rcases hcase with (⟨hi0, rfl⟩ | ⟨hi0, rfl⟩) | (⟨hi0, rfl⟩ | ⟨hi0, rfl⟩)
      · have HE : Hid (s1 = ⟨#[]⟩ ++ ⟨#[46]⟩) := Lib.hid (by rw [HS1.out]; unfold headOf; rw [hi0]; rfl)
        have hle0 : ¬ ((0 : Int) < (i : Int)) := by omega
        have hle1 : decide (0 < i) = false := decide_eq_false (by omega)
        clear hi0 hlb cv
        go_wp2
        go_ret
        exact ⟨ret_bx (by rw [HX.out, HE.out]), HB2.out⟩
      · have HE : Hid (s1 = ⟨#[]⟩) := Lib.hid (by rw [HS1.out]; unfold headOf; rw [hi0]; rfl)
        have hle0 : ¬ ((0 : Int) < (i : Int)) := by omega
        have hle1 : decide (0 < i) = false := decide_eq_false (by omega)
        clear hi0 hlb cv
        go_wp2
        go_ret
        exact ⟨ret_bx (by rw [HX.out, HE.out]), HB2.out⟩
      · have HE : Hid (s1 = sl1 ++ ⟨#[46]⟩) := Lib.hid (by rw [HS1.out, ← HSL.out]; unfold headOf; rw [if_neg (by omega), bx_app]; rfl)
        have hle0 : ((0 : Int) < (i : Int)) := by omega
        have hle1 : decide (0 < i) = true := decide_eq_true (by omega)
        obtain ⟨hl0, hl25⟩ := hlb hi0
        clear hi0 hlb
        go_wp2
        go_ret
        exact ⟨ret_bx (by rw [HX.out, HE.out]), HB2a.out⟩
      · have HE : Hid (s1 = sl1) := Lib.hid (by rw [HS1.out, ← HSL.out]; unfold headOf; rw [if_neg (by omega)]; rfl)
        have hle0 : ((0 : Int) < (i : Int)) := by omega
        have hle1 : decide (0 < i) = true := decide_eq_true (by omega)
        obtain ⟨hl0, hl25⟩ := hlb hi0
        clear hi0 hlb
        go_wp2
        go_ret
        exact ⟨ret_bx (by rw [HX.out, HE.out]), HB2a.out⟩
    · have hb1 : ((m : Int) == 0) = false := by simp [hm0]
      have HNe : Hid (kidsTo t i t.length ≠ []) := Lib.hid (fun h => hm0 (by rw [← HM.out, ← HKs.out, h]; rfl))
      have HU0 : Hid (s1 ++ ⟨#[40]⟩ = bx (upTo t f i ⟨l, p, e⟩ 0)) := Lib.hid (by
        rw [HS1.out]
        unfold upTo
        rw [List.take_zero, List.flatMap_nil, List.append_nil, bx_app]
        rfl)
      clear hm0
      rcases hcase with (⟨hi0, rfl⟩ | ⟨hi0, rfl⟩) | (⟨hi0, rfl⟩ | ⟨hi0, rfl⟩)
      · have HE : Hid (s1 = ⟨#[]⟩ ++ ⟨#[46]⟩) := Lib.hid (by rw [HS1.out]; unfold headOf; rw [hi0]; rfl)
        have hle0 : ¬ ((0 : Int) < (i : Int)) := by omega
        have hle1 : decide (0 < i) = false := decide_eq_false (by omega)
        clear hi0 hlb cv
        go_wp2
        clear hc1 hc2 hc3
        go_loopw [5, 7] (fun q i' wr => ∃ (k : Nat) (s : ByteArray), k ≤ m ∧ i' = .int .i64 k ∧ q = .string s ∧ Hid (s = bx (upTo t f i ⟨l, p, true⟩ k)) ∧ Hid (Below w.heap.size w wr) ∧ Hid (wr.cell? ⟨w.heap.size, 0, none⟩ = some (.slice (some ⟨b, o, none⟩) n c)) ∧ Hid (Sl W2.heap.size wr a2 m c2 (nums ks)) ∧ W2.heap.size ≤ wr.heap.size) (fun _ i' _ => m - (intOf i').toNat)
        case atStart => exact ⟨0, _, Nat.zero_le _, rfl, rfl, Lib.hid (by rw [← HU0.out, HE.out]), HB2, HBx2, HS2, Nat.le_refl _⟩
        case round =>
          obtain ⟨k, s, hk, rfl, rfl, HSs, HBw, HBox, HSl, hz⟩ := hrel
          have hul := upTo_len (f := f) (k := k) HD.out HNe.out
          have hss : s.size ≤ 2000 := by
            rw [HSs.out, bx_size]
            have := hfit.out
            omega
          clear hul
          by_cases hlk : k < m
          · obtain ⟨j, hj⟩ : ∃ j, ks[k]? = some j := ⟨_, List.getElem?_eq_getElem (by rw [HM.out]; exact hlk)⟩
            obtain ⟨b3, o3, e3, hb3, hcj⟩ := HSl.out.spot k _ (nums_at hj)
            subst e3
            have hjm := HMem.out j (List.mem_iff_getElem?.2 ⟨k, hj⟩)
            have HUs := Lib.hid (upTo_succ (t := t) (f := f) (i := i) (d := ⟨l, p, true⟩) (k := k) (j := j) (by rw [HKs.out]; exact hj))
            have hsj := txt_short HV.out.tells (by rw [HL.out]; exact hn) (f := f) (i := j) (by rw [HL.out]; exact hjm.2)
            have cI : Hid (∀ W, Below w.heap.size w W → Calls Try.prog 86 #[.agg #[.slice (some ⟨b, o, none⟩) n c], .int .i64 (j : Int)] W fun e w' => e = .returned (.string (bx (txtOf t f j))) ∧ Below W.heap.size W w') := Lib.hid (fun W hW => ih.out j W (by omega) hjm.2 (Nat.le_trans HB.out hW.size) (H.out.keep (hW.mono HB.out)))
            obtain ⟨sj, hsje⟩ : ∃ sj, bx (txtOf t f j) = sj := ⟨_, rfl⟩
            have HSj := Lib.hid hsje
            have hsjs : sj.size ≤ 2000 := by rw [← hsje, bx_size]; exact hsj
            rw [hsje] at cI
            have hbx := HBox.out
            have hk0 : (0 : Int) ≤ (k : Int) := by omega
            have hk1 : (k : Int) < (m : Int) := by omega
            have hzw : w.heap.size < wr.heap.size := by omega
            have hb3w : b3 < wr.heap.size := by omega
            have hcat : s.size + sj.size ≤ 4000 := by omega
            have hcat2 : ((s.size : Int) + (sj.size : Int)) ≤ 4000 := by omega
            have hcat3 : ∀ W, (Op.stringOp .add s sj).run Try.prog W = .ok (.string (s ++ sj)) W := fun W => run_string_add_sum W s sj (by omega)
            have hcat4 : ¬ (9223372036854775807 < s.size + sj.size) := by omega
            clear hj hsj hsje hjm
            go_wp2
            go_region_held3 (fun w' => w'.cell? ⟨w.heap.size, 0, none⟩ = some (.slice (some ⟨b, o, none⟩) n c) ∧ w'.cell? ⟨b3, o3 + k, none⟩ = some (.int .i64 (j : Int)))
              (first
                | exact ⟨(hb4.cell (p := ⟨w.heap.size, 0, none⟩) hzw).trans hbx, (hb4.cell (p := ⟨b3, o3 + k, none⟩) hb3w).trans hcj⟩
                | exact ⟨hbx, hcj⟩)
              (first | (go_at_call 86; refine (cI.out _ (by exact HBw.out.drew)).mono ?_; rintro en w4 ⟨rfl, hb4⟩))
            have HB4 := Lib.hid hb4
            clear hb4 hbx hcj
            go_wp2
            go_roundw
            case rel => exact ⟨k + 1, s ++ sj, by omega, by go_num, rfl, Lib.hid (by rw [HUs.out, bx_app, HSj.out, HSs.out]), Lib.hid (HBw.out.trans ((Below.refl _ _).drew.trans (HB4.out.mono HBw.out.size))), Lib.hid ((HB4.out.cell (p := ⟨w.heap.size, 0, none⟩) hzw).trans HBox.out), Lib.hid (HSl.out.keep ((Below.refl _ _).drew.trans (HB4.out.mono hz))), by have := HB4.out.size; simp at this; omega⟩
            case measure => simp [intOf]; omega
          · have HX : Hid (bx (txtOf t (f + 1) i) = s ++ ⟨#[41]⟩) := Lib.hid (by
              rw [← upTo_all (f := f) (k := k) HD.out HNe.out (by rw [HKs.out, HM.out]; omega), bx_app, HSs.out]
              rfl)
            go_wp2
            go_ret
            exact ⟨ret_bx HX.out, HBw.out⟩
      · have HE : Hid (s1 = ⟨#[]⟩) := Lib.hid (by rw [HS1.out]; unfold headOf; rw [hi0]; rfl)
        have hle0 : ¬ ((0 : Int) < (i : Int)) := by omega
        have hle1 : decide (0 < i) = false := decide_eq_false (by omega)
        clear hi0 hlb cv
        go_wp2
        clear hc1 hc2 hc3
        go_loopw [5, 7] (fun q i' wr => ∃ (k : Nat) (s : ByteArray), k ≤ m ∧ i' = .int .i64 k ∧ q = .string s ∧ Hid (s = bx (upTo t f i ⟨l, p, false⟩ k)) ∧ Hid (Below w.heap.size w wr) ∧ Hid (wr.cell? ⟨w.heap.size, 0, none⟩ = some (.slice (some ⟨b, o, none⟩) n c)) ∧ Hid (Sl W2.heap.size wr a2 m c2 (nums ks)) ∧ W2.heap.size ≤ wr.heap.size) (fun _ i' _ => m - (intOf i').toNat)
        case atStart => exact ⟨0, _, Nat.zero_le _, rfl, rfl, Lib.hid (by rw [← HU0.out, HE.out]), HB2, HBx2, HS2, Nat.le_refl _⟩
        case round =>
          obtain ⟨k, s, hk, rfl, rfl, HSs, HBw, HBox, HSl, hz⟩ := hrel
          have hul := upTo_len (f := f) (k := k) HD.out HNe.out
          have hss : s.size ≤ 2000 := by
            rw [HSs.out, bx_size]
            have := hfit.out
            omega
          clear hul
          by_cases hlk : k < m
          · obtain ⟨j, hj⟩ : ∃ j, ks[k]? = some j := ⟨_, List.getElem?_eq_getElem (by rw [HM.out]; exact hlk)⟩
            obtain ⟨b3, o3, e3, hb3, hcj⟩ := HSl.out.spot k _ (nums_at hj)
            subst e3
            have hjm := HMem.out j (List.mem_iff_getElem?.2 ⟨k, hj⟩)
            have HUs := Lib.hid (upTo_succ (t := t) (f := f) (i := i) (d := ⟨l, p, false⟩) (k := k) (j := j) (by rw [HKs.out]; exact hj))
            have hsj := txt_short HV.out.tells (by rw [HL.out]; exact hn) (f := f) (i := j) (by rw [HL.out]; exact hjm.2)
            have cI : Hid (∀ W, Below w.heap.size w W → Calls Try.prog 86 #[.agg #[.slice (some ⟨b, o, none⟩) n c], .int .i64 (j : Int)] W fun e w' => e = .returned (.string (bx (txtOf t f j))) ∧ Below W.heap.size W w') := Lib.hid (fun W hW => ih.out j W (by omega) hjm.2 (Nat.le_trans HB.out hW.size) (H.out.keep (hW.mono HB.out)))
            obtain ⟨sj, hsje⟩ : ∃ sj, bx (txtOf t f j) = sj := ⟨_, rfl⟩
            have HSj := Lib.hid hsje
            have hsjs : sj.size ≤ 2000 := by rw [← hsje, bx_size]; exact hsj
            rw [hsje] at cI
            have hbx := HBox.out
            have hk0 : (0 : Int) ≤ (k : Int) := by omega
            have hk1 : (k : Int) < (m : Int) := by omega
            have hzw : w.heap.size < wr.heap.size := by omega
            have hb3w : b3 < wr.heap.size := by omega
            have hcat : s.size + sj.size ≤ 4000 := by omega
            have hcat2 : ((s.size : Int) + (sj.size : Int)) ≤ 4000 := by omega
            have hcat3 : ∀ W, (Op.stringOp .add s sj).run Try.prog W = .ok (.string (s ++ sj)) W := fun W => run_string_add_sum W s sj (by omega)
            have hcat4 : ¬ (9223372036854775807 < s.size + sj.size) := by omega
            clear hj hsj hsje hjm
            go_wp2
            go_region_held3 (fun w' => w'.cell? ⟨w.heap.size, 0, none⟩ = some (.slice (some ⟨b, o, none⟩) n c) ∧ w'.cell? ⟨b3, o3 + k, none⟩ = some (.int .i64 (j : Int)))
              (first
                | exact ⟨(hb4.cell (p := ⟨w.heap.size, 0, none⟩) hzw).trans hbx, (hb4.cell (p := ⟨b3, o3 + k, none⟩) hb3w).trans hcj⟩
                | exact ⟨hbx, hcj⟩)
              (first | (go_at_call 86; refine (cI.out _ (by exact HBw.out.drew)).mono ?_; rintro en w4 ⟨rfl, hb4⟩))
            have HB4 := Lib.hid hb4
            clear hb4 hbx hcj
            go_wp2
            go_roundw
            case rel => exact ⟨k + 1, s ++ sj, by omega, by go_num, rfl, Lib.hid (by rw [HUs.out, bx_app, HSj.out, HSs.out]), Lib.hid (HBw.out.trans ((Below.refl _ _).drew.trans (HB4.out.mono HBw.out.size))), Lib.hid ((HB4.out.cell (p := ⟨w.heap.size, 0, none⟩) hzw).trans HBox.out), Lib.hid (HSl.out.keep ((Below.refl _ _).drew.trans (HB4.out.mono hz))), by have := HB4.out.size; simp at this; omega⟩
            case measure => simp [intOf]; omega
          · have HX : Hid (bx (txtOf t (f + 1) i) = s ++ ⟨#[41]⟩) := Lib.hid (by
              rw [← upTo_all (f := f) (k := k) HD.out HNe.out (by rw [HKs.out, HM.out]; omega), bx_app, HSs.out]
              rfl)
            go_wp2
            go_ret
            exact ⟨ret_bx HX.out, HBw.out⟩
      · have HE : Hid (s1 = sl1 ++ ⟨#[46]⟩) := Lib.hid (by rw [HS1.out, ← HSL.out]; unfold headOf; rw [if_neg (by omega), bx_app]; rfl)
        have hle0 : ((0 : Int) < (i : Int)) := by omega
        have hle1 : decide (0 < i) = true := decide_eq_true (by omega)
        obtain ⟨hl0, hl25⟩ := hlb hi0
        clear hi0 hlb
        go_wp2
        clear hc1 hc2 hc3
        go_loopw [5, 7] (fun q i' wr => ∃ (k : Nat) (s : ByteArray), k ≤ m ∧ i' = .int .i64 k ∧ q = .string s ∧ Hid (s = bx (upTo t f i ⟨l, p, true⟩ k)) ∧ Hid (Below w.heap.size w wr) ∧ Hid (wr.cell? ⟨w.heap.size, 0, none⟩ = some (.slice (some ⟨b, o, none⟩) n c)) ∧ Hid (Sl W2.heap.size wr a2 m c2 (nums ks)) ∧ W2.heap.size ≤ wr.heap.size) (fun _ i' _ => m - (intOf i').toNat)
        case atStart => exact ⟨0, _, Nat.zero_le _, rfl, rfl, Lib.hid (by rw [← HU0.out, HE.out]), HB2a, HBxa, HSa, by simp⟩
        case round =>
          obtain ⟨k, s, hk, rfl, rfl, HSs, HBw, HBox, HSl, hz⟩ := hrel
          have hul := upTo_len (f := f) (k := k) HD.out HNe.out
          have hss : s.size ≤ 2000 := by
            rw [HSs.out, bx_size]
            have := hfit.out
            omega
          clear hul
          by_cases hlk : k < m
          · obtain ⟨j, hj⟩ : ∃ j, ks[k]? = some j := ⟨_, List.getElem?_eq_getElem (by rw [HM.out]; exact hlk)⟩
            obtain ⟨b3, o3, e3, hb3, hcj⟩ := HSl.out.spot k _ (nums_at hj)
            subst e3
            have hjm := HMem.out j (List.mem_iff_getElem?.2 ⟨k, hj⟩)
            have HUs := Lib.hid (upTo_succ (t := t) (f := f) (i := i) (d := ⟨l, p, true⟩) (k := k) (j := j) (by rw [HKs.out]; exact hj))
            have hsj := txt_short HV.out.tells (by rw [HL.out]; exact hn) (f := f) (i := j) (by rw [HL.out]; exact hjm.2)
            have cI : Hid (∀ W, Below w.heap.size w W → Calls Try.prog 86 #[.agg #[.slice (some ⟨b, o, none⟩) n c], .int .i64 (j : Int)] W fun e w' => e = .returned (.string (bx (txtOf t f j))) ∧ Below W.heap.size W w') := Lib.hid (fun W hW => ih.out j W (by omega) hjm.2 (Nat.le_trans HB.out hW.size) (H.out.keep (hW.mono HB.out)))
            obtain ⟨sj, hsje⟩ : ∃ sj, bx (txtOf t f j) = sj := ⟨_, rfl⟩
            have HSj := Lib.hid hsje
            have hsjs : sj.size ≤ 2000 := by rw [← hsje, bx_size]; exact hsj
            rw [hsje] at cI
            have hbx := HBox.out
            have hk0 : (0 : Int) ≤ (k : Int) := by omega
            have hk1 : (k : Int) < (m : Int) := by omega
            have hzw : w.heap.size < wr.heap.size := by omega
            have hb3w : b3 < wr.heap.size := by omega
            have hcat : s.size + sj.size ≤ 4000 := by omega
            have hcat2 : ((s.size : Int) + (sj.size : Int)) ≤ 4000 := by omega
            have hcat3 : ∀ W, (Op.stringOp .add s sj).run Try.prog W = .ok (.string (s ++ sj)) W := fun W => run_string_add_sum W s sj (by omega)
            have hcat4 : ¬ (9223372036854775807 < s.size + sj.size) := by omega
            clear hj hsj hsje hjm
            go_wp2
            go_region_held3 (fun w' => w'.cell? ⟨w.heap.size, 0, none⟩ = some (.slice (some ⟨b, o, none⟩) n c) ∧ w'.cell? ⟨b3, o3 + k, none⟩ = some (.int .i64 (j : Int)))
              (first
                | exact ⟨(hb4.cell (p := ⟨w.heap.size, 0, none⟩) hzw).trans hbx, (hb4.cell (p := ⟨b3, o3 + k, none⟩) hb3w).trans hcj⟩
                | exact ⟨hbx, hcj⟩)
              (first | (go_at_call 86; refine (cI.out _ (by exact HBw.out.drew)).mono ?_; rintro en w4 ⟨rfl, hb4⟩))
            have HB4 := Lib.hid hb4
            clear hb4 hbx hcj
            go_wp2
            go_roundw
            case rel => exact ⟨k + 1, s ++ sj, by omega, by go_num, rfl, Lib.hid (by rw [HUs.out, bx_app, HSj.out, HSs.out]), Lib.hid (HBw.out.trans ((Below.refl _ _).drew.trans (HB4.out.mono HBw.out.size))), Lib.hid ((HB4.out.cell (p := ⟨w.heap.size, 0, none⟩) hzw).trans HBox.out), Lib.hid (HSl.out.keep ((Below.refl _ _).drew.trans (HB4.out.mono hz))), by have := HB4.out.size; simp at this; omega⟩
            case measure => simp [intOf]; omega
          · have HX : Hid (bx (txtOf t (f + 1) i) = s ++ ⟨#[41]⟩) := Lib.hid (by
              rw [← upTo_all (f := f) (k := k) HD.out HNe.out (by rw [HKs.out, HM.out]; omega), bx_app, HSs.out]
              rfl)
            go_wp2
            go_ret
            exact ⟨ret_bx HX.out, HBw.out⟩
      · have HE : Hid (s1 = sl1) := Lib.hid (by rw [HS1.out, ← HSL.out]; unfold headOf; rw [if_neg (by omega)]; rfl)
        have hle0 : ((0 : Int) < (i : Int)) := by omega
        have hle1 : decide (0 < i) = true := decide_eq_true (by omega)
        obtain ⟨hl0, hl25⟩ := hlb hi0
        clear hi0 hlb
        go_wp2
        clear hc1 hc2 hc3
        go_loopw [5, 7] (fun q i' wr => ∃ (k : Nat) (s : ByteArray), k ≤ m ∧ i' = .int .i64 k ∧ q = .string s ∧ Hid (s = bx (upTo t f i ⟨l, p, false⟩ k)) ∧ Hid (Below w.heap.size w wr) ∧ Hid (wr.cell? ⟨w.heap.size, 0, none⟩ = some (.slice (some ⟨b, o, none⟩) n c)) ∧ Hid (Sl W2.heap.size wr a2 m c2 (nums ks)) ∧ W2.heap.size ≤ wr.heap.size) (fun _ i' _ => m - (intOf i').toNat)
        case atStart => exact ⟨0, _, Nat.zero_le _, rfl, rfl, Lib.hid (by rw [← HU0.out, HE.out]), HB2a, HBxa, HSa, by simp⟩
        case round =>
          obtain ⟨k, s, hk, rfl, rfl, HSs, HBw, HBox, HSl, hz⟩ := hrel
          have hul := upTo_len (f := f) (k := k) HD.out HNe.out
          have hss : s.size ≤ 2000 := by
            rw [HSs.out, bx_size]
            have := hfit.out
            omega
          clear hul
          by_cases hlk : k < m
          · obtain ⟨j, hj⟩ : ∃ j, ks[k]? = some j := ⟨_, List.getElem?_eq_getElem (by rw [HM.out]; exact hlk)⟩
            obtain ⟨b3, o3, e3, hb3, hcj⟩ := HSl.out.spot k _ (nums_at hj)
            subst e3
            have hjm := HMem.out j (List.mem_iff_getElem?.2 ⟨k, hj⟩)
            have HUs := Lib.hid (upTo_succ (t := t) (f := f) (i := i) (d := ⟨l, p, false⟩) (k := k) (j := j) (by rw [HKs.out]; exact hj))
            have hsj := txt_short HV.out.tells (by rw [HL.out]; exact hn) (f := f) (i := j) (by rw [HL.out]; exact hjm.2)
            have cI : Hid (∀ W, Below w.heap.size w W → Calls Try.prog 86 #[.agg #[.slice (some ⟨b, o, none⟩) n c], .int .i64 (j : Int)] W fun e w' => e = .returned (.string (bx (txtOf t f j))) ∧ Below W.heap.size W w') := Lib.hid (fun W hW => ih.out j W (by omega) hjm.2 (Nat.le_trans HB.out hW.size) (H.out.keep (hW.mono HB.out)))
            obtain ⟨sj, hsje⟩ : ∃ sj, bx (txtOf t f j) = sj := ⟨_, rfl⟩
            have HSj := Lib.hid hsje
            have hsjs : sj.size ≤ 2000 := by rw [← hsje, bx_size]; exact hsj
            rw [hsje] at cI
            have hbx := HBox.out
            have hk0 : (0 : Int) ≤ (k : Int) := by omega
            have hk1 : (k : Int) < (m : Int) := by omega
            have hzw : w.heap.size < wr.heap.size := by omega
            have hb3w : b3 < wr.heap.size := by omega
            have hcat : s.size + sj.size ≤ 4000 := by omega
            have hcat2 : ((s.size : Int) + (sj.size : Int)) ≤ 4000 := by omega
            have hcat3 : ∀ W, (Op.stringOp .add s sj).run Try.prog W = .ok (.string (s ++ sj)) W := fun W => run_string_add_sum W s sj (by omega)
            have hcat4 : ¬ (9223372036854775807 < s.size + sj.size) := by omega
            clear hj hsj hsje hjm
            go_wp2
            go_region_held3 (fun w' => w'.cell? ⟨w.heap.size, 0, none⟩ = some (.slice (some ⟨b, o, none⟩) n c) ∧ w'.cell? ⟨b3, o3 + k, none⟩ = some (.int .i64 (j : Int)))
              (first
                | exact ⟨(hb4.cell (p := ⟨w.heap.size, 0, none⟩) hzw).trans hbx, (hb4.cell (p := ⟨b3, o3 + k, none⟩) hb3w).trans hcj⟩
                | exact ⟨hbx, hcj⟩)
              (first | (go_at_call 86; refine (cI.out _ (by exact HBw.out.drew)).mono ?_; rintro en w4 ⟨rfl, hb4⟩))
            have HB4 := Lib.hid hb4
            clear hb4 hbx hcj
            go_wp2
            go_roundw
            case rel => exact ⟨k + 1, s ++ sj, by omega, by go_num, rfl, Lib.hid (by rw [HUs.out, bx_app, HSj.out, HSs.out]), Lib.hid (HBw.out.trans ((Below.refl _ _).drew.trans (HB4.out.mono HBw.out.size))), Lib.hid ((HB4.out.cell (p := ⟨w.heap.size, 0, none⟩) hzw).trans HBox.out), Lib.hid (HSl.out.keep ((Below.refl _ _).drew.trans (HB4.out.mono hz))), by have := HB4.out.size; simp at this; omega⟩
            case measure => simp [intOf]; omega
          · have HX : Hid (bx (txtOf t (f + 1) i) = s ++ ⟨#[41]⟩) := Lib.hid (by
              rw [← upTo_all (f := f) (k := k) HD.out HNe.out (by rw [HKs.out, HM.out]; omega), bx_app, HSs.out]
              rfl)
            go_wp2
            go_ret
            exact ⟨ret_bx HX.out, HBw.out⟩

end Go.Proofs.Ytjcaikfejgeknab
