/-
  ShortestAbsent: the reference's function; both answer the same.
-/
import Derived.Test.YtifkggapdaflmabAbsentI
import Derived.Test.YtifkggapdaflmabHas2
import Derived.Test.YtifkggapdaflmabBes2
import Derived.Deep.QuietTactic
import Derived.BigQuiet
import Derived.IntWalk
namespace Go.Proofs.Ytifkggapdaflmab
open Go.RowKit
set_option linter.unusedVariables false

theorem l1InB_any (x a b : Int) (w : World) : Calls Try.prog 39 #[.int .i64 x, .int .i64 a, .int .i64 b] w fun e w' => e = .returned (.bool (decide (a ≤ x ∧ x ≤ b))) ∧ w = w' := by
  by_cases h1 : a ≤ x
  · go_enter Try.func39, Try.ntmps39
    go_wp2
    go_ret
    exact ⟨ret_bool (decide_eq_decide.2 (by omega)), rfl⟩
  · go_enter Try.func39, Try.ntmps39
    go_wp2
    go_ret
    exact ⟨ret_bool (by simp; omega), rfl⟩

theorem abcd_at {k : Nat} (h : k < 4) : (ByteArray.mk #[97, 98, 99, 100]).extract k (k + 1) = bx [UInt8.ofNat (97 + k)] := by
  have : k = 0 ∨ k = 1 ∨ k = 2 ∨ k = 3 := by omega
  rcases this with rfl | rfl | rfl | rfl <;> rfl

/-- the first of the next length, so far -/
def nx (L n i k : Nat) : List Txt := ((lev L n).take i).flatMap (chd L) ++ (match (lev L n)[i]? with | some u => (chd L u).take k | none => [])
theorem nx_zero (L n i : Nat) : nx L n i 0 = ((lev L n).take i).flatMap (chd L) := by
  unfold nx
  cases (lev L n)[i]? <;> simp
theorem nx_some {L n i : Nat} {u : Txt} (h : (lev L n)[i]? = some u) (k : Nat) : nx L n i k = ((lev L n).take i).flatMap (chd L) ++ (chd L u).take k := by unfold nx; rw [h]
theorem nx_step {L n i k : Nat} {u : Txt} (h : (lev L n)[i]? = some u) (hk : k < L) : nx L n i (k + 1) = nx L n i k ++ [u ++ [UInt8.ofNat (97 + k)]] := by
  obtain ⟨hl, e⟩ := List.getElem?_eq_some_iff.1 (chd_at (L := L) u hk)
  rw [nx_some h, nx_some h, List.take_succ_eq_append_getElem hl, e, List.append_assoc]
theorem nx_full {L n i : Nat} {u : Txt} (h : (lev L n)[i]? = some u) : nx L n i L = nx L n (i + 1) 0 := by
  obtain ⟨hi, e⟩ := List.getElem?_eq_some_iff.1 h
  rw [nx_zero, nx_some h, List.take_of_length_le (l := chd L u) (by rw [chd_len]; omega), List.take_succ_eq_append_getElem hi, e, List.flatMap_append, List.flatMap_cons, List.flatMap_nil, List.append_nil]
theorem nx_all {L n : Nat} : nx L n (lev L n).length 0 = lev L (n + 1) := by rw [nx_zero, List.take_length, lev_succ]
theorem nx_pre {L n i k : Nat} {u : Txt} (h : (lev L n)[i]? = some u) (hk : k < L) : ∃ B, lev L (n + 1) = nx L n i k ++ (u ++ [UInt8.ofNat (97 + k)]) :: B := by
  obtain ⟨hi, e⟩ := List.getElem?_eq_some_iff.1 h
  obtain ⟨hl, e2⟩ := List.getElem?_eq_some_iff.1 (chd_at (L := L) u hk)
  refine ⟨(chd L u).drop (k + 1) ++ ((lev L n).drop (i + 1)).flatMap (chd L), ?_⟩
  have e3 : lev L n = (lev L n).take i ++ u :: (lev L n).drop (i + 1) := by
    rw [← e, ← List.drop_eq_getElem_cons hi, List.take_append_drop]
  have e4 : chd L u = (chd L u).take k ++ (u ++ [UInt8.ofNat (97 + k)]) :: (chd L u).drop (k + 1) := by
    rw [← e2, ← List.drop_eq_getElem_cons hl, List.take_append_drop]
  have e5 : lev L (n + 1) = ((lev L n).take i ++ u :: (lev L n).drop (i + 1)).flatMap (chd L) := by rw [← e3, lev_succ]
  rw [e5, List.flatMap_append, List.flatMap_cons, nx_some h]
  conv => lhs; rw [e4]
  simp only [List.append_assoc, List.cons_append]
theorem nx_len {L n i k : Nat} : (nx L n i k).length ≤ (lev L n).length * L + L := by
  unfold nx
  rw [List.length_append, flat_len, List.length_take]
  have : min i (lev L n).length * L ≤ (lev L n).length * L := Nat.mul_le_mul (Nat.min_le_right _ _) (Nat.le_refl _)
  cases (lev L n)[i]? with
  | none => simp; omega
  | some u => simp only [List.length_take, chd_len]; omega

theorem has_is {x u : Txt} (hu : u ≠ []) : decide (u ∈ prt x) = Lib.contains x u := by
  rw [Bool.eq_iff_iff, decide_eq_true_eq, mem_prt, contains_iff]
  exact ⟨fun h => h.2, fun h => ⟨hu, h⟩⟩

set_option maxRecDepth 1000000 in
set_option maxHeartbeats 8000000 in
theorem specAbsent_any (s : ByteArray) (z : Int) (hs : s.size ≤ 1048576) (hz : -9223372036854775808 ≤ z ∧ z ≤ 9223372036854775807) (w : World) :
    Calls Try.prog 14 #[.string s, .int .i64 z] w fun e w' => e = .returned (.tuple #[.string (absR s z), .bool (okA s z)]) ∧ Below w.heap.size w w' := by
  have cT := Lib.hid (fun W => l8Text_any s W (by omega))
  have cI := Lib.hid (fun W => l1InB_any z 1 4 W)
  unfold absR okA
  cases ht : okT s with
  | false =>
    rw [ht] at cT
    simp only [Bool.false_and, Bool.false_eq_true, if_false]
    clear ht
    go_enter Try.func14, Try.ntmps14
    go_wp2_with fail
    refine (cT.out _).mono ?_
    rintro e w1 ⟨rfl, rfl⟩
    go_wp2
    go_ret2
    exact ⟨rfl, Below.refl _ _⟩
  | true =>
    rw [ht] at cT
    have h16 := okT_size ht
    by_cases hz14 : 1 ≤ z ∧ z ≤ 4
    · simp only [show decide (1 ≤ z) = true from decide_eq_true (by omega), show decide (z ≤ 4) = true from decide_eq_true (by omega), Bool.and_true, if_true]
      rw [decide_eq_true hz14] at cI
      obtain ⟨L, hL⟩ : ∃ L : Nat, z = (L : Int) := ⟨z.toNat, by omega⟩
      subst hL
      rw [Int.toNat_natCast]
      have hL0 : 0 < L := by omega
      have hL4 : L ≤ 4 := by omega
      have hx16 : (tx s).length ≤ 16 := by rw [tx_len]; exact h16
      have HX := Lib.hid hx16
      have cP := Lib.hid (fun W => l8Parts_any s W h16)
      obtain ⟨ps, hps⟩ : ∃ ps, prt (tx s) = ps := ⟨_, rfl⟩
      have HPs := Lib.hid hps
      rw [hps] at cP
      obtain ⟨i0, hii, hz0, hz1', hz2⟩ := info_parts infoS
      have HW0 : Hid ((w.alloc (.cells #[.string { data := #[] }] 9)).ownsRow w.heap.size 9 1 (.slice (some ⟨w.heap.size, 0, none⟩) 1 1) 1 (txs (lev L 0))) := Lib.hid (World.ownsRow_lit w #[.string { data := #[] }] 1 (Nat.le_refl _) (by unfold maxLen; omega) rfl)
      have HB0 : Hid (Below w.heap.size w (w.alloc (.cells #[.string { data := #[] }] 9))) := Lib.hid ((Below.refl _ _).alloc (Nat.le_refl _) _)
      clear ht hz hps hx16 hz14
      go_enter Try.func14, Try.ntmps14
      go_wp2_with fail
      refine (cT.out _).mono ?_
      rintro e w1 ⟨rfl, rfl⟩
      go_wp2_with fail
      refine (cI.out _).mono ?_
      rintro e w1 ⟨rfl, rfl⟩
      go_wp2_with fail
      obtain ⟨w1, hw1⟩ : ∃ w1, w.alloc (.cells #[.string { data := #[] }] 9) = w1 := ⟨_, rfl⟩
      rw [hw1] at HW0 HB0 ⊢
      clear hw1
      refine (cP.out _).mono ?_
      rintro e w2 ⟨pa, pn, pc, rfl, hWp, hb2⟩
      have HP2 := Lib.hid hWp
      have HW2 := Lib.hid (own_stay HW0.out hb2)
      have HB2 := Lib.hid (HB0.out.trans (hb2.mono HB0.out.size))
      clear hWp hb2 HW0 HB0
      go_wp2_with fail
      go_loopg [6] 20 (fun kk q wr => ∃ (n g c m : Nat), kk = 20 - n ∧ q = .slice (some ⟨g, 0, none⟩) m c ∧ Hid ((lev L n).length = m) ∧ Hid (wr.ownsRow w.heap.size 9 1 (.slice (some ⟨g, 0, none⟩) m c) m (txs (lev L n))) ∧ Hid (Below' L (tx s) (n + 1)) ∧ Hid (Wds w2.heap.size wr pa pn pc ps) ∧ w2.heap.size ≤ wr.heap.size ∧ Hid (Below w.heap.size w wr))
      case atStart => exact ⟨0, w.heap.size, 1, 1, rfl, rfl, Lib.hid rfl, HW2, Lib.hid (fun m hm => by
        have : m = 0 := by omega
        subst this
        exact AllIn.one (contains_nil _)), HP2, Nat.le_refl _, HB2⟩
      case round =>
        clear HW2 HP2 HB2
        obtain ⟨n, g, c, m, rfl, rfl, HM, HW, HBl, HP, hzr, HB⟩ := hrel
        have hn := below_le hL0 HBl.out HX.out
        have hm1028 : m ≤ 1028 := by rw [← HM.out]; exact lev_room hL4 (fun k hk => HBl.out k (by omega)) HX.out
        have hgo : g < wr.heap.size := own_lt HW.out
        have h0o := HB.out.size
        rename World => wo
        have HN3 : Hid ((wo.alloc (.cells #[] 9)).ownsRow w.heap.size 9 1 (.slice (some ⟨wo.heap.size, 0, none⟩) 0 0) 0 (txs (nx L n 0 0))) := Lib.hid (by
          have := World.ownsRow_lit (base := w.heap.size) (e := 9) (size := 1) wo #[] 0 h0o (by unfold maxLen; omega) rfl
          rw [nx_zero, List.take_zero]
          exact this)
        have HW3 := Lib.hid (HW.out.alloc (.cells #[] 9))
        have HB3 : Hid (Below w.heap.size w (wo.alloc (.cells #[] 9))) := Lib.hid (HB.out.alloc h0o _)
        have HP3 : Hid (Wds w2.heap.size (wo.alloc (.cells #[] 9)) pa pn pc ps) := Lib.hid (HP.out.keep ((Below.refl _ _).alloc hzr _))
        have hz3 : wo.heap.size < (wo.alloc (.cells #[] 9)).heap.size := by simp
        go_wp2
        obtain ⟨w3, hw3⟩ : ∃ w3, wo.alloc (.cells #[] 9) = w3 := ⟨_, rfl⟩
        rw [hw3] at HN3 HW3 HB3 HP3 hz3 ⊢
        clear hw3 HW HB HP
        go_loopw [8, 9] (fun o p wr => ∃ (i h d k : Nat), i ≤ m ∧ p = .int .i64 i ∧ o = .slice (some ⟨h, 0, none⟩) k d ∧ wo.heap.size ≤ h ∧ Hid ((nx L n i 0).length = k) ∧ Hid (wr.ownsRow w.heap.size 9 1 (.slice (some ⟨h, 0, none⟩) k d) k (txs (nx L n i 0))) ∧ Hid (AllIn (tx s) (nx L n i 0)) ∧ Hid (wr.ownsRow w.heap.size 9 1 (.slice (some ⟨g, 0, none⟩) m c) m (txs (lev L n))) ∧ Hid (Wds w2.heap.size wr pa pn pc ps) ∧ wo.heap.size < wr.heap.size ∧ Hid (Below w.heap.size w wr)) (fun _ p _ => m - (intOf p).toNat)
        case atStart => exact ⟨0, wo.heap.size, 0, 0, Nat.zero_le _, rfl, rfl, Nat.le_refl _, Lib.hid (by rw [nx_zero, List.take_zero]; rfl), HN3, Lib.hid (by rw [nx_zero, List.take_zero]; exact AllIn.nil _), HW3, HP3, hz3, HB3⟩
        case round =>
          clear HN3 HW3 HB3 HP3 hz3
          obtain ⟨i, h, d, k, hi, rfl, rfl, hh, HK, HN, HA, HW, HP, hz, HB⟩ := hrel
          by_cases hlt : i < m
          · obtain ⟨u, hu⟩ : ∃ u, (lev L n)[i]? = some u := ⟨_, List.getElem?_eq_getElem (by rw [HM.out]; exact hlt)⟩
            have hul := lev_mem_len L n u (List.mem_of_getElem? hu)
            have HU := Lib.hid hu
            obtain ⟨y, hy⟩ : ∃ y, bx u = y := ⟨_, rfl⟩
            have HY : Hid (tx y = u) := Lib.hid (by rw [← hy, tx_bx])
            have hys : y.size ≤ 17 := by rw [← tx_len, HY.out]; omega
            have hi0 : (0 : Int) ≤ (i : Int) := by omega
            have hi1 : (i : Int) < (m : Int) := by omega
            clear hu hy
            rename World => wm
            go_wp2
            go_loopw [8, 10] (fun o p wr => ∃ (k h d q : Nat), k ≤ L ∧ p = .int .i64 k ∧ o = .slice (some ⟨h, 0, none⟩) q d ∧ wo.heap.size ≤ h ∧ Hid ((nx L n i k).length = q) ∧ Hid (wr.ownsRow w.heap.size 9 1 (.slice (some ⟨h, 0, none⟩) q d) q (txs (nx L n i k))) ∧ Hid (AllIn (tx s) (nx L n i k)) ∧ Hid (wr.ownsRow w.heap.size 9 1 (.slice (some ⟨g, 0, none⟩) m c) m (txs (lev L n))) ∧ Hid (Wds w2.heap.size wr pa pn pc ps) ∧ wo.heap.size < wr.heap.size ∧ Hid (Below w.heap.size w wr)) (fun _ p _ => L - (intOf p).toNat)
            case atStart => exact ⟨0, h, d, k, Nat.zero_le _, rfl, rfl, hh, HK, HN, HA, HW, HP, hz, HB⟩
            case round =>
              clear HK HN HA HW HP hz HB hh
              obtain ⟨k, h, d, q, hk, rfl, rfl, hh, HK, HN, HA, HW, HP, hz, HB⟩ := hrel
              by_cases hkl : k < L
              · have hc := (HW.out.cellAt i (by omega)).trans (txs_at HU.out)
                rw [← HY.out, bx_tx] at hc
                have hab := abcd_at (k := k) (by omega)
                obtain ⟨l, hl⟩ : ∃ l, (ByteArray.mk #[97, 98, 99, 100]).extract k (k + 1) = l := ⟨_, rfl⟩
                have HL1 : Hid (tx (y ++ l) = u ++ [UInt8.ofNat (97 + k)]) := Lib.hid (by
                  rw [← hl, hab]
                  have e : y = bx u := by rw [← HY.out, bx_tx]
                  rw [e, bx_app, tx_bx])
                have hls : l.size = 1 := by rw [← hl, hab]; rfl
                have hcat3 : ∀ W, (Op.stringOp .add y l).run Try.prog W = .ok (.string (y ++ l)) W := fun W => run_string_add_sum W y l (by omega)
                have hk0 : (0 : Int) ≤ (k : Int) := by omega
                have hk1 : (k : Int) ≤ (k : Int) + 1 := by omega
                have hk2 : (k : Int) + 1 ≤ 4 := by omega
                have hk3 : ((k : Int) + 1).toNat = k + 1 := by omega
                have hk4 : (0 : Int) ≤ (k : Int) + 1 := by omega
                have hw1 : IntKind.i64.wrap ((k : Int) + 1) = (k : Int) + 1 := IntWalk.i64_in _ (by omega)
                obtain ⟨v, hv⟩ : ∃ v, y ++ l = v := ⟨_, rfl⟩
                have hvs : v.size ≤ 18 := by rw [← hv, ByteArray.size_append]; omega
                rw [hv] at HL1
                simp only [hv] at hcat3
                have cH := Lib.hid (fun (W : World) hB hW => l2Has_any w2.heap.size pa pn pc ps v W hB hW (by omega))
                have hdc : decide (tx v ∈ ps) = Lib.contains (tx s) (tx v) := by rw [← HPs.out]; exact has_is (by rw [HL1.out]; simp)
                rw [hdc] at cH
                obtain ⟨b, hb⟩ : ∃ b, Lib.contains (tx s) (tx v) = b := ⟨_, rfl⟩
                have HPb := Lib.hid hb
                rw [hb] at cH
                have HSt := Lib.hid (nx_step (k := k) HU.out hkl)
                have hql : q ≤ 5000 := by
                  have h1 := nx_len (L := L) (n := n) (i := i) (k := k)
                  rw [HK.out, HM.out] at h1
                  have : m * L ≤ 1028 * 4 := Nat.mul_le_mul hm1028 hL4
                  omega
                clear hab hb hdc hv
                go_wp2
                go_quiet (fail)
                clear hw1 hk3
                have HN4 := Lib.hid (own_stay HN.out (below_drewN (Below.refl _ wr) nq))
                have HW4 := Lib.hid (own_stay HW.out (below_drewN (Below.refl _ wr) nq))
                have HP4 : Hid (Wds w2.heap.size (wr.drewN nq) pa pn pc ps) := Lib.hid (HP.out.keep (below_drewN (Below.refl _ _) nq))
                have HB4 := Lib.hid (below_drewN HB.out nq)
                have hz4 : wo.heap.size < (wr.drewN nq).heap.size := by simpa using hz
                obtain ⟨w4, hw4⟩ : ∃ w4, wr.drewN nq = w4 := ⟨_, rfl⟩
                rw [hw4] at HN4 HW4 HP4 HB4 hz4 ⊢
                clear hw4 hc HN HW HP HB
                go_wp2_with fail
                refine (cH.out _ (by omega) HP4.out).mono ?_
                rintro e w5 ⟨rfl, rfl⟩
                cases b
                · have HF : Hid (v = bx (faR L (tx s))) := Lib.hid (by
                    obtain ⟨B, hB⟩ := nx_pre HU.out hkl
                    rw [← HL1.out] at hB
                    rw [faR_eq (fa_split HBl.out hB HA.out HPb.out), bx_tx])
                  go_wp2
                  try rw [Exit.noGoto_ret]
                  go_ret2
                  exact ⟨by rw [HF.out]; rfl, HB4.out⟩
                · have HA2 : Hid (AllIn (tx s) (nx L n i (k + 1))) := Lib.hid (by
                    rw [HSt.out]
                    exact HA.out.app (AllIn.one (by rw [← HL1.out]; exact HPb.out)))
                  go_wp2_with (at_builtin; refine wpList_append_own_at _ rfl _ _ 29 rfl w.heap.size 9 i0 (.string ByteArray.empty) 1 16 Try.underlying29 hii hz0 hz1' hz2 rfl (by decide) _ _ _ rfl (HN4.out.alloc _) ⟨w4.heap.size, 0, none⟩ 1 1 [.string v] rfl rfl (cell_one_new _ _ _) (by simp [Value.oneCell']) (by unfold maxLen; omega) (by omega) (by simp; omega) ?_; intro v3 w6 hO3 hG3 _ hat; obtain ⟨h', d', rfl⟩ := own_succ hO3; have HO6 := Lib.hid hO3; have HG6 : Hid ((w4.alloc (.cells #[.string v] 9)).grownBy w6 (some h)) := Lib.hid hG3; have HAt : Hid ((some h' : Option Nat) = some h ∨ some h' = some (w4.alloc (.cells #[.string v] 9)).heap.size) := Lib.hid hat; clear hO3 hG3 hat)
                  have hhag : wo.heap.size ≤ h' := by
                    rcases HAt.out with e | e
                    · injection e with e; omega
                    · injection e with e; rw [World.size_alloc] at e; omega
                  have hz6 := HG6.out.size
                  rw [World.size_alloc] at hz6
                  have HB6 : Hid (Below w.heap.size w w6) := Lib.hid ((HB4.out.alloc (by omega) _).trans (below_grown (HN4.out.alloc _) (by omega) (by simp; omega) HG6.out))
                  have HW6 := Lib.hid ((HW4.out.alloc (.cells #[.string v] 9)).kept HG6.out (.inr (by simp only [Value.ownBlock]; intro e; injection e with e; omega)))
                  have HP6 : Hid (Wds w2.heap.size w6 pa pn pc ps) := Lib.hid (HP4.out.keep (((Below.refl w2.heap.size w4).alloc (by omega) _).grown HG6.out (by simp; omega) (fun j e => by injection e with e; omega)))
                  have hz6' : wo.heap.size < w6.heap.size := by omega
                  clear hz6
                  go_roundw
                  case rel => exact ⟨k + 1, h', d', q + 1, by omega, by go_num, rfl, hhag, Lib.hid (by rw [HSt.out, List.length_append, HK.out]; rfl), Lib.hid (by rw [HSt.out, txs_app, ← HL1.out]; have := HO6.out; simpa [txs, bx_tx] using this), HA2, HW6, HP6, hz6', HB6⟩
                  case measure => simp [intOf]; omega
              · have hkL : k = L := by omega
                subst hkL
                have HFl := Lib.hid (nx_full HU.out)
                go_wp2
                go_roundw
                case rel => exact ⟨i + 1, h, d, q, by omega, by go_num, rfl, hh, Lib.hid (by rw [← HFl.out]; exact HK.out), Lib.hid (by rw [← HFl.out]; exact HN.out), Lib.hid (by rw [← HFl.out]; exact HA.out), HW, HP, hz, HB⟩
                case measure => simp [intOf]; omega
          · have him : i = m := by omega
            have HAl : Hid (nx L n i 0 = lev L (n + 1)) := Lib.hid (by rw [him, ← HM.out, nx_all])
            clear him
            go_wp2
            go_roundg (20 - (n + 1))
            case measure => omega
            case rel => exact ⟨n + 1, h, d, k, rfl, rfl, Lib.hid (by rw [← HAl.out]; exact HK.out), Lib.hid (by rw [← HAl.out]; exact HN.out), Lib.hid (fun j hj => by
              by_cases e : j = n + 1
              · subst e
                have := HA.out
                rwa [HAl.out] at this
              · exact HBl.out j (by omega)), HP, by omega, HB⟩
    · simp only [show (decide (1 ≤ z) && decide (z ≤ 4)) = false from by rw [← Bool.decide_and]; exact decide_eq_false hz14, Bool.true_and, Bool.false_eq_true, if_false]
      rw [decide_eq_false hz14] at cI
      clear ht
      go_enter Try.func14, Try.ntmps14
      go_wp2_with fail
      refine (cT.out _).mono ?_
      rintro e w1 ⟨rfl, rfl⟩
      go_wp2_with fail
      refine (cI.out _).mono ?_
      rintro e w1 ⟨rfl, rfl⟩
      go_wp2
      go_ret2
      exact ⟨rfl, Below.refl _ _⟩

theorem agreeShortestAbsent (s : ByteArray) (z : Int) (hs : s.size ≤ 1048576) (hz : -9223372036854775808 ≤ z ∧ z ≤ 9223372036854775807) : ∃ (v : ByteArray) (ok : Bool),
    (∀ W : World, Calls Try.prog 14 #[.string s, .int .i64 z] W fun e w' => e = .returned (.tuple #[.string v, .bool ok]) ∧ Below W.heap.size W w') ∧
    (∀ (W : World) (mx : Int), W.cell? ⟨0, 0, none⟩ = some (.int .i64 mx) → Calls Try.prog 15 #[.string s, .int .i64 z] W fun e w' => e = .returned (.tuple #[.string v, .bool ok]) ∧ Below W.heap.size W w') :=
  ⟨_, _, specAbsent_any s z hs hz, fun W mx h => implAbsent_any s z hs hz mx W h⟩

end Go.Proofs.Ytifkggapdaflmab
