/-
  The reference's distance of two words.
-/
import Derived.Test.YtipkdoplgjgkpacDist
import Derived.Test.YtipkdoplgjgkpacStepA
import Derived.Deep.RegionHeld3
import Derived.Deep.RegionLaw
namespace Go.Proofs.Ytipkdoplgjgkpac
open Go.RowKit
set_option linter.unusedVariables false

theorem least_ways {x y z r : Nat} (h : r = min x (1 + min y z)) : ∃ u : Nat, (u : Int) = (if (y : Int) < (z : Int) then (y : Int) else (z : Int)) ∧ (r : Int) = (if (x : Int) < (1 + (u : Int)) then (x : Int) else (1 + (u : Int))) ∧ u ≤ y := by
  refine ⟨min y z, ?_, ?_, by omega⟩
  · split <;> omega
  · split <;> omega

set_option maxRecDepth 1000000 in
set_option maxHeartbeats 2000000 in
theorem l6Distance_any (a b : ByteArray) (w : World) (ha : a.size ≤ 12) (hb : b.size ≤ 12) :
    Calls Try.prog 47 #[.string a, .string b] w fun e w' => e = .returned (.int .i64 (lev a.data.toList b.data.toList a.size b.size : Nat)) ∧ Below w.heap.size w w' := by
  obtain ⟨i0, hii, hz0, hz1, hz2⟩ := info_parts infoI
  obtain ⟨nn, hnn⟩ : ∃ nn, b.size + 1 = nn := ⟨_, rfl⟩
  have HNN := Lib.hid hnn
  obtain ⟨L, hL⟩ : ∃ L, lev a.data.toList b.data.toList = L := ⟨_, rfl⟩
  have HLo : Hid ((L 0) = (fun k => k)) := Lib.hid (by rw [← hL]; rfl)
  have HLle : Hid (∀ i k, L i k ≤ i + k) := Lib.hid (by rw [← hL]; exact lev_le _ _)
  have HLz : Hid (∀ k, L k 0 = k) := Lib.hid (by rw [← hL]; exact lev_z _ _)
  have HLs : Hid (∀ i k (h1 : i < a.size) (h2 : k < b.size), L (i + 1) (k + 1) = min (L i k + (if (a[i]'h1).toNat = (b[k]'h2).toNat then 0 else 1)) (1 + min (L i (k + 1)) (L (i + 1) k))) := Lib.hid (fun i k h1 h2 => by
    rw [← hL, lev_ss]
    by_cases e : a[i].toNat = b[k].toNat
    · rw [if_pos e, mism_eq h1 h2 e]
    · rw [if_neg e, mism_ne h1 h2 e])
  rw [hL]
  obtain ⟨v, hv⟩ : ∃ v, L a.size b.size = v := ⟨_, rfl⟩
  have HV := Lib.hid hv
  rw [hv]
  clear hnn hL hv
  have hown0 := World.ownsRow_lit (base := w.heap.size) (e := 3) (size := 1) w #[] 0 (Nat.le_refl _) (by unfold maxLen; omega) rfl
  have HO0 := Lib.hid hown0
  clear hown0
  go_enter Try.func47, Try.ntmps47
  go_wp2
  go_loopw [5, 6] (fun r i wr => ∃ (k : Nat) (v : Value), k ≤ nn ∧ i = .int .i64 k ∧ r = v ∧ Hid (wr.ownsRow w.heap.size 3 1 v k (irow (fun k => k) k)) ∧ Hid (Below w.heap.size w wr)) (fun _ i _ => nn - (intOf i).toNat)
  case atStart => exact ⟨0, _, Nat.zero_le _, rfl, rfl, HO0, Lib.hid ((Below.refl _ _).alloc (Nat.le_refl _) _)⟩
  case round =>
    clear HO0
    obtain ⟨k, u, hk, rfl, rfl, HO, HBw⟩ := hrel
    by_cases hlt : k < nn
    · have hle : k ≤ b.size := by have := HNN.out; omega
      go_wp2_with (first
        | (at_builtin; refine wpList_append_own_at _ rfl _ _ 78 rfl w.heap.size 3 i0 (.int .i64 0) 1 8 Try.underlying78 hii hz0 hz1 hz2 rfl (by decide) _ _ _ rfl (HO.out.alloc _) ⟨wr.heap.size, 0, none⟩ 1 1 [.int .i64 (k : Int)] rfl rfl (cell_one_new _ _ _) (by simp [Value.oneCell']) (by unfold maxLen; omega) (by omega) (by have := HBw.out.size; simp; omega) ?_; intro v3 w3 hO3 hG3 _ hat; have HO3 := Lib.hid hO3; have HG3 := Lib.hid hG3; clear hO3 hG3 hat))
      have HB3 : Hid (Below w.heap.size w w3) := Lib.hid ((HBw.out.alloc HBw.out.size _).trans (below_grown (HO.out.alloc _) (Nat.le_refl _) (by have := HBw.out.size; simp; omega) HG3.out))
      go_roundw
      case rel => exact ⟨k + 1, v3, by omega, by go_num, rfl, Lib.hid (by have := HO3.out; unfold irow; rw [← row_app]; exact this), HB3⟩
      case measure => simp [intOf]; omega
    · have e : k = nn := by omega
      subst e
      have hle : ¬ k ≤ b.size := by have := HNN.out; omega
      obtain ⟨a1, c1, rfl⟩ := own_slice HO.out
      have HS1 : Hid (Sl wr.heap.size wr a1 k c1 (irow (L 0) k)) := Lib.hid (by rw [HLo.out]; exact Sl.of_own HO.out)
      clear HO
      go_wp2
      go_loopw [5, 7] (fun r i wr => ∃ (q1 : Nat) (a2 : Option Addr) (c2 : Nat), 1 ≤ q1 ∧ q1 ≤ a.size + 1 ∧ i = .int .i64 (q1 : Int) ∧ r = .slice a2 k c2 ∧ Hid (Sl wr.heap.size wr a2 k c2 (irow (L (q1 - 1)) k)) ∧ Hid (Below w.heap.size w wr)) (fun _ i _ => a.size + 2 - (intOf i).toNat)
      case atStart => exact ⟨1, a1, c1, Nat.le_refl _, by omega, rfl, rfl, HS1, HBw⟩
      case round =>
        clear HS1 HBw
        obtain ⟨q1, a2, c2, hq1', hq, rfl, rfl, HS, HBw⟩ := hrel
        obtain ⟨q, hqq⟩ : ∃ q, q + 1 = q1 := ⟨q1 - 1, by omega⟩
        have HQ := Lib.hid hqq
        have hqs : q1 - 1 = q := by omega
        rw [hqs] at HS
        clear hqs hqq hq1'
        have CC := HS.out.cap
        have TT := HS.out.top
        by_cases hqa : q < a.size
        · have hq1 : q1 ≤ a.size := by have := HQ.out; omega
          have hl1 := World.ownsRow_lit (base := wr.heap.size) (e := 3) (size := 1) wr #[.int .i64 (q1 : Int)] 1 (Nat.le_refl _) (by unfold maxLen; omega) rfl
          have HN0 : Hid ((wr.alloc (.cells #[.int .i64 (q1 : Int)] 3)).ownsRow wr.heap.size 3 1 (.slice (some ⟨wr.heap.size, 0, none⟩) 1 1) 1 (irow (L q1) 1)) := Lib.hid (by
            have e9 : irow (L q1) 1 = [Value.int .i64 (q1 : Int)] := by simp [irow, iv, HLz.out]
            rw [e9]; exact hl1)
          clear hl1
          obtain ⟨wo, hwo⟩ : ∃ wo : World, wo = wr := ⟨_, rfl⟩
          have HWo := Lib.hid hwo
          clear hwo
          have hqi : IntKind.i64.wrap ((q1 : Int) - 1) = (q : Int) := by rw [i64_of _ (by omega)]; have := HQ.out; omega
          have hqj : (q1 : Int) - 1 = (q : Int) := by have := HQ.out; omega
          go_wp2
          go_loopw [8, 9, 10] (fun r i sm wn => ∃ (j1 : Nat) (u : Value), 1 ≤ j1 ∧ j1 ≤ k ∧ i = .int .i64 (j1 : Int) ∧ r = u ∧ (∃ v : Value, sm = v) ∧ Hid (wn.ownsRow wo.heap.size 3 1 u j1 (irow (L q1) j1)) ∧ Hid (Below wo.heap.size wo wn)) (fun _ i _ _ => k + 1 - (intOf i).toNat)
          case atStart => exact ⟨1, _, Nat.le_refl _, by have := HNN.out; omega, rfl, rfl, ⟨_, rfl⟩, Lib.hid (by rw [HWo.out]; exact HN0.out), Lib.hid (by rw [HWo.out]; exact (Below.refl _ _).alloc (Nat.le_refl _) _)⟩
          case round =>
            clear HN0
            obtain ⟨j1, u, hj10, hjk0, rfl, rfl, ⟨vs, rfl⟩, HN, HBn⟩ := hrel
            obtain ⟨j, rfl⟩ : ∃ j, j1 = j + 1 := ⟨j1 - 1, by omega⟩
            clear hj10
            by_cases hjk : j + 1 < k
            · have hjb : j < b.size := by have := HNN.out; omega
              obtain ⟨gn, cn, rfl⟩ := own_succ HN.out
              have CN := (Sl.of_own HN.out).cap
              have TN := (Sl.of_own HN.out).top
              have hS := HS.out
              rw [← HWo.out] at hS
              have hS2 := hS.keep HBn.out
              obtain ⟨b2, o2, e2, _, hcA0⟩ := hS2.spot j _ (irow_at (L q) (show j < k by omega))
              obtain ⟨b3, o3, e3, _, hcB0⟩ := hS2.spot (j + 1) _ (irow_at (L q) hjk)
              subst e2
              injection e3 with e3; injection e3 with e3 e3'; subst e3; subst e3'
              have hcC0 := (HN.out.cellAt j (by omega)).trans (irow_at (L q1) (show j < j + 1 by omega))
              clear hS hS2
              have HR0 := HLs.out q j hqa hjb
              rw [HQ.out] at HR0
              have HR := Lib.hid HR0
              clear HR0
              have hx1 := HLle.out q j
              have hy1 := HLle.out q (j + 1)
              have hz1' := HLle.out q1 j
              have hg1 := HLle.out q1 (j + 1)
              obtain ⟨gk, hgk⟩ : ∃ gk, L q1 (j + 1) = gk := ⟨_, rfl⟩
              have HGk : Hid (iv (L q1) (j + 1) = .int .i64 (gk : Int)) := Lib.hid (by unfold iv; rw [hgk])
              obtain ⟨x0, hx0⟩ : ∃ x0, L q j = x0 := ⟨_, rfl⟩
              obtain ⟨y0, hy0⟩ : ∃ y0, L q (j + 1) = y0 := ⟨_, rfl⟩
              obtain ⟨z0, hz0'⟩ : ∃ z0, L q1 j = z0 := ⟨_, rfl⟩
              rw [hgk] at HR hg1
              rw [hx0] at HR hx1 hcA0
              rw [hy0] at HR hy1 hcB0
              rw [hz0'] at HR hz1' hcC0
              clear hgk hx0 hy0 hz0'
              have hj1 : IntKind.i64.wrap (((j + 1 : Nat) : Int) - 1) = (j : Int) := by rw [i64_of _ (by have := HNN.out; omega)]; omega
              have hj2 : IntKind.i64.wrap ((j : Int) + 1 - 1) = (j : Int) := by rw [i64_of _ (by have := HNN.out; omega)]; omega
              have hj3 : ((j : Int) + 1).toNat = j + 1 := by omega
              have hj4 : (0 : Int) ≤ (j : Int) + 1 := by omega
              have hj5 : (j : Int) + 1 < (k : Int) := by omega
              have hj6 : (0 : Int) ≤ (j : Int) := by omega
              have hj7 : (j : Int) < (k : Int) := by omega
              have hj8 : (j : Int) < (j : Int) + 1 := by omega
              have hj9 : IntKind.i64.wrap (j : Int) = (j : Int) := i64_of _ (by omega)
              have hle : j + 1 ≤ b.size := by omega
              by_cases he : a[q].toNat = b[j].toNat
              · rw [if_pos he, Nat.add_zero] at HR
                have hne := ne_no he
                clear he
                have HRs := HR.out
                obtain ⟨uu, hu1, hu2, hu3⟩ := least_ways HRs
                have cL1 := Lib.hid (fun W' => l1Least_is (y0 : Int) (z0 : Int) (uu : Int) hu1 W')
                have cL2 := Lib.hid (fun W' => l1Least_is (x0 : Int) (1 + (uu : Int)) (gk : Int) hu2 W')
                have hw1 : IntKind.i64.wrap (1 + (uu : Int)) = 1 + (uu : Int) := i64_of _ (by omega)
                clear hu1 hu2 HRs
                go_wp2
                go_quiet (fail)
                obtain ⟨wz, hwz⟩ : ∃ wz, wr.drewN nq = wz := ⟨_, rfl⟩
                have HNz : Hid (wz.ownsRow wo.heap.size 3 1 (.slice (some ⟨gn, 0, none⟩) (j + 1) cn) (j + 1) (irow (L q1) (j + 1))) := Lib.hid (by rw [← hwz]; exact own_keep HN.out (below_drewN (Below.refl _ _) _))
                have HBz : Hid (Below wo.heap.size wo wz) := Lib.hid (by rw [← hwz]; exact below_drewN HBn.out _)
                have hcA : wz.cell? ⟨b2, o2 + j, none⟩ = some (.int .i64 (x0 : Int)) := by rw [← hwz]; exact hcA0
                have hcB : wz.cell? ⟨b2, o2 + (j + 1), none⟩ = some (.int .i64 (y0 : Int)) := by rw [← hwz]; exact hcB0
                have hcC : wz.cell? ⟨gn, j, none⟩ = some (.int .i64 (z0 : Int)) := by rw [← hwz]; exact hcC0
                rw [hwz]
                clear hwz hcA0 hcB0 hcC0
                go_wp2
                go_region_law
                  (first
                    | (refine step_append_row (by rfl) _ _ 78 (by rfl) wo.heap.size 3 i0 (.int .i64 0) 1 8 Try.underlying78 hii hz0 hz1 hz2 (by rfl) (by decide) (.slice (some ⟨gn, 0, none⟩) (j + 1) cn) (j + 1) (irow (L q1) (j + 1)) (by rfl) (by first | with_reducible exact HNz.out.alloc _ | with_reducible exact HNz.out.drew.alloc _ | with_reducible exact (HNz.out.alloc _).drew) ⟨_, 0, none⟩ 1 1 [.int .i64 (gk : Int)] (by rfl) (by rfl) (by exact cell_one_new _ _ _) (by simp [Value.oneCell']) (by unfold maxLen; omega) (by omega) (by have := HBz.out.size; simp; omega) ?_; intro v3 w3 hO3 hG3 hat; have hB3 : Below wo.heap.size wo w3 := (by first | exact (HBz.out.alloc HBz.out.size _).trans (below_grown (HNz.out.alloc _) (Nat.le_refl _) (by have := HBz.out.size; simp; omega) hG3) | exact ((HBz.out.trans (Below.refl _ _).drew).alloc HBz.out.size _).trans (below_grown (HNz.out.drew.alloc _) (Nat.le_refl _) (by have := HBz.out.size; simp; omega) hG3)))
                    | (go_simp; go_at_call 83; (first | with_reducible refine (cL1.out _).mono ?_ | with_reducible refine (cL2.out _).mono ?_); rintro e9 w9 ⟨rfl, rfl⟩))
                all_goals
                  have HO3 := Lib.hid hO3
                  have HB3 := Lib.hid hB3
                  clear hO3 hG3 hat hB3
                  go_wp2
                  go_roundw
                  case rel => exact ⟨j + 1 + 1, _, by omega, hjk, by go_num, rfl, ⟨_, rfl⟩, Lib.hid (by have := HO3.out; rw [← HGk.out] at this; unfold irow; rw [← row_app]; exact this), HB3⟩
                  case measure => simp [intOf]; omega
              · rw [if_neg he] at HR
                have hne := ne_yes he
                clear he
                obtain ⟨X, hX⟩ : ∃ X, x0 + 1 = X := ⟨_, rfl⟩
                rw [hX] at HR
                have hXb : X ≤ 101 := by omega
                have hwX : IntKind.i64.wrap ((x0 : Int) + 1) = (X : Int) := by rw [i64_of _ (by omega)]; omega
                have hwX2 : (x0 : Int) + 1 = (X : Int) := by omega
                clear hX
                have HRs := HR.out
                obtain ⟨uu, hu1, hu2, hu3⟩ := least_ways HRs
                have cL1 := Lib.hid (fun W' => l1Least_is (y0 : Int) (z0 : Int) (uu : Int) hu1 W')
                have cL2 := Lib.hid (fun W' => l1Least_is (X : Int) (1 + (uu : Int)) (gk : Int) hu2 W')
                have hw1 : IntKind.i64.wrap (1 + (uu : Int)) = 1 + (uu : Int) := i64_of _ (by omega)
                clear hu1 hu2 HRs
                go_wp2
                go_quiet (fail)
                obtain ⟨wz, hwz⟩ : ∃ wz, wr.drewN nq = wz := ⟨_, rfl⟩
                have HNz : Hid (wz.ownsRow wo.heap.size 3 1 (.slice (some ⟨gn, 0, none⟩) (j + 1) cn) (j + 1) (irow (L q1) (j + 1))) := Lib.hid (by rw [← hwz]; exact own_keep HN.out (below_drewN (Below.refl _ _) _))
                have HBz : Hid (Below wo.heap.size wo wz) := Lib.hid (by rw [← hwz]; exact below_drewN HBn.out _)
                have hcA : wz.cell? ⟨b2, o2 + j, none⟩ = some (.int .i64 (x0 : Int)) := by rw [← hwz]; exact hcA0
                have hcB : wz.cell? ⟨b2, o2 + (j + 1), none⟩ = some (.int .i64 (y0 : Int)) := by rw [← hwz]; exact hcB0
                have hcC : wz.cell? ⟨gn, j, none⟩ = some (.int .i64 (z0 : Int)) := by rw [← hwz]; exact hcC0
                rw [hwz]
                clear hwz hcA0 hcB0 hcC0
                go_wp2
                go_region_law
                  (first
                    | (refine step_append_row (by rfl) _ _ 78 (by rfl) wo.heap.size 3 i0 (.int .i64 0) 1 8 Try.underlying78 hii hz0 hz1 hz2 (by rfl) (by decide) (.slice (some ⟨gn, 0, none⟩) (j + 1) cn) (j + 1) (irow (L q1) (j + 1)) (by rfl) (by first | with_reducible exact HNz.out.alloc _ | with_reducible exact HNz.out.drew.alloc _ | with_reducible exact (HNz.out.alloc _).drew) ⟨_, 0, none⟩ 1 1 [.int .i64 (gk : Int)] (by rfl) (by rfl) (by exact cell_one_new _ _ _) (by simp [Value.oneCell']) (by unfold maxLen; omega) (by omega) (by have := HBz.out.size; simp; omega) ?_; intro v3 w3 hO3 hG3 hat; have hB3 : Below wo.heap.size wo w3 := (by first | exact (HBz.out.alloc HBz.out.size _).trans (below_grown (HNz.out.alloc _) (Nat.le_refl _) (by have := HBz.out.size; simp; omega) hG3) | exact ((HBz.out.trans (Below.refl _ _).drew).alloc HBz.out.size _).trans (below_grown (HNz.out.drew.alloc _) (Nat.le_refl _) (by have := HBz.out.size; simp; omega) hG3)))
                    | (go_simp; go_at_call 83; (first | with_reducible refine (cL1.out _).mono ?_ | with_reducible refine (cL2.out _).mono ?_); rintro e9 w9 ⟨rfl, rfl⟩))
                all_goals
                  have HO3 := Lib.hid hO3
                  have HB3 := Lib.hid hB3
                  clear hO3 hG3 hat hB3
                  go_wp2
                  go_roundw
                  case rel => exact ⟨j + 1 + 1, _, by omega, hjk, by go_num, rfl, ⟨_, rfl⟩, Lib.hid (by have := HO3.out; rw [← HGk.out] at this; unfold irow; rw [← row_app]; exact this), HB3⟩
                  case measure => simp [intOf]; omega
            · have e : j + 1 = k := by omega
              have hle : ¬ j + 1 ≤ b.size := by have := HNN.out; omega
              obtain ⟨gn, cn, rfl⟩ := own_succ HN.out
              have HSn : Hid (Sl wr.heap.size wr (some ⟨gn, 0, none⟩) k cn (irow (L q1) k)) := Lib.hid (by have := Sl.of_own HN.out; rw [e] at this; exact this)
              have HBw2 : Hid (Below w.heap.size w wr) := Lib.hid (HBw.out.trans (by have := HBn.out; rw [HWo.out] at this; exact this.mono HBw.out.size))
              rw [e]
              clear e HN HBn
              go_wp2
              go_roundw
              case rel => exact ⟨q1 + 1, _, _, by omega, by omega, by go_num, rfl, Lib.hid (by rw [Nat.add_sub_cancel]; exact HSn.out), HBw2⟩
              case measure => simp [intOf]; omega
        · obtain rfl : q = a.size := by have := HQ.out; omega
          have hle : ¬ q1 ≤ a.size := by have := HQ.out; omega
          have hbk : b.size < k := by have := HNN.out; omega
          obtain ⟨b2, o2, e2, _, hcA⟩ := HS.out.spot b.size _ (irow_at (L a.size) hbk)
          subst e2
          rw [HV.out] at hcA
          have hb1 : (0 : Int) ≤ (b.size : Int) := by omega
          have hb2 : (b.size : Int) < (k : Int) := by omega
          go_wp2
          go_ret
          exact ⟨rfl, HBw.out⟩

end Go.Proofs.Ytipkdoplgjgkpac
