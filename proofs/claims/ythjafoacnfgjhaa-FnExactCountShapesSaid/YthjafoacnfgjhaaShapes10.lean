/-
  CountShapes: both functions answer the same.
-/
import Derived.Test.YthjafoacnfgjhaaFill10
import Derived.Test.YthjafoacnfgjhaaNumsB
import Derived.Maps.AppendAt
import Derived.Laws.OwnMore
import Derived.Deep.RegionWith
namespace Go.Proofs.Ythjafoacnfgjhaa
open Go.RowKit
set_option linter.unusedVariables false

/-- the numbers of shapes -/
def ctL : List Nat := [0, 1, 1, 2, 5, 14, 42, 132, 429, 1430, 4862, 16796, 58786]
def ct (k : Nat) : Nat := ctL.getD k 0
/-- the shapes of k symbols with fewer than m ahead of the first cut -/
def ctS (k m : Nat) : Nat := ((List.range m).map (fun j => ct j * ct (k - j))).sum
theorem ctS_one (k : Nat) : ctS k 1 = 0 := by simp [ctS, ct, ctL]
theorem ctS_succ (k m : Nat) : ctS k (m + 1) = ctS k m + ct m * ct (k - m) := by
  unfold ctS
  rw [List.range_succ, List.map_append, List.sum_append]
  simp
theorem ctS_all : ∀ k, k ≤ 12 → 2 ≤ k → ctS k k = ct k := by decide
theorem ctS_bd : ∀ k, k ≤ 12 → ∀ m, m ≤ k → ctS k m ≤ 58786 := by decide
theorem ct_bd : ∀ k, k ≤ 12 → ct k ≤ 58786 := by decide
theorem ctL_at : ∀ k, k ≤ 12 → ctL[k]? = some (ct k) := by decide
theorem ctL_len : ctL.length = 13 := rfl

theorem ret_iv {a b : Int} {c : Bool} (h : a = b) : Ending.returned (.tuple #[.int .i64 a, .bool c]) = .returned (.tuple #[.int .i64 b, .bool c]) := by rw [h]
noncomputable def shpB (n : Int) : Bool := decide (1 ≤ n ∧ n ≤ 12)
noncomputable def shpV (n : Int) : Int := if 2 ≤ n ∧ n ≤ 12 then (ct n.toNat : Int) else 0

set_option maxRecDepth 1000000 in
set_option maxHeartbeats 2000000 in
theorem specCountShapes_any (z : Int) (w : World) :
    Calls Try.prog 20 #[.int .i64 z] w fun e w' => e = .returned (.tuple #[.int .i64 (shpV z), .bool (shpB z)]) ∧ Below w.heap.size w w' := by
  have cI0 := l1In_any z 1 12 w
  by_cases h1 : 1 ≤ z ∧ z ≤ 12
  · obtain ⟨n, rfl⟩ : ∃ n : Nat, z = n := ⟨z.toNat, by omega⟩
    have hb : shpB (n : Int) = true := by unfold shpB; exact decide_eq_true h1
    rw [decide_eq_true h1] at cI0
    have cI := Lib.hid cI0
    rw [hb]
    have hn1 : 1 ≤ n := by omega
    have hn2 : n ≤ 12 := by omega
    have HV : Hid (shpV (n : Int) = if n = 1 then 0 else (ct n : Int)) := Lib.hid (by
      unfold shpV
      by_cases e : n = 1
      · rw [if_pos e, if_neg (by omega)]
      · rw [if_neg e, if_pos (by omega)]; rfl)
    clear cI0 hb h1
    obtain ⟨i0, hii, hz0, hz1, hz2⟩ := info_parts infoI
    have HO0 : Hid ((w.alloc (.cells #[.int .i64 0, .int .i64 1] 3)).ownsRow w.heap.size 3 1 (.slice (some ⟨w.heap.size, 0, none⟩) 2 2) 2 (nums (ctL.take 2))) := Lib.hid (World.ownsRow_lit w #[.int .i64 0, .int .i64 1] 2 (Nat.le_refl _) (by unfold maxLen; omega) rfl)
    have HB0 : Hid (Below w.heap.size w (w.alloc (.cells #[.int .i64 0, .int .i64 1] 3))) := Lib.hid ((Below.refl _ _).alloc (Nat.le_refl _) _)
    go_enter Try.func20, Try.ntmps20
    go_wp2_with (go_at_call 34; refine cI.out.mono ?_; rintro e w' ⟨rfl, rfl⟩)
    go_loopw [4, 5] (fun o i wr => ∃ (k g d : Nat), 2 ≤ k ∧ k ≤ 13 ∧ k ≤ max 2 (n + 1) ∧ i = .int .i64 k ∧ o = .slice (some ⟨g, 0, none⟩) k d ∧ Hid (wr.ownsRow w.heap.size 3 1 (.slice (some ⟨g, 0, none⟩) k d) k (nums (ctL.take k))) ∧ Hid (Below w.heap.size w wr)) (fun _ i _ => 13 - (intOf i).toNat)
    case atStart => exact ⟨2, w.heap.size, 2, by omega, by omega, by omega, rfl, rfl, HO0, HB0⟩
    case round =>
      clear HO0 HB0
      obtain ⟨k, g, d, hk2, hk13, hkn, rfl, rfl, HO, HB⟩ := hrel
      have hk0 : (0 : Int) ≤ (k : Int) := by omega
      by_cases hlt : k ≤ n
      · have hle : (k : Int) ≤ (n : Int) := by omega
        have hS1 := Lib.hid (ctS_one k)
        rename World => wo
        go_wp2
        go_loopw [6, 7] (fun s i wr => ∃ (m q : Nat), 1 ≤ m ∧ m ≤ k ∧ i = .int .i64 m ∧ s = .int .i64 q ∧ q ≤ 58786 ∧ Hid (ctS k m = q) ∧ Hid (wr.ownsRow w.heap.size 3 1 (.slice (some ⟨g, 0, none⟩) k d) k (nums (ctL.take k))) ∧ Hid (Below w.heap.size w wr)) (fun _ i _ => k - (intOf i).toNat)
        case atStart => exact ⟨1, 0, by omega, by omega, rfl, rfl, by omega, hS1, HO, HB⟩
        case round =>
          clear HO HB
          obtain ⟨m, q, hm1, hmk, rfl, rfl, hq, HQ, HO, HB⟩ := hrel
          have hzr := HB.out.size
          by_cases hml : m < k
          · have hm0 : (0 : Int) ≤ (m : Int) := by omega
            have hmi : (m : Int) < (k : Int) := by omega
            have hc1 := HO.out.cellAt m (by omega)
            have hc2 := HO.out.cellAt (k - m) (by omega)
            have e1 : (nums (ctL.take k))[m]? = some (.int .i64 (ct m : Int)) := nums_at (by rw [List.getElem?_take, if_pos hml, ctL_at m (by omega)])
            have e2 : (nums (ctL.take k))[k - m]? = some (.int .i64 (ct (k - m) : Int)) := nums_at (by rw [List.getElem?_take, if_pos (by omega), ctL_at (k - m) (by omega)])
            rw [e1] at hc1
            rw [e2] at hc2
            have hN := ctS_succ k m
            rw [HQ.out] at hN
            have hNb := ctS_bd k (by omega) (m + 1) (by omega)
            rw [hN] at hNb
            have hx := ct_bd m (by omega)
            have hy := ct_bd (k - m) (by omega)
            obtain ⟨x, hxx⟩ : ∃ x, ct m = x := ⟨_, rfl⟩
            obtain ⟨y, hyy⟩ : ∃ y, ct (k - m) = y := ⟨_, rfl⟩
            obtain ⟨p, hp⟩ : ∃ p, x * y = p := ⟨_, rfl⟩
            rw [hxx, hyy, hp] at hN hNb
            rw [hxx] at hc1 hx
            rw [hyy] at hc2 hy
            have HN := Lib.hid hN
            obtain ⟨r, hr⟩ : ∃ r, k - m = r := ⟨_, rfl⟩
            have hrk : r < k := by omega
            rw [hr] at hc2
            have hsub : IntKind.i64.wrap ((k : Int) - (m : Int)) = (r : Int) := by rw [show (k : Int) - (m : Int) = (r : Int) by omega]; exact IntWalk.i64_in _ (by omega)
            have hr0 : (0 : Int) ≤ (r : Int) := by omega
            have hri : (r : Int) < (k : Int) := by omega
            have hpp : IntKind.i64.wrap ((x : Int) * (y : Int)) = (p : Int) := by rw [show (x : Int) * (y : Int) = (p : Int) by rw [← hp]; simp]; exact IntWalk.i64_in _ (by omega)
            have hqp : IntKind.i64.wrap ((q : Int) + (p : Int)) = ((q + p : Nat) : Int) := by rw [show (q : Int) + (p : Int) = ((q + p : Nat) : Int) by omega]; exact IntWalk.i64_in _ (by omega)
            clear e1 e2 hN hxx hyy hp hr
            go_wp2
            go_quiet (fail)
            go_wp2
            clear hsub hpp hqp
            go_roundw
            case rel => exact ⟨m + 1, q + p, by omega, by omega, by go_num, rfl, by omega, HN, Lib.hid (own_stay HO.out (below_drewN (Below.refl _ _) _)), Lib.hid (below_drewN HB.out _)⟩
            case measure => simp [intOf]; omega
          · have e : m = k := by omega
            have HQ2 : Hid (q = ct k) := Lib.hid (by rw [← HQ.out, e]; exact ctS_all k (by omega) hk2)
            have HN : Hid (nums (ctL.take (k + 1)) = nums (ctL.take k) ++ [.int .i64 (q : Int)]) := Lib.hid (by
              rw [take_snoc_at (ctL_at k (by omega)), nums_app, HQ2.out]; rfl)
            go_wp2_with (at_builtin; refine wpList_append_own_at _ rfl _ _ 27 rfl w.heap.size 3 i0 (.int .i64 0) 1 8 Try.underlying27 hii hz0 hz1 hz2 rfl (by decide) _ _ _ rfl (HO.out.alloc _) ⟨wr.heap.size, 0, none⟩ 1 1 [.int .i64 (q : Int)] rfl rfl (cell_one_new _ _ _) (by simp [Value.oneCell']) (by unfold maxLen; omega) (by omega) (by simp; omega) ?_; intro v3 w3 hO3 hG3 _ _; obtain ⟨g', cap', rfl⟩ := own_succ hO3; have HO3 := Lib.hid hO3; have HB3 : Hid (Below w.heap.size w w3) := Lib.hid ((HB.out.alloc (by omega) _).trans (below_grown (HO.out.alloc _) (by omega) (by simp; omega) hG3)); clear hO3 hG3)
            go_roundw
            case rel => exact ⟨k + 1, g', cap', by omega, by omega, by omega, by go_num, rfl, Lib.hid (by rw [HN.out]; exact HO3.out), HB3⟩
            case measure => simp [intOf]; omega
      · have hle : ¬ (k : Int) ≤ (n : Int) := by omega
        by_cases hone : n = 1
        · have hq : ((n : Int) == 1) = true := by rw [hone]; rfl
          have HV2 : Hid (shpV (n : Int) = 0) := Lib.hid (by rw [HV.out, if_pos hone])
          clear hone
          go_wp2
          go_ret2
          exact ⟨ret_iv HV2.out.symm, HB.out⟩
        · have hq : ((n : Int) == 1) = false := by simp; omega
          have HV2 : Hid (shpV (n : Int) = (ct n : Int)) := Lib.hid (by rw [HV.out, if_neg hone])
          have hc1 := HO.out.cellAt n (by omega)
          have e1 : (nums (ctL.take k))[n]? = some (.int .i64 (ct n : Int)) := nums_at (by rw [List.getElem?_take, if_pos (by omega), ctL_at n (by omega)])
          rw [e1] at hc1
          clear hone e1
          have hn0 : (0 : Int) ≤ (n : Int) := by omega
          have hnk : (n : Int) < (k : Int) := by omega
          go_wp2
          go_ret2
          exact ⟨ret_iv HV2.out.symm, HB.out⟩
  · have hb : shpB z = false := by unfold shpB; exact decide_eq_false h1
    have hv : shpV z = 0 := by unfold shpV; rw [if_neg (by omega)]
    rw [decide_eq_false h1] at cI0
    have cI := Lib.hid cI0
    rw [hb, hv]
    clear cI0 hb hv h1
    go_enter Try.func20, Try.ntmps20
    go_wp2_with (go_at_call 34; refine cI.out.mono ?_; rintro e w' ⟨rfl, rfl⟩)
    go_ret2
    exact ⟨rfl, Below.refl _ _⟩

/-- what the program has told so far -/
def ctA (k q : Nat) (j : Nat) : Nat := if j < k then ct j else if j = k then q else 0
def arrL (k q : Nat) : List Nat := (List.range 13).map (ctA k q)
theorem arrL_at {k q j : Nat} (h : j ≤ 12) : (arrL k q)[j]? = some (ctA k q j) := by
  unfold arrL
  rw [List.getElem?_map, List.getElem?_range (by omega)]
  rfl
theorem arrL_set (k q q' : Nat) (h : k ≤ 12) : (nums (arrL k q)).set k (.int .i64 (q' : Int)) = nums (arrL k q') := by
  apply List.ext_getElem?
  intro j
  rw [List.getElem?_set]
  by_cases hj : j ≤ 12
  · rw [nums_at (arrL_at hj), nums_at (arrL_at hj)]
    by_cases e : k = j
    · subst e
      rw [if_pos rfl, if_pos (by rw [nums_len]; simp [arrL]; omega)]
      simp [ctA]
    · rw [if_neg e]
      unfold ctA
      rw [if_neg (show ¬ j = k by omega), if_neg (show ¬ j = k by omega)]
  · have e1 : (nums (arrL k q))[j]? = none := List.getElem?_eq_none (by rw [nums_len]; simp [arrL]; omega)
    have e2 : (nums (arrL k q'))[j]? = none := List.getElem?_eq_none (by rw [nums_len]; simp [arrL]; omega)
    rw [e1, e2, if_neg (by omega)]
theorem arrL_next (k : Nat) : arrL k (ct k) = arrL (k + 1) 0 := by
  unfold arrL
  apply List.map_congr_left
  intro j hj
  unfold ctA
  by_cases h1 : j < k
  · rw [if_pos h1, if_pos (by omega)]
  · by_cases h2 : j = k
    · rw [if_neg h1, if_pos h2, if_pos (by omega), h2]
    · rw [if_neg h1, if_neg h2, if_neg (by omega)]
      by_cases h3 : j = k + 1
      · rw [if_pos h3]
      · rw [if_neg h3]
theorem arrL_start : #[Value.int .i64 0, .int .i64 1, .int .i64 0, .int .i64 0, .int .i64 0, .int .i64 0, .int .i64 0, .int .i64 0, .int .i64 0, .int .i64 0, .int .i64 0, .int .i64 0, .int .i64 0].toList = nums (arrL 2 0) := rfl
theorem ctA_lt {k q j : Nat} (h : j < k) : ctA k q j = ct j := by unfold ctA; rw [if_pos h]
theorem ctA_eq (k q : Nat) : ctA k q k = q := by unfold ctA; rw [if_neg (by omega), if_pos rfl]

set_option maxRecDepth 1000000 in
set_option maxHeartbeats 2000000 in
theorem implCountShapes_any (z : Int) (w : World) :
    Calls Try.prog 21 #[.int .i64 z] w fun e w' => e = .returned (.tuple #[.int .i64 (shpV z), .bool (shpB z)]) ∧ Below w.heap.size w w' := by
  by_cases h1 : 1 ≤ z ∧ z ≤ 12
  · obtain ⟨n, rfl⟩ : ∃ n : Nat, z = n := ⟨z.toNat, by omega⟩
    have hb : shpB (n : Int) = true := by unfold shpB; exact decide_eq_true h1
    rw [hb]
    have hn1 : 1 ≤ n := by omega
    have hn2 : n ≤ 12 := by omega
    have q1 : ¬ (n : Int) < 1 := by omega
    have q2 : ¬ (12 : Int) < (n : Int) := by omega
    by_cases hone : n = 1
    · have hv : shpV (n : Int) = 0 := by unfold shpV; rw [if_neg (by omega)]
      rw [hv]
      have hq : ((n : Int) == 1) = true := by rw [hone]; rfl
      clear hb h1 hone hv
      go_enter Try.func21, Try.ntmps21
      go_wp2
      go_ret2
      exact ⟨rfl, Below.refl _ _⟩
    · have hv : shpV (n : Int) = (ct n : Int) := by unfold shpV; rw [if_pos (by omega)]; rfl
      rw [hv]
      have hq : ((n : Int) == 1) = false := by simp; omega
      clear hb h1 hone hv
      go_enter Try.func21, Try.ntmps21
      go_wp2
      have HO0 : Hid ((w.alloc (.cells #[.int .i64 0, .int .i64 1, .int .i64 0, .int .i64 0, .int .i64 0, .int .i64 0, .int .i64 0, .int .i64 0, .int .i64 0, .int .i64 0, .int .i64 0, .int .i64 0, .int .i64 0] 45)).ownsRow w.heap.size 45 1 (.slice (some ⟨w.heap.size, 0, none⟩) 13 13) 13 (nums (arrL 2 0))) := Lib.hid (by rw [← arrL_start]; exact World.ownsRow_lit w _ 13 (Nat.le_refl _) (by unfold maxLen; omega) rfl)
      have HB0 : Hid (Below w.heap.size w (w.alloc (.cells #[.int .i64 0, .int .i64 1, .int .i64 0, .int .i64 0, .int .i64 0, .int .i64 0, .int .i64 0, .int .i64 0, .int .i64 0, .int .i64 0, .int .i64 0, .int .i64 0, .int .i64 0] 45))) := Lib.hid ((Below.refl _ _).alloc (Nat.le_refl _) _)
      go_loopw [5] (fun i wr => ∃ (k : Nat), 2 ≤ k ∧ k ≤ n + 1 ∧ i = .int .i64 k ∧ Hid (wr.ownsRow w.heap.size 45 1 (.slice (some ⟨w.heap.size, 0, none⟩) 13 13) 13 (nums (arrL k 0))) ∧ Hid (Below w.heap.size w wr)) (fun i _ => 13 - (intOf i).toNat)
      case atStart => exact ⟨2, by omega, by omega, rfl, HO0, HB0⟩
      case round =>
        clear HO0 HB0
        obtain ⟨k, hk2, hkn, rfl, HO, HB⟩ := hrel
        have hk0 : (0 : Int) ≤ (k : Int) := by omega
        by_cases hlt : k ≤ n
        · have hle : (k : Int) ≤ (n : Int) := by omega
          have hS1 := Lib.hid (ctS_one k)
          rename World => wo
          go_wp2
          go_loopw [6] (fun i wr => ∃ (m q : Nat), 1 ≤ m ∧ m ≤ k ∧ i = .int .i64 m ∧ q ≤ 58786 ∧ Hid (ctS k m = q) ∧ Hid (wr.ownsRow w.heap.size 45 1 (.slice (some ⟨w.heap.size, 0, none⟩) 13 13) 13 (nums (arrL k q))) ∧ Hid (Below w.heap.size w wr)) (fun i _ => k - (intOf i).toNat)
          case atStart => exact ⟨1, 0, by omega, by omega, rfl, by omega, hS1, HO, HB⟩
          case round =>
            clear HO HB
            obtain ⟨m, q, hm1, hmk, rfl, hq9, HQ, HO, HB⟩ := hrel
            have hzr := HB.out.size
            by_cases hml : m < k
            · have hm0 : (0 : Int) ≤ (m : Int) := by omega
              have hmi : (m : Int) < (k : Int) := by omega
              have hm13 : (m : Int) < 13 := by omega
              have hk13 : (k : Int) < 13 := by omega
              obtain ⟨r, hr⟩ : ∃ r, k - m = r := ⟨_, rfl⟩
              have hc0 := HO.out.cellAt k (by omega)
              have hc1 := HO.out.cellAt m (by omega)
              have hc2 := HO.out.cellAt r (by omega)
              have hf0 := HO.out.frozenAt k
              have e0 : (nums (arrL k q))[k]? = some (.int .i64 (q : Int)) := by rw [nums_at (arrL_at (by omega)), ctA_eq]
              have e1 : (nums (arrL k q))[m]? = some (.int .i64 (ct m : Int)) := by rw [nums_at (arrL_at (by omega)), ctA_lt hml]
              have e2 : (nums (arrL k q))[r]? = some (.int .i64 (ct r : Int)) := by rw [nums_at (arrL_at (by omega)), ctA_lt (by omega)]
              rw [e0] at hc0
              rw [e1] at hc1
              rw [e2] at hc2
              have hN := ctS_succ k m
              rw [HQ.out, hr] at hN
              have hNb := ctS_bd k (by omega) (m + 1) (by omega)
              rw [hN] at hNb
              have hx := ct_bd m (by omega)
              have hy := ct_bd r (by omega)
              obtain ⟨x, hxx⟩ : ∃ x, ct m = x := ⟨_, rfl⟩
              obtain ⟨y, hyy⟩ : ∃ y, ct r = y := ⟨_, rfl⟩
              obtain ⟨p, hp⟩ : ∃ p, x * y = p := ⟨_, rfl⟩
              rw [hxx, hyy, hp] at hN hNb
              rw [hxx] at hc1 hx
              rw [hyy] at hc2 hy
              have HN := Lib.hid hN
              have HST : Hid (∀ W : World, W.ownsRow w.heap.size 45 1 (.slice (some ⟨w.heap.size, 0, none⟩) 13 13) 13 (nums (arrL k q)) → (W.setCell ⟨w.heap.size, k, none⟩ (.int .i64 ((q + p : Nat) : Int))).ownsRow w.heap.size 45 1 (.slice (some ⟨w.heap.size, 0, none⟩) 13 13) 13 (nums (arrL k (q + p)))) := Lib.hid (fun W h => by
                have := (h.stored k (.int .i64 ((q + p : Nat) : Int))).1
                rwa [arrL_set k q (q + p) (by omega)] at this)
              have hrk : r < k := by omega
              have hsub : IntKind.i64.wrap ((k : Int) - (m : Int)) = (r : Int) := by rw [show (k : Int) - (m : Int) = (r : Int) by omega]; exact IntWalk.i64_in _ (by omega)
              have hr0 : (0 : Int) ≤ (r : Int) := by omega
              have hri : (r : Int) < 13 := by omega
              have hpp : IntKind.i64.wrap ((x : Int) * (y : Int)) = (p : Int) := by rw [show (x : Int) * (y : Int) = (p : Int) by rw [← hp]; simp]; exact IntWalk.i64_in _ (by omega)
              have hqp : IntKind.i64.wrap ((q : Int) + (p : Int)) = ((q + p : Nat) : Int) := by rw [show (q : Int) + (p : Int) = ((q + p : Nat) : Int) by omega]; exact IntWalk.i64_in _ (by omega)
              clear e0 e1 e2 hN hxx hyy hp hr
              go_wp2
              go_region_with (fail)
              all_goals
                have HO9 : Hid (((wr.setCell ⟨w.heap.size, k, none⟩ (.int .i64 ((q : Int) + (p : Int)))).drew).ownsRow w.heap.size 45 1 (.slice (some ⟨w.heap.size, 0, none⟩) 13 13) 13 (nums (arrL k (q + p)))) := Lib.hid (own_stay (HST.out wr HO.out) ((Below.refl _ _).drew))
                have HB9 : Hid (Below w.heap.size w ((wr.setCell ⟨w.heap.size, k, none⟩ (.int .i64 ((q : Int) + (p : Int)))).drew)) := Lib.hid (HB.out.setCell (p := ⟨w.heap.size, k, none⟩) (Nat.le_refl _) _).drew
                clear hc0 hc1 hc2 hf0 hsub hpp hqp hzr
                generalize (wr.setCell ⟨w.heap.size, k, none⟩ (.int .i64 ((q : Int) + (p : Int)))).drew = W9 at HO9 HB9 ⊢
                go_wp2
                go_roundw
                case rel => exact ⟨m + 1, q + p, by omega, by omega, by go_num, by omega, HN, HO9, HB9⟩
                case measure => simp [intOf]; omega
            · have e : m = k := by omega
              have HQ2 : Hid (q = ct k) := Lib.hid (by rw [← HQ.out, e]; exact ctS_all k (by omega) hk2)
              have HN : Hid (arrL k q = arrL (k + 1) 0) := Lib.hid (by rw [HQ2.out]; exact arrL_next k)
              go_wp2
              go_roundw
              case rel => exact ⟨k + 1, by omega, by omega, by go_num, Lib.hid (by rw [← HN.out]; exact HO.out), HB⟩
              case measure => simp [intOf]; omega
        · have hle : ¬ (k : Int) ≤ (n : Int) := by omega
          have hc1 := HO.out.cellAt n (by omega)
          have e1 : (nums (arrL k 0))[n]? = some (.int .i64 (ct n : Int)) := by rw [nums_at (arrL_at (by omega)), ctA_lt (by omega)]
          rw [e1] at hc1
          clear e1
          have hn0 : (0 : Int) ≤ (n : Int) := by omega
          have hnk : (n : Int) < 13 := by omega
          go_wp2
          go_ret2
          exact ⟨rfl, HB.out⟩
  · have hb : shpB z = false := by unfold shpB; exact decide_eq_false h1
    have hv : shpV z = 0 := by unfold shpV; rw [if_neg (by omega)]
    rw [hb, hv]
    clear hb hv
    by_cases h0 : z < 1
    · clear h1
      go_enter Try.func21, Try.ntmps21
      go_wp2
      go_ret2
      exact ⟨rfl, Below.refl _ _⟩
    · have h12 : 12 < z := by omega
      clear h1
      go_enter Try.func21, Try.ntmps21
      go_wp2
      go_ret2
      exact ⟨rfl, Below.refl _ _⟩

theorem agreeCountShapes (z : Int) (hz : -9223372036854775808 ≤ z ∧ z ≤ 9223372036854775807) : ∃ (v : Int) (ok : Bool),
    (∀ (W : World), Calls Try.prog 20 #[.int .i64 z] W fun e w' => e = .returned (.tuple #[.int .i64 v, .bool ok]) ∧ Below W.heap.size W w') ∧
    (∀ (W : World), Calls Try.prog 21 #[.int .i64 z] W fun e w' => e = .returned (.tuple #[.int .i64 v, .bool ok]) ∧ Below W.heap.size W w') :=
  ⟨shpV z, shpB z, fun W => specCountShapes_any z W, fun W => implCountShapes_any z W⟩

end Go.Proofs.Ythjafoacnfgjhaa
