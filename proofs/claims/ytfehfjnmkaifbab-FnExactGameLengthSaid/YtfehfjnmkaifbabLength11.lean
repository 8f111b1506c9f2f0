/-
  How long a game is: the reference's search.
-/
import Derived.Test.YtfehfjnmkaifbabWins11
namespace Go.Proofs.Ytfehfjnmkaifbab
open Go.RowKit
set_option linter.unusedVariables false

theorem lonTo_is {t : List Nd} {ps : List Txt} {m i : Nat} (h0 : fatB t ps m i = false) (hk : kidsTo t i t.length ≠ []) : lonTo t ps m (win t ps m false i) (kidsTo t i t.length) = ((lon t ps m i : Nat) : Int) := by
  have h2 := sameL_all (i := i) (k0 := (kidsTo t i t.length).headD 0) (ps := ps) (m := m) (fun k _ => pro_lts _ k (Nat.le_refl _)) (kidsTo t i t.length) (fun k hk => hk)
  have hwn : (pro t ps m false i).wins = win t ps m false i := by rw [pro_wins _ i (Nat.le_refl _), if_neg (by rw [h0]; simp)]
  rw [← pro_thr h0 hk] at h2
  unfold SameL at h2
  rw [hwn, decide_eq_false hk] at h2
  have h3 := pro_lts (t := t) (ps := ps) (m := m) _ i (Nat.le_refl _)
  cases hw : win t ps m false i with
  | true =>
    rw [hw] at h2
    simp at h2
    rw [h2, h3]
  | false =>
    rw [hw] at h2
    simp at h2
    rw [h2, h3]

theorem lonTo_step {t : List Nd} {ps : List Txt} {m : Nat} {w : Bool} {ks : List Nat} {j k : Nat} (hk : ks[j]? = some k) : lonTo t ps m w (ks.take (j + 1)) = stepL w (goodB t ps m k) (lonTo t ps m w (ks.take j)) (1 + lon t ps m k) := by
  obtain ⟨h1, h2⟩ := List.getElem?_eq_some_iff.1 hk
  rw [List.take_succ_eq_append_getElem h1, lonTo_snoc, h2]

theorem good_cases {f1 f2 f3 : Bool} (h : f3 = (!f1 && !f2)) : (f1 = true ∧ f3 = false) ∨ (f1 = false ∧ f2 = true ∧ f3 = false) ∨ (f1 = false ∧ f2 = false ∧ f3 = true) := by
  rw [h]
  cases f1 <;> cases f2 <;> simp

theorem stepL_tt {b : Int} {z : Nat} (h : b < 0 ∨ (1 : Int) + z < b) : stepL true true b (1 + z) = 1 + (z : Int) := by
  unfold stepL
  rcases h with h | h
  · simp [h]
  · have : decide (((1 + z : Nat) : Int) < b) = true := by simp; omega
    rw [this]; simp
theorem stepL_tf {b : Int} {z : Nat} (h0 : ¬ b < 0) (h : ¬ (1 : Int) + z < b) : stepL true true b (1 + z) = b := by
  unfold stepL
  have : decide (((1 + z : Nat) : Int) < b) = false := by simp; omega
  rw [this]; simp [h0]
theorem stepL_t {b : Int} {z : Nat} : stepL true false b (1 + z) = b := by unfold stepL; simp
theorem stepL_ft {g : Bool} {b : Int} {z : Nat} (h : b < (1 : Int) + z) : stepL false g b (1 + z) = 1 + (z : Int) := by
  unfold stepL
  have : decide (b < ((1 + z : Nat) : Int)) = true := by simp; omega
  rw [this]; simp
theorem stepL_ff {g : Bool} {b : Int} {z : Nat} (h : ¬ b < (1 : Int) + z) : stepL false g b (1 + z) = b := by
  unfold stepL
  have : decide (b < ((1 + z : Nat) : Int)) = false := by simp; omega
  rw [this]; simp

set_option maxRecDepth 1000000 in
set_option maxHeartbeats 8000000 in
theorem l11Length_any (B : Nat) (a : Option Addr) (n c m : Nat) (t : List Nd) (ps : List Txt) (hv : Valid t ps) (hl : t.length = n) (hm : m ≤ 6) : ∀ (f i : Nat), n - i ≤ f → i < n → ∀ w : World, B ≤ w.heap.size → Nds B w a n c t →
    Calls Try.prog 32 #[.agg #[.slice a n c], .int .i64 (i : Int), .int .i64 (m : Int)] w fun e w' => e = .returned (.int .i64 ((lon t ps m i : Nat) : Int)) ∧ Below w.heap.size w w'
  | 0, i, h0, hi => absurd h0 (by omega)
  | f + 1, i, hfi, hi => by
    intro w hB h
    have h481 := hv.size
    have G1 := Lib.hid (Gv.start (h.mono hB))
    have hsz0 := G1.out.bel.size
    have cK := Lib.hid (l2Kids_any w.heap.size a n c i t _ hsz0 G1.out.nds (by omega) hi)
    have IH : Hid (∀ k, i < k → k < n → ∀ V : World, Gv w V a n c t → Calls Try.prog 32 #[.agg #[.slice a n c], .int .i64 (k : Int), .int .i64 (m : Int)] V fun e w' => e = .returned (.int .i64 ((lon t ps m k : Nat) : Int)) ∧ Below V.heap.size V w') := Lib.hid (fun k h1 h2 V hG => l11Length_any w.heap.size a n c m t ps hv hl hm f k (by omega) h2 V (Nat.le_of_lt hG.lt) hG.nds)
    have cF0 : Hid (∀ k, k < n → ∀ V : World, Gv w V a n c t → Calls Try.prog 38 #[.agg #[.slice a n c], .int .i64 (k : Int), .int .i64 (m : Int)] V fun e w' => e = .returned (.bool (fatB t ps m k)) ∧ Below V.heap.size V w') := Lib.hid (fun k h2 V hG => l11Fatal_any w.heap.size a n c k m t ps V (Nat.le_of_lt hG.lt) hG.nds hv h2 hm)
    have cW0 : Hid (∀ k, k < n → ∀ V : World, Gv w V a n c t → Calls Try.prog 47 #[.agg #[.slice a n c], .int .i64 (k : Int), .int .i64 (m : Int), .bool false] V fun e w' => e = .returned (.bool (win t ps m false k)) ∧ Below V.heap.size V w') := Lib.hid (fun k h2 V hG => l11Wins_any w.heap.size a n c m t ps false hv hl hm n k (by omega) h2 V (Nat.le_of_lt hG.lt) hG.nds)
    have HW1 : Hid ((kidsTo t i n = [] ∨ fatB t ps m i = true) → lon t ps m i = 0) := Lib.hid (fun hh => lon_none (by rw [hl]; exact hh))
    have HW2 : Hid (fatB t ps m i = false → kidsTo t i n ≠ [] → lonTo t ps m (win t ps m false i) (kidsTo t i n) = ((lon t ps m i : Nat) : Int)) := Lib.hid (fun h1 h2 => by
      have := lonTo_is (t := t) (ps := ps) (m := m) (i := i) h1 (by rw [hl]; exact h2)
      rwa [hl] at this)
    have HLK : Hid (∀ k, k < n → lon t ps m k ≤ 481) := Lib.hid (fun k hk => by have := lon_le (t := t) (ps := ps) (m := m) _ k (Nat.le_refl _); omega)
    have HGT : Hid (∀ k, k ∈ kidsTo t i n → i < k ∧ k < n) := Lib.hid (fun k hk => by rw [← hl] at hk ⊢; exact kids_gt hk)
    obtain ⟨ks, hks⟩ : ∃ ks, kidsTo t i n = ks := ⟨_, rfl⟩
    rw [hks] at cK HW1 HW2 HGT
    obtain ⟨res, hres⟩ : ∃ res, lon t ps m i = res := ⟨_, rfl⟩
    rw [hres] at HW1 HW2 ⊢
    have hlen : ks.length ≤ 1000 := by have := kidsTo_le (t := t) (i := i) n; rw [hks] at this; omega
    have cF := Lib.hid (cF0.out i hi)
    have cW := Lib.hid (cW0.out i hi)
    obtain ⟨fb, hfb⟩ : ∃ fb, fatB t ps m i = fb := ⟨_, rfl⟩
    obtain ⟨ww, hww⟩ : ∃ ww, win t ps m false i = ww := ⟨_, rfl⟩
    rw [hfb] at cF HW1 HW2
    rw [hww] at cW HW2
    clear hks hres h hv hfi hfb hww
    cases ks with
    | nil =>
      have HR : Hid (res = 0) := Lib.hid (HW1.out (.inl rfl))
      go_enter Try.func32, Try.ntmps32
      go_wp2_with fail
      refine cK.out.mono ?_
      rintro e w2 ⟨v, rfl, hO, hb⟩
      obtain ⟨a9, c9, rfl, hS⟩ := own_nums hO
      have HB2 := Lib.hid (G1.out.bel.trans (hb.mono hsz0))
      clear hO hb hS
      have z : ((([] : List Nat).length : Int) == 0) = true := rfl
      go_wp2_with fail
      go_ret
      exact ⟨(by rw [HR.out]; rfl), HB2.out⟩
    | cons k0 kr =>
      obtain ⟨ks, hks⟩ : ∃ ks, k0 :: kr = ks := ⟨_, rfl⟩
      have hne : 0 < ks.length := by rw [← hks]; simp
      have hnn : ks ≠ [] := by rw [← hks]; simp
      rw [hks] at cK HW1 HW2 HGT hlen
      clear hks
      obtain ⟨len, hle⟩ : ∃ len, ks.length = len := ⟨_, rfl⟩
      have HLE := Lib.hid hle
      rw [hle] at cK hlen hne
      clear hle
      have z : (((len : Nat) : Int) == 0) = false := by simp; omega
      cases fb with
      | true =>
        have HR : Hid (res = 0) := Lib.hid (HW1.out (.inr rfl))
        go_enter Try.func32, Try.ntmps32
        go_wp2_with fail
        refine cK.out.mono ?_
        rintro e w2 ⟨v, rfl, hO, hb⟩
        obtain ⟨a9, c9, rfl, hS⟩ := own_nums hO
        have G2 := Lib.hid (G1.out.on hb)
        have hbx := G2.out.box
        clear hO hb hS
        go_wp2_with fail
        refine (cF.out _ G2.out).mono ?_
        rintro e3 w3 ⟨rfl, hb3⟩
        have G3 := Lib.hid (G2.out.on hb3)
        clear hb3 hbx
        go_wp2_with fail
        go_ret
        exact ⟨(by rw [HR.out]; rfl), G3.out.bel⟩
      | false =>
        have HR : Hid (lonTo t ps m ww ks = (res : Int)) := Lib.hid (HW2.out rfl hnn)
        clear HW1 HW2 hnn
        go_enter Try.func32, Try.ntmps32
        go_wp2_with fail
        refine cK.out.mono ?_
        rintro e w2 ⟨v, rfl, hO, hb⟩
        obtain ⟨a9, c9, rfl, hS⟩ := own_nums hO
        have HS := Lib.hid hS
        have G2 := Lib.hid (G1.out.on hb)
        have hbx := G2.out.box
        have C9 := hS.cap
        have T9 := hS.top
        clear hO hb hS
        go_wp2_with fail
        refine (cF.out _ G2.out).mono ?_
        rintro e3 w3 ⟨rfl, hb3⟩
        have HB3 := Lib.hid hb3
        have hbx3 := (G2.out.on hb3).box
        clear hb3 hbx
        go_wp2_with fail
        refine (cW.out _ (G2.out.on HB3.out)).mono ?_
        rintro e4 w4 ⟨rfl, hb4⟩
        have HB4 := Lib.hid (HB3.out.trans (hb4.mono HB3.out.size))
        clear hb4 hbx3 z
        go_wp2_with fail
        go_loopw [9, 10] (fun s q wr => ∃ (j : Nat) (y : Int), s = .int .i64 y ∧ q = .int .i64 (j : Int) ∧ j ≤ len ∧ -1 ≤ y ∧ y ≤ 482 ∧ Hid (lonTo t ps m ww (ks.take j) = y) ∧ Hid (Below w2.heap.size w2 wr)) (fun _ q _ => len - (intOf q).toNat)
        case atStart => exact ⟨0, -1, rfl, rfl, Nat.zero_le _, by omega, by omega, Lib.hid rfl, HB4⟩
        case round =>
          obtain ⟨j, y, rfl, rfl, hj, hy0, hy1, HA, HBw⟩ := hrel
          by_cases hjl : j < len
          · obtain ⟨k, hk⟩ : ∃ k, ks[j]? = some k := ⟨_, List.getElem?_eq_getElem (by rw [HLE.out]; exact hjl)⟩
            have hik := HGT.out k (List.mem_of_getElem? hk)
            have hi0 : (0 : Int) ≤ (j : Int) := by omega
            have hi1 : (j : Int) < (len : Int) := by omega
            obtain ⟨b9, o9, e9, hb9, hr9⟩ := (HS.out.keep HBw.out).spot j _ (nums_at hk)
            subst e9
            have hR : Hid (∀ V, Below w2.heap.size w2 V → V.cell? ⟨w.heap.size, 0, none⟩ = some (.slice a n c) ∧ V.cell? ⟨b9, o9 + j, none⟩ = some (.int .i64 (k : Int))) := Lib.hid (fun V hV => ⟨(G2.out.on hV).box, by
              obtain ⟨b8, o8, e8, _, h8⟩ := (HS.out.keep hV).spot j _ (nums_at hk)
              injection e8 with e8
              injection e8 with e8 e10
              subst e8 e10
              exact h8⟩)
            have HST := Lib.hid (lonTo_step (t := t) (ps := ps) (m := m) (w := ww) hk)
            rw [HA.out] at HST
            have hzk := HLK.out k hik.2
            have cFk : Hid (∀ q : Cls (Below w2.heap.size w2), Calls Try.prog 38 #[.agg #[.slice a n c], .int .i64 (k : Int), .int .i64 (m : Int)] q.w fun e w' => e = .returned (.bool (fatB t ps m k)) ∧ Below w2.heap.size w2 w') := Lib.hid (fun q => (cF0.out k hik.2 q.w (G2.out.on q.h)).mono fun e w' h => ⟨h.1, q.h.trans (h.2.mono q.h.size)⟩)
            have cWk : Hid (∀ q : Cls (Below w2.heap.size w2), Calls Try.prog 47 #[.agg #[.slice a n c], .int .i64 (k : Int), .int .i64 (m : Int), .bool false] q.w fun e w' => e = .returned (.bool (win t ps m false k)) ∧ Below w2.heap.size w2 w') := Lib.hid (fun q => (cW0.out k hik.2 q.w (G2.out.on q.h)).mono fun e w' h => ⟨h.1, q.h.trans (h.2.mono q.h.size)⟩)
            have cLk : Hid (∀ q : Cls (Below w2.heap.size w2), Calls Try.prog 32 #[.agg #[.slice a n c], .int .i64 (k : Int), .int .i64 (m : Int)] q.w fun e w' => e = .returned (.int .i64 ((lon t ps m k : Nat) : Int)) ∧ Below w2.heap.size w2 w') := Lib.hid (fun q => (IH.out k hik.1 hik.2 q.w (G2.out.on q.h)).mono fun e w' h => ⟨h.1, q.h.trans (h.2.mono q.h.size)⟩)
            have HGd : Hid (goodB t ps m k = (!fatB t ps m k && !win t ps m false k)) := Lib.hid rfl
            obtain ⟨f1, hf1⟩ : ∃ f1, fatB t ps m k = f1 := ⟨_, rfl⟩
            obtain ⟨f2, hf2⟩ : ∃ f2, win t ps m false k = f2 := ⟨_, rfl⟩
            obtain ⟨f3, hf3⟩ : ∃ f3, goodB t ps m k = f3 := ⟨_, rfl⟩
            obtain ⟨z, hz⟩ : ∃ z, lon t ps m k = z := ⟨_, rfl⟩
            rw [hf1] at cFk HGd
            rw [hf2] at cWk HGd
            rw [hf3] at HGd HST
            rw [hz] at cLk HST hzk
            have hz0 : (0 : Int) ≤ 1 + (z : Int) := by omega
            have hz1 : (1 : Int) + (z : Int) ≤ 482 := by omega
            clear hf1 hf2 hf3 hz hk hr9
            have hS0 : Below w2.heap.size w2 wr.drew := HBw.out.trans ((Below.refl _ _).drew.mono HBw.out.size)
            have hnc : Nonempty (Cls (Below w2.heap.size w2)) := ⟨⟨_, hS0⟩⟩
            have hm1 : ∀ q : Cls (Below w2.heap.size w2), q.w.cell? ⟨w.heap.size, 0, none⟩ = some (.slice a n c) := fun q => (hR.out q.w q.h).1
            have hm2 : ∀ q : Cls (Below w2.heap.size w2), q.w.cell? ⟨b9, o9 + j, none⟩ = some (.int .i64 (k : Int)) := fun q => (hR.out q.w q.h).2
            clear hR
            have hcase := good_cases HGd.out
            rcases hcase with ⟨rfl, rfl⟩ | ⟨rfl, rfl, rfl⟩ | ⟨rfl, rfl, rfl⟩
            all_goals
              go_wp2_with fail
              refine wp_region_cls (Below w2.heap.size w2) (by kernel_rfl) (by kernel_rfl) hS0 ?_
              repeat (go_big_quiet_step ((first
                | (go_at_call 38; exact cls_of (cFk.out _))
                | (go_at_call 47; exact cls_of (cWk.out _)))))
              refine wpQuiet_nil ?_
              intro _ hw'
              obtain ⟨wq, rfl⟩ := hw'
              have hq := wq.h
              have hS1 : Below w2.heap.size w2 wq.w.drew := hq.trans ((Below.refl _ _).drew.mono hq.size)
              go_wp2_with fail
              refine wp_region_cls (Below w2.heap.size w2) (by kernel_rfl) (by kernel_rfl) hS1 ?_
              repeat (go_big_quiet_step ((first
                | (go_at_call 32; exact cls_of (cLk.out _)))))
              refine wpQuiet_nil ?_
              intro _ hw'
              obtain ⟨wq2, rfl⟩ := hw'
              have hq2 := wq2.h
              clear hm1 hm2
            · cases ww with
              | true =>
                have HN := Lib.hid (HST.out.trans stepL_t)
                go_wp2_with fail
                go_roundw
                case rel => exact ⟨j + 1, y, rfl, by go_num, by omega, by omega, by omega, HN, Lib.hid hq2⟩
                case measure => simp [intOf]; omega
              | false =>
                by_cases hc : y < (1 : Int) + (z : Int)
                · have HN := Lib.hid (HST.out.trans (stepL_ft hc))
                  go_wp2_with fail
                  go_roundw
                  case rel => exact ⟨j + 1, _, rfl, by go_num, by omega, by omega, by omega, HN, Lib.hid hq2⟩
                  case measure => simp [intOf]; omega
                · have HN := Lib.hid (HST.out.trans (stepL_ff hc))
                  go_wp2_with fail
                  go_roundw
                  case rel => exact ⟨j + 1, y, rfl, by go_num, by omega, by omega, by omega, HN, Lib.hid hq2⟩
                  case measure => simp [intOf]; omega
            · cases ww with
              | true =>
                have HN := Lib.hid (HST.out.trans stepL_t)
                go_wp2_with fail
                go_roundw
                case rel => exact ⟨j + 1, y, rfl, by go_num, by omega, by omega, by omega, HN, Lib.hid hq2⟩
                case measure => simp [intOf]; omega
              | false =>
                by_cases hc : y < (1 : Int) + (z : Int)
                · have HN := Lib.hid (HST.out.trans (stepL_ft hc))
                  go_wp2_with fail
                  go_roundw
                  case rel => exact ⟨j + 1, _, rfl, by go_num, by omega, by omega, by omega, HN, Lib.hid hq2⟩
                  case measure => simp [intOf]; omega
                · have HN := Lib.hid (HST.out.trans (stepL_ff hc))
                  go_wp2_with fail
                  go_roundw
                  case rel => exact ⟨j + 1, y, rfl, by go_num, by omega, by omega, by omega, HN, Lib.hid hq2⟩
                  case measure => simp [intOf]; omega
            · cases ww with
              | true =>
                by_cases hc0 : y < 0
                · have HN := Lib.hid (HST.out.trans (stepL_tt (.inl hc0)))
                  go_wp2_with fail
                  go_roundw
                  case rel => exact ⟨j + 1, _, rfl, by go_num, by omega, by omega, by omega, HN, Lib.hid hq2⟩
                  case measure => simp [intOf]; omega
                · by_cases hc : (1 : Int) + (z : Int) < y
                  · have HN := Lib.hid (HST.out.trans (stepL_tt (.inr hc)))
                    go_wp2_with fail
                    go_roundw
                    case rel => exact ⟨j + 1, _, rfl, by go_num, by omega, by omega, by omega, HN, Lib.hid hq2⟩
                    case measure => simp [intOf]; omega
                  · have HN := Lib.hid (HST.out.trans (stepL_tf hc0 hc))
                    go_wp2_with fail
                    go_roundw
                    case rel => exact ⟨j + 1, y, rfl, by go_num, by omega, by omega, by omega, HN, Lib.hid hq2⟩
                    case measure => simp [intOf]; omega
              | false =>
                by_cases hc : y < (1 : Int) + (z : Int)
                · have HN := Lib.hid (HST.out.trans (stepL_ft hc))
                  go_wp2_with fail
                  go_roundw
                  case rel => exact ⟨j + 1, _, rfl, by go_num, by omega, by omega, by omega, HN, Lib.hid hq2⟩
                  case measure => simp [intOf]; omega
                · have HN := Lib.hid (HST.out.trans (stepL_ff hc))
                  go_wp2_with fail
                  go_roundw
                  case rel => exact ⟨j + 1, y, rfl, by go_num, by omega, by omega, by omega, HN, Lib.hid hq2⟩
                  case measure => simp [intOf]; omega
          · have e : j = len := by omega
            subst e
            have HE : Hid ((res : Int) = y) := Lib.hid (by rw [← HR.out, ← HA.out, List.take_of_length_le (by rw [HLE.out]; exact Nat.le_refl _)])
            go_wp2
            go_ret
            exact ⟨(by rw [HE.out]; rfl), G2.out.bel.trans (HBw.out.mono (Nat.le_of_lt G2.out.lt))⟩

end Go.Proofs.Ytfehfjnmkaifbab
