/-
  In how many ways a game goes on: the reference's count.
-/
import Derived.Test.YtfehfjnmkaifbaaWays11
import Derived.Test.YtfehfjnmkaifbaaFat11
import Derived.Test.YtfehfjnmkaifbaaGvT
import Derived.Test.YtfehfjnmkaifbaaL2Kids
import Derived.Test.YtfehfjnmkaifbaaClsQ
namespace Go.Proofs.Ytfehfjnmkaifbaa
open Go.RowKit
set_option linter.unusedVariables false

theorem sum_take {ks : List Nat} {p : Nat → Nat} {j k : Nat} (hk : ks[j]? = some k) : ((ks.take (j + 1)).map p).sum = ((ks.take j).map p).sum + p k := by
  obtain ⟨h1, h2⟩ := List.getElem?_eq_some_iff.1 hk
  rw [List.take_succ_eq_append_getElem h1, List.map_append, List.sum_append, h2]
  simp

set_option maxRecDepth 1000000 in
set_option maxHeartbeats 4000000 in
theorem l11Count_any (B : Nat) (a : Option Addr) (n c m : Nat) (t : List Nd) (ps : List Txt) (hv : Valid t ps) (hl : t.length = n) (hm : m ≤ 6) : ∀ (f i : Nat), n - i ≤ f → i < n → ∀ w : World, B ≤ w.heap.size → Nds B w a n c t →
    Calls Try.prog 42 #[.agg #[.slice a n c], .int .i64 (i : Int), .int .i64 (m : Int)] w fun e w' => e = .returned (.int .i64 ((way t ps m i : Nat) : Int)) ∧ Below w.heap.size w w'
  | 0, i, h0, hi => absurd h0 (by omega)
  | f + 1, i, hfi, hi => by
    intro w hB h
    have h481 := hv.size
    have G1 := Lib.hid (Gv.start (h.mono hB))
    have hsz0 := G1.out.bel.size
    have cK := Lib.hid (l2Kids_any w.heap.size a n c i t _ hsz0 G1.out.nds (by omega) hi)
    have IH : Hid (∀ k, i < k → k < n → ∀ V : World, Gv w V a n c t → Calls Try.prog 42 #[.agg #[.slice a n c], .int .i64 (k : Int), .int .i64 (m : Int)] V fun e w' => e = .returned (.int .i64 ((way t ps m k : Nat) : Int)) ∧ Below V.heap.size V w') := Lib.hid (fun k h1 h2 V hG => l11Count_any w.heap.size a n c m t ps hv hl hm f k (by omega) h2 V (Nat.le_of_lt hG.lt) hG.nds)
    have cF : Hid (∀ V : World, Gv w V a n c t → Calls Try.prog 37 #[.agg #[.slice a n c], .int .i64 (i : Int), .int .i64 (m : Int)] V fun e w' => e = .returned (.bool (fatB t ps m i)) ∧ Below V.heap.size V w') := Lib.hid (fun V hG => l11Fatal_any w.heap.size a n c i m t ps V (Nat.le_of_lt hG.lt) hG.nds hv hi hm)
    have HW1 : Hid ((kidsTo t i n = [] ∨ fatB t ps m i = true) → way t ps m i = 1) := Lib.hid (fun hh => way_one (by rw [hl]; exact hh))
    have HW2 : Hid (¬ (kidsTo t i n = [] ∨ fatB t ps m i = true) → way t ps m i = ((kidsTo t i n).map (way t ps m)).sum) := Lib.hid (fun hh => by
      have := way_sum (t := t) (ps := ps) (m := m) (i := i) (by rw [hl]; exact hh)
      rwa [hl] at this)
    have HSM : way t ps m i ≤ 1000 := by have := way_le (m := m) hv.tells (show i < t.length by omega); omega
    have HGT : Hid (∀ k, k ∈ kidsTo t i n → i < k ∧ k < n) := Lib.hid (fun k hk => by rw [← hl] at hk ⊢; exact kids_gt hk)
    obtain ⟨ks, hks⟩ : ∃ ks, kidsTo t i n = ks := ⟨_, rfl⟩
    rw [hks] at cK HW1 HW2 HGT
    obtain ⟨res, hres⟩ : ∃ res, way t ps m i = res := ⟨_, rfl⟩
    rw [hres] at HW1 HW2 HSM ⊢
    have hlen : ks.length ≤ 1000 := by have := kidsTo_le (t := t) (i := i) n; rw [hks] at this; omega
    obtain ⟨fb, hfb⟩ : ∃ fb, fatB t ps m i = fb := ⟨_, rfl⟩
    rw [hfb] at cF HW1 HW2
    clear hks hres h hv hfi hfb
    cases ks with
    | nil =>
      have HR : Hid (res = 1) := Lib.hid (HW1.out (.inl rfl))
      go_enter Try.func42, Try.ntmps42
      go_wp2_with fail
      refine cK.out.mono ?_
      rintro e w2 ⟨v, rfl, hO, hb⟩
      obtain ⟨a9, c9, rfl, hS⟩ := own_nums hO
      have HB2 := Lib.hid (G1.out.bel.trans (hb.mono hsz0))
      clear hO hb hS
      have z : ((([] : List Nat).length : Int) == 0) = true := rfl
      go_wp2_with fail
      go_ret
      exact ⟨by rw [HR.out]; rfl, HB2.out⟩
    | cons k0 kr =>
      obtain ⟨ks, hks⟩ : ∃ ks, k0 :: kr = ks := ⟨_, rfl⟩
      have hne : 0 < ks.length := by rw [← hks]; simp
      have hnn : ks ≠ [] := by rw [← hks]; simp
      rw [hks] at cK HW1 HW2 HGT hlen
      clear hks
      obtain ⟨len, hle⟩ : ∃ len, ks.length = len := ⟨_, rfl⟩
      have HLE := Lib.hid hle
      rw [hle] at cK hlen hne
      clear hle
      have z : (((len : Nat) : Int) == 0) = false := by simp; omega
      cases fb with
      | true =>
        have HR : Hid (res = 1) := Lib.hid (HW1.out (.inr rfl))
        go_enter Try.func42, Try.ntmps42
        go_wp2_with fail
        refine cK.out.mono ?_
        rintro e w2 ⟨v, rfl, hO, hb⟩
        obtain ⟨a9, c9, rfl, hS⟩ := own_nums hO
        have G2 := Lib.hid (G1.out.on hb)
        have hbx := G2.out.box
        clear hO hb hS
        go_wp2_with (first
          | (go_at_call 37; refine (cF.out _ G2.out).mono ?_; rintro e3 w3 ⟨rfl, hb3⟩; have G3 := Lib.hid (G2.out.on hb3)))
        go_ret
        exact ⟨by rw [HR.out]; rfl, G3.out.bel⟩
      | false =>
        have HR : Hid (res = (ks.map (way t ps m)).sum) := Lib.hid (HW2.out (by rintro (e | e); exact hnn e; cases e))
        clear HW1 HW2 hnn
        go_enter Try.func42, Try.ntmps42
        go_wp2_with fail
        refine cK.out.mono ?_
        rintro e w2 ⟨v, rfl, hO, hb⟩
        obtain ⟨a9, c9, rfl, hS⟩ := own_nums hO
        have HS := Lib.hid hS
        have G2 := Lib.hid (G1.out.on hb)
        have hbx := G2.out.box
        have C9 := hS.cap
        have T9 := hS.top
        clear hO hb hS
        go_wp2_with fail
        refine (cF.out _ G2.out).mono ?_
        rintro e3 w3 ⟨rfl, hb3⟩
        have HB3 := Lib.hid hb3
        clear hb3 hbx
        go_wp2_with fail
        go_loopw [8, 9] (fun s q wr => ∃ j y : Nat, s = .int .i64 (y : Int) ∧ q = .int .i64 (j : Int) ∧ j ≤ len ∧ Hid (((ks.take j).map (way t ps m)).sum = y) ∧ Hid (Below w2.heap.size w2 wr)) (fun _ q _ => len - (intOf q).toNat)
        case atStart => exact ⟨0, 0, rfl, rfl, Nat.zero_le _, Lib.hid rfl, HB3⟩
        case round =>
          obtain ⟨j, y, rfl, rfl, hj, HA, HBw⟩ := hrel
          by_cases hjl : j < len
          · obtain ⟨k, hk⟩ : ∃ k, ks[j]? = some k := ⟨_, List.getElem?_eq_getElem (by rw [HLE.out]; exact hjl)⟩
            have hik := HGT.out k (List.mem_of_getElem? hk)
            have hi0 : (0 : Int) ≤ (j : Int) := by omega
            have hi1 : (j : Int) < (len : Int) := by omega
            obtain ⟨b9, o9, e9, hb9, hr9⟩ := (HS.out.keep HBw.out).spot j _ (nums_at hk)
            subst e9
            have hR : Hid (∀ V, Below w2.heap.size w2 V → V.cell? ⟨w.heap.size, 0, none⟩ = some (.slice a n c) ∧ V.cell? ⟨b9, o9 + j, none⟩ = some (.int .i64 (k : Int))) := Lib.hid (fun V hV => ⟨(G2.out.on hV).box, by
              obtain ⟨b8, o8, e8, _, h8⟩ := (HS.out.keep hV).spot j _ (nums_at hk)
              injection e8 with e8
              injection e8 with e8 e10
              subst e8 e10
              exact h8⟩)
            have HAS := Lib.hid (sum_take (p := way t ps m) hk)
            rw [HA.out] at HAS
            have hle1 : y + way t ps m k ≤ res := by
              rw [← HAS.out, HR.out]
              have := sum_pre (way t ps m) (ks.take (j + 1)) (ks.drop (j + 1))
              rwa [List.take_append_drop] at this
            have cW : Hid (∀ V, Below w2.heap.size w2 V → Calls Try.prog 42 #[.agg #[.slice a n c], .int .i64 (k : Int), .int .i64 (m : Int)] V fun e w' => e = .returned (.int .i64 ((way t ps m k : Nat) : Int)) ∧ Below V.heap.size V w') := Lib.hid (fun V hV => IH.out k hik.1 hik.2 V (G2.out.on hV))
            obtain ⟨z1, hz1⟩ : ∃ z1, way t ps m k = z1 := ⟨_, rfl⟩
            rw [hz1] at cW HAS hle1
            clear hz1 hk hr9
            have hS0 : Below w2.heap.size w2 wr.drew := HBw.out.trans ((Below.refl _ _).drew.mono HBw.out.size)
            have hnc : Nonempty (Cls (Below w2.heap.size w2)) := ⟨⟨_, hS0⟩⟩
            have hm1 : ∀ q : Cls (Below w2.heap.size w2), q.w.cell? ⟨w.heap.size, 0, none⟩ = some (.slice a n c) := fun q => (hR.out q.w q.h).1
            have hm2 : ∀ q : Cls (Below w2.heap.size w2), q.w.cell? ⟨b9, o9 + j, none⟩ = some (.int .i64 (k : Int)) := fun q => (hR.out q.w q.h).2
            have cW2 : Hid (∀ q : Cls (Below w2.heap.size w2), Calls Try.prog 42 #[.agg #[.slice a n c], .int .i64 (k : Int), .int .i64 (m : Int)] q.w fun e w' => e = .returned (.int .i64 (z1 : Int)) ∧ Below w2.heap.size w2 w') := Lib.hid (fun q => (cW.out q.w q.h).mono fun e w' h => ⟨h.1, q.h.trans (h.2.mono q.h.size)⟩)
            have hs0 : (0 : Int) ≤ (y : Int) + (z1 : Int) := by omega
            have hs1 : (y : Int) + (z1 : Int) ≤ 1000 := by omega
            clear cW hR
            go_wp2_with fail
            refine wp_region_cls (Below w2.heap.size w2) (by kernel_rfl) (by kernel_rfl) hS0 ?_
            repeat (go_big_quiet_step ((first
              | (go_at_call 42; exact cls_of (cW2.out _)))))
            refine wpQuiet_nil ?_
            intro _ hw'
            obtain ⟨wq, rfl⟩ := hw'
            have hq := wq.h
            go_wp2
            go_roundw
            case rel => exact ⟨j + 1, y + z1, by go_num, by go_num, by omega, HAS, Lib.hid hq⟩
            case measure => simp [intOf]; omega
          · have e : j = len := by omega
            subst e
            have HE : Hid (res = y) := Lib.hid (by rw [HR.out, ← HA.out, List.take_of_length_le (by rw [HLE.out]; exact Nat.le_refl _)])
            go_wp2
            go_ret
            exact ⟨(by rw [HE.out]; rfl), G2.out.bel.trans (HBw.out.mono (Nat.le_of_lt G2.out.lt))⟩

end Go.Proofs.Ytfehfjnmkaifbaa
