/-
  The best game: the reference's walk.
-/
import Derived.Test.YtfehfjnmkaifbabBestM11
import Derived.Test.YtfehfjnmkaifbabWins11
import Derived.Test.YtfehfjnmkaifbabGood11
namespace Go.Proofs.Ytfehfjnmkaifbab
open Go.RowKit
set_option linter.unusedVariables false

/-- the letters of the best game, told of all arguments -/
noncomputable def bgV (t : List Nd) (n : Nat) (m : Int) : Txt := if gamB t n 0 m = true then (psOf t).getD (bst t (psOf t) m.toNat 0) [] else []

set_option maxRecDepth 1000000 in
set_option maxHeartbeats 8000000 in
theorem specBestGame_any (t : List Nd) (n c : Nat) (m : Int) (hn : n ≤ 1048576) (W : World) (a : Option Addr) (hN : Nds W.heap.size W a n c t) :
    Calls Try.prog 20 #[.agg #[.slice a n c], .int .i64 m] W fun e w' => e = .returned (.tuple #[.string (bx (bgV t n m)), .bool (gamB t n 0 m)]) ∧ Below W.heap.size W w' := by
  have G1 := Lib.hid (Gv.start hN)
  have hbx := G1.out.box
  have L := Lib.hid hN.len
  have cX := Lib.hid (l11Good_any t n c 0 m hn _ a (G1.out.nds.mono G1.out.bel.size))
  have HV : Hid (bgV t n m = if gamB t n 0 m = true then (psOf t).getD (bst t (psOf t) m.toNat 0) [] else []) := Lib.hid rfl
  obtain ⟨q, hq⟩ : ∃ q, gamB t n 0 m = q := ⟨_, rfl⟩
  rw [hq] at cX HV
  rw [HV.out, hq]
  clear hN HV
  cases q with
  | false =>
    rw [if_neg (by simp)]
    clear hq
    go_enter Try.func20, Try.ntmps20
    go_wp2_with fail
    refine cX.out.mono ?_
    rintro e w2 ⟨rfl, hb2⟩
    go_wp2_with fail
    go_ret2
    exact ⟨rfl, G1.out.bel.trans (hb2.mono G1.out.bel.size)⟩
  | true =>
    rw [if_pos rfl]
    obtain ⟨ps, i9, k0, hv, hps, hi0, hi, rfl, h1, h6⟩ := gam_yes hq
    have hpos : 0 < n := by omega
    have ek : ((k0 : Nat) : Int).toNat = k0 := by omega
    rw [hps, ek]
    have h481 := hv.size
    have cF0 : Hid (∀ k, k < n → ∀ V : World, Gv W V a n c t → Calls Try.prog 38 #[.agg #[.slice a n c], .int .i64 (k : Int), .int .i64 (k0 : Int)] V fun e w' => e = .returned (.bool (fatB t ps k0 k)) ∧ Below V.heap.size V w') := Lib.hid (fun k h2 V hG => l11Fatal_any W.heap.size a n c k k0 t ps V (Nat.le_of_lt hG.lt) hG.nds hv h2 h6)
    have cW0 : Hid (∀ k, k < n → ∀ V : World, Gv W V a n c t → Calls Try.prog 47 #[.agg #[.slice a n c], .int .i64 (k : Int), .int .i64 (k0 : Int), .bool false] V fun e w' => e = .returned (.bool (win t ps k0 false k)) ∧ Below V.heap.size V w') := Lib.hid (fun k h2 V hG => l11Wins_any W.heap.size a n c k0 t ps false hv L.out h6 n k (by omega) h2 V (Nat.le_of_lt hG.lt) hG.nds)
    have cK0 : Hid (∀ k, k < n → ∀ V : World, Gv W V a n c t → Calls Try.prog 46 #[.agg #[.slice a n c], .int .i64 (k : Int)] V fun e w' => ∃ v, e = .returned v ∧ w'.ownsRow V.heap.size 3 1 v (kidsTo t k n).length (nums (kidsTo t k n)) ∧ Below V.heap.size V w') := Lib.hid (fun k h2 V hG => l2Kids_any W.heap.size a n c k t V (Nat.le_of_lt hG.lt) hG.nds (by have := L.out; omega) h2)
    have cP0 : Hid (∀ k, k < n → ∀ V : World, Gv W V a n c t → Calls Try.prog 39 #[.agg #[.slice a n c], .int .i64 (k : Int)] V fun e w' => e = .returned (.string (bx (ps.getD k []))) ∧ Below V.heap.size V w') := Lib.hid (fun k h2 V hG => (l2Prefix_any W.heap.size a n c k t V (Nat.le_of_lt hG.lt) hG.nds h2).mono fun e w' h => by
      obtain ⟨s, e1, _, hP, hb⟩ := h
      obtain ⟨_, x, _, hx⟩ := hv.tells.at (show k < t.length by have := L.out; omega)
      refine ⟨?_, hb⟩
      rw [e1]
      have : s = bx (ps.getD k []) := tx_inj (by rw [tx_bx, hP ps hv.tells hv.short x hx]; simp [List.getD, hx])
      rw [this])
    have HNG : Hid (∀ k, k < n → nxt t ps k0 k ≠ 0 → k < nxt t ps k0 k ∧ nxt t ps k0 k < n) := Lib.hid (fun k hk hne => by
      have := kids_gt (nxt_gt hne).1
      rw [← L.out]
      exact this)
    have HNZ : Hid (∀ k, fatB t ps k0 k = true ∨ kidsTo t k n = [] → nxt t ps k0 k = 0) := Lib.hid (fun k hh => nxt_zero.2 (by rw [L.out]; exact hh))
    have HNX : Hid (∀ k, fatB t ps k0 k = false → nxt t ps k0 k = ((kidsTo t k n).find? (goodB t ps k0)).getD ((kidsTo t k n).headD 0)) := Lib.hid (fun k hf => by
      unfold nxt
      rw [if_neg (by rw [hf]; simp), L.out])
    have HGT : Hid (∀ i k, k ∈ kidsTo t i n → i < k ∧ k < n) := Lib.hid (fun i k hk => by rw [← L.out] at hk ⊢; exact kids_gt hk)
    have HKL : Hid (∀ i, (kidsTo t i n).length ≤ 1000) := Lib.hid (fun i => by have := kidsTo_le (t := t) (i := i) n; have := L.out; omega)
    obtain ⟨E, hE⟩ : ∃ E, bst t ps k0 0 = E := ⟨_, rfl⟩
    rw [hE]
    have HE := Lib.hid hE
    clear hE hq hv hps hi0 hi ek
    go_enter Try.func20, Try.ntmps20
    go_wp2_with fail
    refine cX.out.mono ?_
    rintro e w2 ⟨rfl, hb2⟩
    have G2 := Lib.hid (G1.out.on hb2)
    clear hb2 hbx
    go_wp2_with fail
    go_loopw [6] (fun q wr => ∃ i : Nat, q = .int .i64 (i : Int) ∧ i < n ∧ Hid (bst t ps k0 i = E) ∧ Hid (Gv W wr a n c t)) (fun q _ => n - (intOf q).toNat)
    case atStart => exact ⟨0, rfl, hpos, HE, G2⟩
    case round =>
      obtain ⟨i, rfl, hin, HB, GW⟩ := hrel
      rename World => wo
      have hbx := GW.out.box
      have cF := Lib.hid (cF0.out i hin wo GW.out)
      have hzz := HNZ.out i
      have hnx := HNX.out i
      have hng := HNG.out i hin
      obtain ⟨fb, hfb⟩ : ∃ fb, fatB t ps k0 i = fb := ⟨_, rfl⟩
      rw [hfb] at cF hzz hnx
      clear hfb
      cases fb with
      | true =>
        have HEi : Hid (i = E) := Lib.hid (by rw [← HB.out]; exact (bst_end (hzz (.inl rfl))).symm)
        clear hzz hnx hng
        go_wp2_with fail
        refine cF.out.mono ?_
        rintro e w3 ⟨rfl, hb3⟩
        have G3 := Lib.hid (GW.out.on hb3)
        have hbx3 := G3.out.box
        clear hb3 hbx
        go_wp2_with fail
        refine (cP0.out i hin _ G3.out).mono ?_
        rintro e w4 ⟨rfl, hb4⟩
        go_wp2_with fail
        go_ret2
        exact ⟨by rw [← HEi.out]; rfl, (G3.out.on hb4).bel⟩
      | false =>
        have hnx2 := hnx rfl
        have cK := Lib.hid (cK0.out i hin)
        have HGTi := Lib.hid (HGT.out i)
        have hlen := HKL.out i
        obtain ⟨ks, hks⟩ : ∃ ks, kidsTo t i n = ks := ⟨_, rfl⟩
        rw [hks] at hzz hnx2 cK HGTi hlen
        clear hks hnx
        cases ks with
        | nil =>
          have HEi : Hid (i = E) := Lib.hid (by rw [← HB.out]; exact (bst_end (hzz (.inr rfl))).symm)
          clear hzz hng hnx2
          go_wp2_with fail
          refine cF.out.mono ?_
          rintro e w3 ⟨rfl, hb3⟩
          have G3 := Lib.hid (GW.out.on hb3)
          have hbx3 := G3.out.box
          clear hb3 hbx
          go_wp2_with fail
          refine (cK.out _ G3.out).mono ?_
          rintro e w4 ⟨v, rfl, hO, hb4⟩
          obtain ⟨a9, c9, rfl, hS⟩ := own_nums hO
          have G4 := Lib.hid (G3.out.on hb4)
          have hbx4 := G4.out.box
          have z : ((([] : List Nat).length : Int) == 0) = true := rfl
          clear hO hb4 hS hbx3
          go_wp2_with fail
          refine (cP0.out i hin _ G4.out).mono ?_
          rintro e w5 ⟨rfl, hb5⟩
          go_wp2_with fail
          go_ret2
          exact ⟨by rw [← HEi.out]; rfl, (G4.out.on hb5).bel⟩
        | cons k1 kr =>
          have HN1 : Hid (nxt t ps k0 i = ((k1 :: kr).find? (goodB t ps k0)).getD k1) := Lib.hid hnx2
          clear hzz hnx2
          have HF1 : Hid ((k1 :: kr)[0]? = some k1) := Lib.hid rfl
          obtain ⟨ks, hks⟩ : ∃ ks, k1 :: kr = ks := ⟨_, rfl⟩
          have hne : 0 < ks.length := by rw [← hks]; simp
          rw [hks] at cK HGTi hlen HN1 HF1
          clear hks
          have hk1 := HGTi.out k1 (List.mem_of_getElem? HF1.out)
          have HEn : Hid (bst t ps k0 (nxt t ps k0 i) = E ∧ i < nxt t ps k0 i ∧ nxt t ps k0 i < n) := Lib.hid (by
            have hnz : nxt t ps k0 i ≠ 0 := by
              rw [HN1.out]
              cases hg : ks.find? (goodB t ps k0) with
              | some j => have := (HGTi.out j (List.mem_of_find?_eq_some hg)).1; simp; omega
              | none => simp; omega
            exact ⟨by rw [← bst_step hnz]; exact HB.out, hng hnz⟩)
          clear hng
          obtain ⟨len, hle⟩ : ∃ len, ks.length = len := ⟨_, rfl⟩
          have HLE := Lib.hid hle
          rw [hle] at cK hlen hne
          clear hle
          have z : (((len : Nat) : Int) == 0) = false := by simp; omega
          go_wp2_with fail
          refine cF.out.mono ?_
          rintro e w3 ⟨rfl, hb3⟩
          have G3 := Lib.hid (GW.out.on hb3)
          have hbx3 := G3.out.box
          clear hb3 hbx
          go_wp2_with fail
          refine (cK.out _ G3.out).mono ?_
          rintro e w4 ⟨v, rfl, hO, hb4⟩
          obtain ⟨a9, c9, rfl, hS⟩ := own_nums hO
          have HS := Lib.hid hS
          have G4 := Lib.hid (G3.out.on hb4)
          have C9 := hS.cap
          have T9 := hS.top
          obtain ⟨b9, o9, e9, hb9, hr9⟩ := hS.spot 0 _ (nums_at HF1.out)
          subst e9
          rw [Nat.add_zero] at hr9
          clear hO hb4 hS hbx3
          go_wp2_with fail
          clear hr9
          go_loopw [8, 9] (fun nx q wr => ∃ (z : Int) (y : Nat), nx = .int .i64 (y : Int) ∧ q = .int .i64 z ∧ -1 ≤ z ∧ z < len ∧ Hid (((ks.drop (z + 1).toNat).find? (goodB t ps k0)).getD k1 = y) ∧ Hid (Below w4.heap.size w4 wr)) (fun _ q _ => (intOf q + 1).toNat)
          case atStart => exact ⟨(len : Int) - 1, k1, rfl, by first | rfl | go_num, by omega, by omega, Lib.hid (by rw [show ((len : Int) - 1 + 1).toNat = len by omega, List.drop_of_length_le (by rw [HLE.out]; exact Nat.le_refl _)]; rfl), Lib.hid (Below.refl _ _)⟩
          case round =>
            obtain ⟨z, y, rfl, rfl, hz0, hz1, HA, HBw⟩ := hrel
            by_cases hzp : 0 ≤ z
            · obtain ⟨j, rfl⟩ : ∃ j : Nat, z = j := ⟨z.toNat, by omega⟩
              obtain ⟨k, hk⟩ : ∃ k, ks[j]? = some k := ⟨_, List.getElem?_eq_getElem (by rw [HLE.out]; omega)⟩
              have hik := HGTi.out k (List.mem_of_getElem? hk)
              have hR : Hid (∀ V, Below w4.heap.size w4 V → V.cell? ⟨W.heap.size, 0, none⟩ = some (.slice a n c) ∧ V.cell? ⟨b9, o9 + j, none⟩ = some (.int .i64 (k : Int))) := Lib.hid (fun V hV => ⟨(G4.out.on hV).box, by
                obtain ⟨b8, o8, e8, _, h8⟩ := (HS.out.keep hV).spot j _ (nums_at hk)
                injection e8 with e8
                injection e8 with e8 e10
                subst e8 e10
                exact h8⟩)
              have HST := Lib.hid (find_step (p := goodB t ps k0) hk)
              have HJ : Hid (((j : Int) + 1).toNat = j + 1 ∧ ((j : Int) - 1 + 1).toNat = j) := Lib.hid ⟨by omega, by omega⟩
              have cFk : Hid (∀ q : Cls (Below w4.heap.size w4), Calls Try.prog 38 #[.agg #[.slice a n c], .int .i64 (k : Int), .int .i64 (k0 : Int)] q.w fun e w' => e = .returned (.bool (fatB t ps k0 k)) ∧ Below w4.heap.size w4 w') := Lib.hid (fun q => (cF0.out k hik.2 q.w (G4.out.on q.h)).mono fun e w' h => ⟨h.1, q.h.trans (h.2.mono q.h.size)⟩)
              have cWk : Hid (∀ q : Cls (Below w4.heap.size w4), Calls Try.prog 47 #[.agg #[.slice a n c], .int .i64 (k : Int), .int .i64 (k0 : Int), .bool false] q.w fun e w' => e = .returned (.bool (win t ps k0 false k)) ∧ Below w4.heap.size w4 w') := Lib.hid (fun q => (cW0.out k hik.2 q.w (G4.out.on q.h)).mono fun e w' h => ⟨h.1, q.h.trans (h.2.mono q.h.size)⟩)
              have HGd : Hid (goodB t ps k0 k = (!fatB t ps k0 k && !win t ps k0 false k)) := Lib.hid rfl
              obtain ⟨f1, hf1⟩ : ∃ f1, fatB t ps k0 k = f1 := ⟨_, rfl⟩
              obtain ⟨f2, hf2⟩ : ∃ f2, win t ps k0 false k = f2 := ⟨_, rfl⟩
              obtain ⟨f3, hf3⟩ : ∃ f3, goodB t ps k0 k = f3 := ⟨_, rfl⟩
              rw [hf1] at cFk HGd
              rw [hf2] at cWk HGd
              rw [hf3] at HGd HST
              clear hf1 hf2 hf3 hk
              have hS0 : Below w4.heap.size w4 wr.drew := HBw.out.trans ((Below.refl _ _).drew.mono HBw.out.size)
              have hnc : Nonempty (Cls (Below w4.heap.size w4)) := ⟨⟨_, hS0⟩⟩
              have hm1 : ∀ q : Cls (Below w4.heap.size w4), q.w.cell? ⟨W.heap.size, 0, none⟩ = some (.slice a n c) := fun q => (hR.out q.w q.h).1
              have hm2 : ∀ q : Cls (Below w4.heap.size w4), q.w.cell? ⟨b9, o9 + j, none⟩ = some (.int .i64 (k : Int)) := fun q => (hR.out q.w q.h).2
              have hi0 : (0 : Int) ≤ (j : Int) := by omega
              have hi1 : (j : Int) < (len : Int) := by omega
              rcases (show (f1 = true ∧ f3 = false) ∨ (f1 = false ∧ f2 = true ∧ f3 = false) ∨ (f1 = false ∧ f2 = false ∧ f3 = true) by
                have := HGd.out
                rw [this]
                cases f1 <;> cases f2 <;> simp) with ⟨rfl, rfl⟩ | ⟨rfl, rfl, rfl⟩ | ⟨rfl, rfl, rfl⟩
              all_goals
                go_wp2_with fail
                refine wp_region_cls (Below w4.heap.size w4) (by kernel_rfl) (by kernel_rfl) hS0 ?_
                repeat (go_big_quiet_step ((first
                  | (go_at_call 38; exact cls_of (cFk.out _))
                  | (go_at_call 47; exact cls_of (cWk.out _)))))
                refine wpQuiet_nil ?_
                intro _ hw'
                obtain ⟨wq, rfl⟩ := hw'
                have hq := wq.h
                have hx9 := hm2 wq
                clear hm1 hm2
              · have HN : Hid (((ks.drop ((j : Int) - 1 + 1).toNat).find? (goodB t ps k0)).getD k1 = y) := Lib.hid (by rw [HJ.out.2, HST.out, ← HJ.out.1]; simpa using HA.out)
                go_wp2_with fail
                go_roundw
                case rel => exact ⟨(j : Int) - 1, y, rfl, by first | rfl | go_num, by omega, by omega, HN, Lib.hid hq⟩
                case measure => simp [intOf]
              · have HN : Hid (((ks.drop ((j : Int) - 1 + 1).toNat).find? (goodB t ps k0)).getD k1 = y) := Lib.hid (by rw [HJ.out.2, HST.out, ← HJ.out.1]; simpa using HA.out)
                go_wp2_with fail
                go_roundw
                case rel => exact ⟨(j : Int) - 1, y, rfl, by first | rfl | go_num, by omega, by omega, HN, Lib.hid hq⟩
                case measure => simp [intOf]
              · have HN : Hid (((ks.drop ((j : Int) - 1 + 1).toNat).find? (goodB t ps k0)).getD k1 = k) := Lib.hid (by rw [HJ.out.2, HST.out]; simp)
                go_wp2_with fail
                go_roundw
                case rel => exact ⟨(j : Int) - 1, k, rfl, by first | rfl | go_num, by omega, by omega, HN, Lib.hid hq⟩
                case measure => simp [intOf]
            · have e : z = -1 := by omega
              subst e
              have HY : Hid (nxt t ps k0 i = y) := Lib.hid (by rw [HN1.out]; exact HA.out)
              have HEy := HEn.out
              rw [HY.out] at HEy
              have hge := HEy.2
              have HB2 := Lib.hid HEy.1
              have GW2 := Lib.hid (G4.out.on HBw.out)
              clear HEy
              go_wp2_with fail
              go_roundw
              case rel => exact ⟨y, rfl, by omega, HB2, GW2⟩
              case measure => simp only [intOf]; omega

end Go.Proofs.Ytfehfjnmkaifbab
