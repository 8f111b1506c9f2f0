/-
  The letters that win: the reference's text.
-/
import Derived.Test.YtfehfjnmkaifbaaLet11
import Derived.Test.YtfehfjnmkaifbaaWins11
import Derived.Test.YtfehfjnmkaifbaaGood11
namespace Go.Proofs.Ytfehfjnmkaifbaa
open Go.RowKit
set_option linter.unusedVariables false

/-- the letters that win, told of all arguments -/
noncomputable def wltV (t : List Nd) (n : Nat) (x m : Int) : Txt := if opoB t n x m = true then wlt t (psOf t) m.toNat (kidsTo t x.toNat n) else []

set_option maxRecDepth 1000000 in
set_option maxHeartbeats 4000000 in
theorem specWinningLetters_any (t : List Nd) (n c : Nat) (x m : Int) (hn : n ≤ 1048576) (W : World) (a : Option Addr) (hN : Nds W.heap.size W a n c t) :
    Calls Try.prog 18 #[.agg #[.slice a n c], .int .i64 x, .int .i64 m] W fun e w' => e = .returned (.tuple #[.string (bx (wltV t n x m)), .bool (opoB t n x m)]) ∧ Below W.heap.size W w' := by
  have G1 := Lib.hid (Gv.start hN)
  have hbx := G1.out.box
  have L := Lib.hid hN.len
  have cX := Lib.hid (l11Good_any t n c x m hn _ a (G1.out.nds.mono G1.out.bel.size))
  have HV : Hid (wltV t n x m = if opoB t n x m = true then wlt t (psOf t) m.toNat (kidsTo t x.toNat n) else []) := Lib.hid rfl
  have HO : Hid (opoB t n x m = (gamB t n x m && opn t (psOf t) m.toNat x.toNat)) := Lib.hid rfl
  obtain ⟨q, hq⟩ : ∃ q, gamB t n x m = q := ⟨_, rfl⟩
  rw [hq] at cX HO
  clear hN
  cases q with
  | false =>
    have ho : opoB t n x m = false := by rw [HO.out]; rfl
    rw [HV.out, ho, if_neg (by simp)]
    clear HV HO ho hq
    go_enter Try.func18, Try.ntmps18
    go_wp2_with (first
      | (go_at_call 25; refine cX.out.mono ?_; rintro e w2 ⟨rfl, hb2⟩))
    go_ret2
    exact ⟨rfl, G1.out.bel.trans (hb2.mono G1.out.bel.size)⟩
  | true =>
    have cO := Lib.hid (fun V (hG : Gv W V a n c t) => l11Open_at hq W V a hG)
    obtain ⟨ps, i, k0, hv, hps, rfl, hi, rfl, h1, h6⟩ := gam_yes hq
    rw [Bool.true_and] at HO
    obtain ⟨r, hr⟩ : ∃ r, opn t (psOf t) ((k0 : Nat) : Int).toNat ((i : Nat) : Int).toNat = r := ⟨_, rfl⟩
    rw [hr] at cO HO
    rw [HV.out, HO.out]
    clear hr hq HO HV
    cases r with
    | false =>
      rw [if_neg (by simp)]
      go_enter Try.func18, Try.ntmps18
      go_wp2_with (first
        | (go_at_call 25; refine cX.out.mono ?_; rintro e w2 ⟨rfl, hb2⟩; have G2 := Lib.hid (G1.out.on hb2); have hbx2 := G2.out.box)
        | (go_at_call 26; refine (cO.out _ G2.out).mono ?_; rintro e w3 ⟨rfl, hb3⟩; have G3 := Lib.hid (G2.out.on hb3)))
      go_ret2
      exact ⟨rfl, G3.out.bel⟩
    | true =>
      rw [if_pos rfl, hps]
      have ek : ((k0 : Nat) : Int).toNat = k0 := by omega
      have ei : ((i : Nat) : Int).toNat = i := by omega
      rw [ek, ei]
      have h481 := hv.size
      have cK := Lib.hid (fun V (hG : Gv W V a n c t) => l2Kids_any W.heap.size a n c i t V (Nat.le_of_lt hG.lt) hG.nds (by have := L.out; omega) hi)
      have cF0 : Hid (∀ k, k < n → ∀ V : World, Gv W V a n c t → Calls Try.prog 37 #[.agg #[.slice a n c], .int .i64 (k : Int), .int .i64 (k0 : Int)] V fun e w' => e = .returned (.bool (fatB t ps k0 k)) ∧ Below V.heap.size V w') := Lib.hid (fun k h2 V hG => l11Fatal_any W.heap.size a n c k k0 t ps V (Nat.le_of_lt hG.lt) hG.nds hv h2 h6)
      have cW0 : Hid (∀ k, k < n → ∀ V : World, Gv W V a n c t → Calls Try.prog 31 #[.agg #[.slice a n c], .int .i64 (k : Int), .int .i64 (k0 : Int), .bool false] V fun e w' => e = .returned (.bool (win t ps k0 false k)) ∧ Below V.heap.size V w') := Lib.hid (fun k h2 V hG => l11Wins_any W.heap.size a n c k0 t ps false hv L.out h6 n k (by omega) h2 V (Nat.le_of_lt hG.lt) hG.nds)
      have cL0 : Hid (∀ k, 1 ≤ k → k < n → ∀ V : World, Gv W V a n c t → Calls Try.prog 38 #[.agg #[.slice a n c], .int .i64 (k : Int)] V fun e w' => e = .returned (.string (bx [letU t k])) ∧ Below V.heap.size V w') := Lib.hid (fun k h0 h2 V hG => l11Letter_any W.heap.size a n c k t ps V (Nat.le_of_lt hG.lt) hG.nds hv.tells h0 h2)
      have HGT : Hid (∀ k, k ∈ kidsTo t i n → i < k ∧ k < n) := Lib.hid (fun k hk => by rw [← L.out] at hk ⊢; exact kids_gt hk)
      obtain ⟨ks, hks⟩ : ∃ ks, kidsTo t i n = ks := ⟨_, rfl⟩
      rw [hks] at cK HGT ⊢
      have hlen : ks.length ≤ 1000 := by have := kidsTo_le (t := t) (i := i) n; rw [hks] at this; have := L.out; omega
      obtain ⟨X, hX⟩ : ∃ X, wlt t ps k0 ks = X := ⟨_, rfl⟩
      rw [hX]
      have HX := Lib.hid hX
      obtain ⟨len, hle⟩ : ∃ len, ks.length = len := ⟨_, rfl⟩
      have HLE := Lib.hid hle
      rw [hle] at cK hlen
      clear hX hle hks ek ei hps hv hbx
      have hbx := G1.out.box
      go_enter Try.func18, Try.ntmps18
      go_wp2_with fail
      refine cX.out.mono ?_
      rintro e w2 ⟨rfl, hb2⟩
      have G2 := Lib.hid (G1.out.on hb2)
      have hbx2 := G2.out.box
      go_wp2_with fail
      refine (cO.out _ G2.out).mono ?_
      rintro e w3 ⟨rfl, hb3⟩
      have G3 := Lib.hid (G2.out.on hb3)
      have hbx3 := G3.out.box
      go_wp2_with fail
      refine (cK.out _ G3.out).mono ?_
      rintro e w4 ⟨v, rfl, hO, hb4⟩
      obtain ⟨a9, c9, rfl, hS⟩ := own_nums hO
      have HS := Lib.hid hS
      have G4 := Lib.hid (G3.out.on hb4)
      have C9 := hS.cap
      have T9 := hS.top
      clear hO hb4 hS hb3 hb2 hbx hbx2 hbx3
      go_wp2_with fail
      go_loopw [8, 10] (fun s q wr => ∃ (j : Nat) (y : ByteArray), s = .string y ∧ q = .int .i64 (j : Int) ∧ j ≤ len ∧ Hid (y = bx (wlt t ps k0 (ks.take j))) ∧ y.size ≤ j ∧ Hid (Below w4.heap.size w4 wr)) (fun _ q _ => len - (intOf q).toNat)
      case atStart => exact ⟨0, _, rfl, rfl, Nat.zero_le _, Lib.hid rfl, Nat.zero_le _, Lib.hid (Below.refl _ _)⟩
      case round =>
        obtain ⟨j, y, rfl, rfl, hj, HA, hys, HBw⟩ := hrel
        by_cases hjl : j < len
        · obtain ⟨k, hk⟩ : ∃ k, ks[j]? = some k := ⟨_, List.getElem?_eq_getElem (by rw [HLE.out]; exact hjl)⟩
          have hik := HGT.out k (List.mem_of_getElem? hk)
          have hi0 : (0 : Int) ≤ (j : Int) := by omega
          have hi1 : (j : Int) < (len : Int) := by omega
          obtain ⟨b9, o9, e9, hb9, hr9⟩ := (HS.out.keep HBw.out).spot j _ (nums_at hk)
          subst e9
          have hR : Hid (∀ V, Below w4.heap.size w4 V → V.cell? ⟨W.heap.size, 0, none⟩ = some (.slice a n c) ∧ V.cell? ⟨b9, o9 + j, none⟩ = some (.int .i64 (k : Int))) := Lib.hid (fun V hV => ⟨(G4.out.on hV).box, by
            obtain ⟨b8, o8, e8, _, h8⟩ := (HS.out.keep hV).spot j _ (nums_at hk)
            injection e8 with e8
            injection e8 with e8 e10
            subst e8 e10
            exact h8⟩)
          have HST := Lib.hid (wlt_step (t := t) (ps := ps) (m := k0) hk)
          have HGd : Hid (goodB t ps k0 k = (!fatB t ps k0 k && !win t ps k0 false k)) := Lib.hid rfl
          have cF : Hid (∀ q : Cls (Below w4.heap.size w4), Calls Try.prog 37 #[.agg #[.slice a n c], .int .i64 (k : Int), .int .i64 (k0 : Int)] q.w fun e w' => e = .returned (.bool (fatB t ps k0 k)) ∧ Below w4.heap.size w4 w') := Lib.hid (fun q => (cF0.out k hik.2 q.w (G4.out.on q.h)).mono fun e w' h => ⟨h.1, q.h.trans (h.2.mono q.h.size)⟩)
          have cW : Hid (∀ q : Cls (Below w4.heap.size w4), Calls Try.prog 31 #[.agg #[.slice a n c], .int .i64 (k : Int), .int .i64 (k0 : Int), .bool false] q.w fun e w' => e = .returned (.bool (win t ps k0 false k)) ∧ Below w4.heap.size w4 w') := Lib.hid (fun q => (cW0.out k hik.2 q.w (G4.out.on q.h)).mono fun e w' h => ⟨h.1, q.h.trans (h.2.mono q.h.size)⟩)
          have cL : Hid (∀ q : Cls (Below w4.heap.size w4), Calls Try.prog 38 #[.agg #[.slice a n c], .int .i64 (k : Int)] q.w fun e w' => e = .returned (.string (bx [letU t k])) ∧ Below w4.heap.size w4 w') := Lib.hid (fun q => (cL0.out k (by omega) hik.2 q.w (G4.out.on q.h)).mono fun e w' h => ⟨h.1, q.h.trans (h.2.mono q.h.size)⟩)
          obtain ⟨f1, hf1⟩ : ∃ f1, fatB t ps k0 k = f1 := ⟨_, rfl⟩
          obtain ⟨f2, hf2⟩ : ∃ f2, win t ps k0 false k = f2 := ⟨_, rfl⟩
          obtain ⟨f3, hf3⟩ : ∃ f3, goodB t ps k0 k = f3 := ⟨_, rfl⟩
          rw [hf1] at cF HGd
          rw [hf2] at cW HGd
          rw [hf3] at HGd HST
          obtain ⟨d, hd⟩ : ∃ d, bx [letU t k] = d := ⟨_, rfl⟩
          have hds : d.size = 1 := by rw [← hd]; rfl
          rw [hd] at cL
          have HD := Lib.hid hd
          clear hf1 hf2 hf3 hd hk hr9
          have hS0 : Below w4.heap.size w4 wr.drew := HBw.out.trans ((Below.refl _ _).drew.mono HBw.out.size)
          have hnc : Nonempty (Cls (Below w4.heap.size w4)) := ⟨⟨_, hS0⟩⟩
          have hm1 : ∀ q : Cls (Below w4.heap.size w4), q.w.cell? ⟨W.heap.size, 0, none⟩ = some (.slice a n c) := fun q => (hR.out q.w q.h).1
          have hm2 : ∀ q : Cls (Below w4.heap.size w4), q.w.cell? ⟨b9, o9 + j, none⟩ = some (.int .i64 (k : Int)) := fun q => (hR.out q.w q.h).2
          clear hR
          cases f1 with
          | true =>
            have HR : Hid (y = bx (wlt t ps k0 (ks.take (j + 1)))) := Lib.hid (by rw [HST.out, HGd.out, HA.out]; simp)
            go_wp2_with fail
            refine wp_region_cls (Below w4.heap.size w4) (by kernel_rfl) (by kernel_rfl) hS0 ?_
            repeat (go_big_quiet_step ((first
              | (go_at_call 37; exact cls_of (cF.out _)))))
            refine wpQuiet_nil ?_
            intro _ hw'
            obtain ⟨wq, rfl⟩ := hw'
            have hq := wq.h
            go_wp2
            go_roundw
            case rel => exact ⟨j + 1, y, rfl, by go_num, by omega, HR, by omega, Lib.hid hq⟩
            case measure => simp [intOf]; omega
          | false =>
            cases f2 with
            | true =>
              have HR : Hid (y = bx (wlt t ps k0 (ks.take (j + 1)))) := Lib.hid (by rw [HST.out, HGd.out, HA.out]; simp)
              go_wp2_with fail
              refine wp_region_cls (Below w4.heap.size w4) (by kernel_rfl) (by kernel_rfl) hS0 ?_
              repeat (go_big_quiet_step ((first
                | (go_at_call 37; exact cls_of (cF.out _))
                | (go_at_call 31; exact cls_of (cW.out _)))))
              refine wpQuiet_nil ?_
              intro _ hw'
              obtain ⟨wq, rfl⟩ := hw'
              have hq := wq.h
              go_wp2
              go_roundw
              case rel => exact ⟨j + 1, y, rfl, by go_num, by omega, HR, by omega, Lib.hid hq⟩
              case measure => simp [intOf]; omega
            | false =>
              have HR : Hid (y ++ d = bx (wlt t ps k0 (ks.take (j + 1)))) := Lib.hid (tx_inj (by rw [HST.out, HGd.out, tx_bx, HA.out, ← HD.out]; simp [tx, bx]))
              have hys2 : (y ++ d).size ≤ j + 1 := by rw [ByteArray.size_append]; omega
              have hcat3 : ∀ W, (Op.stringOp .add y d).run Try.prog W = .ok (.string (y ++ d)) W := fun W => run_string_add_sum W y d (by omega)
              go_wp2_with fail
              refine wp_region_cls (Below w4.heap.size w4) (by kernel_rfl) (by kernel_rfl) hS0 ?_
              repeat (go_big_quiet_step ((first
                | (go_at_call 37; exact cls_of (cF.out _))
                | (go_at_call 31; exact cls_of (cW.out _)))))
              refine wpQuiet_nil ?_
              intro _ hw'
              obtain ⟨wq, rfl⟩ := hw'
              have hq := wq.h
              have hS1 : Below w4.heap.size w4 wq.w.drew := hq.trans ((Below.refl _ _).drew.mono hq.size)
              go_wp2_with fail
              refine wp_region_cls (Below w4.heap.size w4) (by kernel_rfl) (by kernel_rfl) hS1 ?_
              repeat (go_big_quiet_step ((first
                | (go_at_call 38; exact cls_of (cL.out _)))))
              refine wpQuiet_nil ?_
              intro _ hw'
              obtain ⟨wq2, rfl⟩ := hw'
              have hq2 := wq2.h
              go_wp2
              go_roundw
              case rel => exact ⟨j + 1, _, rfl, by go_num, by omega, HR, hys2, Lib.hid hq2⟩
              case measure => simp [intOf]; omega
        · have e : j = len := by omega
          subst e
          have HE : Hid (y = bx X) := Lib.hid (by rw [HA.out, ← HX.out, List.take_of_length_le (by rw [HLE.out]; exact Nat.le_refl _)])
          go_wp2
          go_ret2
          exact ⟨by rw [← HE.out]; rfl, G4.out.bel.trans (HBw.out.mono (Nat.le_of_lt G4.out.lt))⟩

end Go.Proofs.Ytfehfjnmkaifbaa
