/-
  GameLength: both functions answer the same.
-/
import Derived.Test.YtfehfjnmkaifbabLookL
import Derived.Test.YtfehfjnmkaifbabLength11
namespace Go.Proofs.Ytfehfjnmkaifbab
open Go.RowKit Go.MapKept
set_option linter.unusedVariables false

noncomputable def gameLengthV (t : List Nd) (n : Nat) (x m : Int) : Nat := if opoB t n x m = true then lon t (psOf t) m.toNat x.toNat else 0

set_option maxRecDepth 1000000 in
set_option maxHeartbeats 1000000 in
theorem specGameLength_any (t : List Nd) (n c : Nat) (x m : Int) (hn : n ≤ 1048576) (W : World) (a : Option Addr) (hN : Nds W.heap.size W a n c t) :
    Calls Try.prog 10 #[.agg #[.slice a n c], .int .i64 x, .int .i64 m] W fun e w' => e = .returned (.tuple #[.int .i64 ((gameLengthV t n x m : Nat) : Int), .bool (opoB t n x m)]) ∧ Below W.heap.size W w' := by
  have G1 := Lib.hid (Gv.start hN)
  have hbx := G1.out.box
  have L := Lib.hid hN.len
  have cX := Lib.hid (l11Good_any t n c x m hn _ a (G1.out.nds.mono G1.out.bel.size))
  have HV : Hid (gameLengthV t n x m = if opoB t n x m = true then lon t (psOf t) m.toNat x.toNat else 0) := Lib.hid rfl
  have HO : Hid (opoB t n x m = (gamB t n x m && opn t (psOf t) m.toNat x.toNat)) := Lib.hid rfl
  obtain ⟨q, hq⟩ : ∃ q, gamB t n x m = q := ⟨_, rfl⟩
  rw [hq] at cX HO
  clear hN
  cases q with
  | false =>
    have ho : opoB t n x m = false := by rw [HO.out]; rfl
    rw [HV.out, ho, if_neg (by simp)]
    clear HV HO ho hq
    go_enter Try.func10, Try.ntmps10
    go_wp2_with (first
      | (go_at_call 30; refine cX.out.mono ?_; rintro e w2 ⟨rfl, hb2⟩))
    go_ret2
    exact ⟨rfl, G1.out.bel.trans (hb2.mono G1.out.bel.size)⟩
  | true =>
    have cO := Lib.hid (fun V (hG : Gv W V a n c t) => l11Open_at hq W V a hG)
    obtain ⟨ps, i, k, hv, hps, rfl, hi, rfl, h1, h6⟩ := gam_yes hq
    rw [Bool.true_and] at HO
    obtain ⟨r, hr⟩ : ∃ r, opn t (psOf t) ((k : Nat) : Int).toNat ((i : Nat) : Int).toNat = r := ⟨_, rfl⟩
    rw [hr] at cO HO
    rw [HV.out, HO.out]
    clear hr hq HO HV
    cases r with
    | false =>
      rw [if_neg (by simp)]
      go_enter Try.func10, Try.ntmps10
      go_wp2_with (first
        | (go_at_call 30; refine cX.out.mono ?_; rintro e w2 ⟨rfl, hb2⟩; have G2 := Lib.hid (G1.out.on hb2); have hbx2 := G2.out.box)
        | (go_at_call 31; refine (cO.out _ G2.out).mono ?_; rintro e w3 ⟨rfl, hb3⟩; have G3 := Lib.hid (G2.out.on hb3)))
      go_ret2
      exact ⟨rfl, G3.out.bel⟩
    | true =>
      rw [if_pos rfl]
      have cW := Lib.hid (fun V (hG : Gv W V a n c t) => l11Length_any W.heap.size a n c k t ps hv L.out h6 n i (by omega) hi V (Nat.le_of_lt hG.lt) hG.nds)
      rw [hps]
      have ek : ((k : Nat) : Int).toNat = k := by omega
      have ei : ((i : Nat) : Int).toNat = i := by omega
      rw [ek, ei]
      obtain ⟨y, hy⟩ : ∃ y, lon t ps k i = y := ⟨_, rfl⟩
      rw [hy] at cW ⊢
      clear hy ek ei hps hv
      go_enter Try.func10, Try.ntmps10
      go_wp2_with (first
        | (go_at_call 30; refine cX.out.mono ?_; rintro e w2 ⟨rfl, hb2⟩; have G2 := Lib.hid (G1.out.on hb2); have hbx2 := G2.out.box)
        | (go_at_call 31; refine (cO.out _ G2.out).mono ?_; rintro e w3 ⟨rfl, hb3⟩; have G3 := Lib.hid (G2.out.on hb3); have hbx3 := G3.out.box)
        | (go_at_call 32; refine (cW.out _ G3.out).mono ?_; rintro e w4 ⟨rfl, hb4⟩; have G4 := Lib.hid (G3.out.on hb4)))
      go_ret2
      exact ⟨rfl, G4.out.bel⟩

set_option maxRecDepth 1000000 in
set_option maxHeartbeats 1000000 in
theorem implGameLength_any (t : List Nd) (n c : Nat) (x m : Int) (hn : n ≤ 1048576) (W : World) (a : Option Addr) (hN : Nds W.heap.size W a n c t) :
    Calls Try.prog 12 #[.agg #[.slice a n c], .int .i64 x, .int .i64 m] W fun e w' => e = .returned (.tuple #[.int .i64 ((gameLengthV t n x m : Nat) : Int), .bool (opoB t n x m)]) ∧ Below W.heap.size W w' := by
  have G1 := Lib.hid (Gv.start hN)
  have hbx := G1.out.box
  have L := Lib.hid hN.len
  have cX := Lib.hid (isOpenOf_any t n c x m hn _ a (G1.out.nds.mono G1.out.bel.size))
  have HV : Hid (gameLengthV t n x m = if opoB t n x m = true then lon t (psOf t) m.toNat x.toNat else 0) := Lib.hid rfl
  obtain ⟨q, hq⟩ : ∃ q, opoB t n x m = q := ⟨_, rfl⟩
  have HQ := Lib.hid hq
  rw [hq] at cX HV
  rw [HV.out, hq]
  clear hN hq HV
  cases q with
  | false =>
    rw [if_neg (by simp)]
    go_enter Try.func12, Try.ntmps12
    go_wp2_with (first
      | (go_at_call 34; refine cX.out.mono ?_; rintro e w2 ⟨rfl, hb2⟩))
    go_ret2
    exact ⟨rfl, G1.out.bel.trans (hb2.mono G1.out.bel.size)⟩
  | true =>
    rw [if_pos rfl]
    have hq := HQ.out
    unfold opoB at hq
    rw [Bool.and_eq_true] at hq
    obtain ⟨ps, i, k, hv, hps, rfl, hi, rfl, h1, h6⟩ := gam_yes hq.1
    have hop := hq.2
    rw [hps] at hop ⊢
    have ek : ((k : Nat) : Int).toNat = k := by omega
    have ei : ((i : Nat) : Int).toNat = i := by omega
    rw [ek, ei] at hop ⊢
    have hfat := opn_not hop
    have h481 := hv.size
    have hsm := pro_small (ps := ps) (m := k) (oth := false) hv.tells (show i < t.length by have := L.out; omega)
    have HW : Hid (lon t ps k i = (pro t ps k false i).lts) := Lib.hid (by
      symm
      exact pro_lts _ i (Nat.le_refl _))
    rw [HW.out]
    have cL := Lib.hid (fun V => los.losingOn_any a n c k (pro t ps k false) V)
    have cA : Hid (∀ (b : Nat) (V : World), W.heap.size ≤ b → Gv W V a n c t → KnowIs V b n (pro t ps k false) (fun _ => false) → Calls Try.prog 36 #[.agg #[.slice a n c, .iface 80 (.agg #[.slice a n c, .int .i64 (k : Int)]), .map (some b)], .int .i64 (i : Int)] V fun e V' => e = .returned (proV (pro t ps k false i)) ∧ Below W.heap.size W V') := Lib.hid (fun b V hb hG hK => (los.at_any W.heap.size a n c k b t ps hv L.out h6 hb n i (by omega) hi V (fun _ => false) hG.nds hK).mono fun e V' h => ⟨h.1, by
      obtain ⟨_, _, _, _, hg⟩ := h
      exact hG.bel.grown hg (Nat.le_of_lt hG.lt) (fun q e => by injection e with e; omega)⟩)
    obtain ⟨p, hp⟩ : ∃ p, pro t ps k false i = p := ⟨_, rfl⟩
    rw [hp] at cA ⊢
    clear HW HQ hp hq hps hop hv hsm ek ei hfat
    obtain ⟨p1, p2, p3, p4⟩ := p
    unfold proV at cA
    have G2 := G1
    go_enter Try.func12, Try.ntmps12
    clear G2
    go_wp2_with fail
    refine cX.out.mono ?_
    rintro e w2 ⟨rfl, hb2⟩
    have G2 := Lib.hid (G1.out.on hb2)
    have hbx2 := G2.out.box
    go_wp2_with fail
    refine (cL.out _).mono ?_
    rintro e w3 ⟨b, rfl, hk3, hbb, hb3⟩
    have G3 := Lib.hid (G2.out.on hb3)
    have hsz2 := G2.out.lt
    have cAt := Lib.hid (cA.out b w3 (by omega) G3.out hk3)
    clear hk3 hbb hb3
    unfold los.olv
    have hfd : ∀ W : World, (Instr.field 56 (.agg #[.bool p1, .int .i64 (p2 : Int), .int .i64 (p3 : Int), .int .i64 (p4 : Int)]) 1).run Try.prog W = .ok (.int .i64 (p2 : Int)) W := fun W => by kernel_rfl
    go_wp2_with fail
    refine cAt.out.mono ?_
    rintro e w4 ⟨rfl, hb4⟩
    go_wp2_with fail
    go_ret2
    exact ⟨rfl, hb4⟩

theorem agreeGameLength (t : List Nd) (n : Nat) (x0 x1 : Int) (hn : n ≤ 1048576) (hx0 : -9223372036854775808 ≤ x0 ∧ x0 ≤ 9223372036854775807) (hx1 : -9223372036854775808 ≤ x1 ∧ x1 ≤ 9223372036854775807) : ∃ (v : Int) (ok : Bool),
    (∀ (W : World) (a : Option Addr), Nds W.heap.size W a n n t → Calls Try.prog 10 #[.agg #[.slice a n n], .int .i64 x0, .int .i64 x1] W fun e w' => e = .returned (.tuple #[.int .i64 v, .bool ok]) ∧ Below W.heap.size W w') ∧
    (∀ (W : World) (a : Option Addr), Nds W.heap.size W a n n t → Calls Try.prog 12 #[.agg #[.slice a n n], .int .i64 x0, .int .i64 x1] W fun e w' => e = .returned (.tuple #[.int .i64 v, .bool ok]) ∧ Below W.heap.size W w') :=
  ⟨_, _, fun W a hN => specGameLength_any t n n x0 x1 hn W a hN, fun W a hN => implGameLength_any t n n x0 x1 hn W a hN⟩

end Go.Proofs.Ytfehfjnmkaifbab
