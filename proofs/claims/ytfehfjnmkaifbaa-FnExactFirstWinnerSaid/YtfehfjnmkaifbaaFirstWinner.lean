/-
  FirstWinner: both functions answer the same.
-/
import Derived.Test.YtfehfjnmkaifbaaGameWins
namespace Go.Proofs.Ytfehfjnmkaifbaa
open Go.RowKit Go.MapKept
set_option linter.unusedVariables false

/-- who wins from the empty text -/
noncomputable def fstV (t : List Nd) (n : Nat) (m : Int) : Int := if gamB t n 0 m = true then (if win t (psOf t) m.toNat false 0 = true then 0 else 1) else 0

theorem opo_root (t : List Nd) (n : Nat) (m : Int) : opoB t n 0 m = gamB t n 0 m := by
  unfold opoB
  cases h : gamB t n 0 m with
  | false => rfl
  | true =>
    obtain ⟨ps, i, k, hv, hps, _, _, rfl, h1, _⟩ := gam_yes h
    rw [hps, show ((k : Nat) : Int).toNat = k by omega, show (0 : Int).toNat = 0 from rfl, opn_root hv.tells h1]
    rfl

theorem win_root {t : List Nd} {n : Nat} {m : Int} (h : gamB t n 0 m = true) : gameWinsV t n 0 m = win t (psOf t) m.toNat false 0 := by
  unfold gameWinsV
  rw [opo_root, if_pos h]
  rfl

/-- the reference's winner -/
theorem l11First_any (B : Nat) (a : Option Addr) (n c k : Nat) (t : List Nd) (ps : List Txt) (hv : Valid t ps) (hl : t.length = n) (h6 : k ≤ 6) (h0 : 0 < n) (w : World) (hB : B ≤ w.heap.size) (hN : Nds B w a n c t) :
    Calls Try.prog 41 #[.agg #[.slice a n c], .int .i64 (k : Int)] w fun e w' => e = .returned (.int .i64 (if win t ps k false 0 = true then 0 else 1)) ∧ Below w.heap.size w w' := by
  have G1 := Lib.hid (Gv.start (hN.mono hB))
  have hbx := G1.out.box
  have cW := Lib.hid (l11Wins_any w.heap.size a n c k t ps false hv hl h6 n 0 (by omega) h0 _ (Nat.le_of_lt G1.out.lt) G1.out.nds)
  obtain ⟨y, hy⟩ : ∃ y, win t ps k false 0 = y := ⟨_, rfl⟩
  rw [hy] at cW ⊢
  clear hy hv
  cases y with
  | false =>
    go_enter Try.func41, Try.ntmps41
    go_wp2_with (first
      | (go_at_call 31; refine cW.out.mono ?_; rintro e w2 ⟨rfl, hb2⟩))
    go_ret
    exact ⟨rfl, G1.out.bel.trans (hb2.mono G1.out.bel.size)⟩
  | true =>
    go_enter Try.func41, Try.ntmps41
    go_wp2_with (first
      | (go_at_call 31; refine cW.out.mono ?_; rintro e w2 ⟨rfl, hb2⟩))
    go_ret
    exact ⟨rfl, G1.out.bel.trans (hb2.mono G1.out.bel.size)⟩

set_option maxRecDepth 1000000 in
set_option maxHeartbeats 1000000 in
theorem specFirstWinner_any (t : List Nd) (n c : Nat) (m : Int) (hn : n ≤ 1048576) (W : World) (a : Option Addr) (hN : Nds W.heap.size W a n c t) :
    Calls Try.prog 20 #[.agg #[.slice a n c], .int .i64 m] W fun e w' => e = .returned (.tuple #[.int .i64 (fstV t n m), .bool (gamB t n 0 m)]) ∧ Below W.heap.size W w' := by
  have G1 := Lib.hid (Gv.start hN)
  have hbx := G1.out.box
  have L := Lib.hid hN.len
  have cX := Lib.hid (l11Good_any t n c 0 m hn _ a (G1.out.nds.mono G1.out.bel.size))
  have HV : Hid (fstV t n m = if gamB t n 0 m = true then (if win t (psOf t) m.toNat false 0 = true then 0 else 1) else 0) := Lib.hid rfl
  obtain ⟨q, hq⟩ : ∃ q, gamB t n 0 m = q := ⟨_, rfl⟩
  rw [hq] at cX HV
  rw [HV.out, hq]
  clear hN HV
  cases q with
  | false =>
    rw [if_neg (by simp)]
    clear hq
    go_enter Try.func20, Try.ntmps20
    go_wp2_with (first
      | (go_at_call 25; refine cX.out.mono ?_; rintro e w2 ⟨rfl, hb2⟩))
    go_ret2
    exact ⟨rfl, G1.out.bel.trans (hb2.mono G1.out.bel.size)⟩
  | true =>
    rw [if_pos rfl]
    obtain ⟨ps, i, k, hv, hps, hi0, hi, rfl, h1, h6⟩ := gam_yes hq
    rw [hps, show ((k : Nat) : Int).toNat = k by omega]
    have cW := Lib.hid (fun V (hG : Gv W V a n c t) => l11First_any W.heap.size a n c k t ps hv L.out h6 (by omega) V (Nat.le_of_lt hG.lt) hG.nds)
    obtain ⟨y, hy⟩ : ∃ y : Int, (if win t ps k false 0 = true then 0 else 1) = y := ⟨_, rfl⟩
    rw [hy] at cW ⊢
    clear hy hq hv hps hi0 hi
    go_enter Try.func20, Try.ntmps20
    go_wp2_with (first
      | (go_at_call 25; refine cX.out.mono ?_; rintro e w2 ⟨rfl, hb2⟩; have G2 := Lib.hid (G1.out.on hb2); have hbx2 := G2.out.box)
      | (go_at_call 41; refine (cW.out _ G2.out).mono ?_; rintro e w3 ⟨rfl, hb3⟩; have G3 := Lib.hid (G2.out.on hb3)))
    go_ret2
    exact ⟨rfl, G3.out.bel⟩

set_option maxRecDepth 1000000 in
set_option maxHeartbeats 1000000 in
theorem implFirstWinner_any (t : List Nd) (n c : Nat) (m : Int) (hn : n ≤ 1048576) (W : World) (a : Option Addr) (hN : Nds W.heap.size W a n c t) :
    Calls Try.prog 21 #[.agg #[.slice a n c], .int .i64 m] W fun e w' => e = .returned (.tuple #[.int .i64 (fstV t n m), .bool (gamB t n 0 m)]) ∧ Below W.heap.size W w' := by
  have G1 := Lib.hid (Gv.start hN)
  have hbx := G1.out.box
  have cX := Lib.hid (implGameWins_any t n c 0 m hn _ a (G1.out.nds.mono G1.out.bel.size))
  have HV : Hid (fstV t n m = if gamB t n 0 m = true then (if win t (psOf t) m.toNat false 0 = true then 0 else 1) else 0) := Lib.hid rfl
  rw [opo_root] at cX
  obtain ⟨q, hq⟩ : ∃ q, gamB t n 0 m = q := ⟨_, rfl⟩
  have HW := fun h : gamB t n 0 m = true => win_root h
  rw [hq] at cX HV
  rw [HV.out, hq]
  clear hN HV
  cases q with
  | false =>
    rw [if_neg (by simp)]
    clear hq HW
    obtain ⟨y, hy⟩ : ∃ y, gameWinsV t n 0 m = y := ⟨_, rfl⟩
    rw [hy] at cX
    clear hy
    go_enter Try.func21, Try.ntmps21
    go_wp2_with (first
      | (go_at_call 15; refine cX.out.mono ?_; rintro e w2 ⟨rfl, hb2⟩))
    go_ret2
    exact ⟨rfl, G1.out.bel.trans (hb2.mono G1.out.bel.size)⟩
  | true =>
    rw [if_pos rfl]
    have hw := HW hq
    rw [hw] at cX
    obtain ⟨y, hy⟩ : ∃ y, win t (psOf t) m.toNat false 0 = y := ⟨_, rfl⟩
    rw [hy] at cX ⊢
    clear hy hw HW hq
    cases y with
    | true =>
      go_enter Try.func21, Try.ntmps21
      go_wp2_with (first
        | (go_at_call 15; refine cX.out.mono ?_; rintro e w2 ⟨rfl, hb2⟩))
      go_ret2
      exact ⟨rfl, G1.out.bel.trans (hb2.mono G1.out.bel.size)⟩
    | false =>
      go_enter Try.func21, Try.ntmps21
      go_wp2_with (first
        | (go_at_call 15; refine cX.out.mono ?_; rintro e w2 ⟨rfl, hb2⟩))
      go_ret2
      exact ⟨rfl, G1.out.bel.trans (hb2.mono G1.out.bel.size)⟩

theorem agreeFirstWinner (t : List Nd) (n : Nat) (x0 : Int) (hn : n ≤ 1048576) (hx0 : -9223372036854775808 ≤ x0 ∧ x0 ≤ 9223372036854775807) : ∃ (v : Int) (ok : Bool),
    (∀ (W : World) (a : Option Addr), Nds W.heap.size W a n n t → Calls Try.prog 20 #[.agg #[.slice a n n], .int .i64 x0] W fun e w' => e = .returned (.tuple #[.int .i64 v, .bool ok]) ∧ Below W.heap.size W w') ∧
    (∀ (W : World) (a : Option Addr), Nds W.heap.size W a n n t → Calls Try.prog 21 #[.agg #[.slice a n n], .int .i64 x0] W fun e w' => e = .returned (.tuple #[.int .i64 v, .bool ok]) ∧ Below W.heap.size W w') :=
  ⟨_, _, fun W a hN => specFirstWinner_any t n n x0 hn W a hN, fun W a hN => implFirstWinner_any t n n x0 hn W a hN⟩

end Go.Proofs.Ytfehfjnmkaifbaa
