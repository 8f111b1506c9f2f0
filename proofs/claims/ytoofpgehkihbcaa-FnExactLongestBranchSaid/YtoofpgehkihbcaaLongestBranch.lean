/-
  The first branch with the most letters: both functions.
-/
import Derived.Test.YtoofpgehkihbcaaGvP
namespace Go.Proofs.Ytoofpgehkihbcaa
open Go.RowKit
set_option linter.unusedVariables false

def brLen (p : List Br) (i : Nat) : Nat := ((p[i]?).map fun d => d.l.length).getD 0
theorem brLen_at {p : List Br} {i : Nat} {l : ByteArray} {q : Int} {e : Bool} (h : p[i]? = some ⟨tx l, q, e⟩) : brLen p i = l.size := by
  unfold brLen
  rw [h]
  exact tx_len l

/-- the first one with the most letters among the first k -/
def lgB (p : List Br) : Nat → Nat
  | 0 => 0
  | k + 1 => if brLen p (lgB p k) < brLen p k then k else lgB p k
theorem lgB_lt (p : List Br) {n : Nat} (hn : 0 < n) : ∀ k, k ≤ n → lgB p k < n
  | 0, _ => hn
  | k + 1, h => by
    have := lgB_lt p hn k (by omega)
    unfold lgB
    split <;> omega
theorem lgB_hit {p : List Br} {k : Nat} (h : brLen p (lgB p k) < brLen p k) : lgB p (k + 1) = k := if_pos h
theorem lgB_miss {p : List Br} {k : Nat} (h : ¬ brLen p (lgB p k) < brLen p k) : lgB p (k + 1) = lgB p k := if_neg h
theorem lgB_one (p : List Br) : lgB p 1 = 0 := by
  unfold lgB
  split <;> rfl

set_option maxRecDepth 1000000 in
set_option maxHeartbeats 2000000 in
theorem agreeLongestBranch (t : List Br) (n : Nat) (hn : n ≤ 1048576) : ∃ (v : Int) (ok : Bool),
    (∀ (W : World) (a : Option Addr), Brs W.heap.size W a n n t → Calls Try.prog 20 #[.agg #[.slice a n n]] W fun e w' => e = .returned (.tuple #[.int .i64 v, .bool ok]) ∧ Below W.heap.size W w') ∧
    (∀ (W : World) (a : Option Addr), Brs W.heap.size W a n n t → Calls Try.prog 21 #[.agg #[.slice a n n]] W fun e w' => e = .returned (.tuple #[.int .i64 v, .bool ok]) ∧ Below W.heap.size W w') := by
  obtain ⟨ok, hok⟩ : ∃ ok, pOk t = ok := ⟨_, rfl⟩
  have HOK := Lib.hid hok
  obtain ⟨m, hm⟩ : ∃ m, (pT t).length = m := ⟨_, rfl⟩
  have cO := Lib.hid (fun (W w : World) (a : Option Addr) (G : GvP W w a n n t) => l4Open_g G hn)
  have cI := Lib.hid (fun (W w : World) (a : Option Addr) (G : GvP W w a n n t) => isPressed_g G hn)
  rw [hok] at cO cI
  rw [hm] at cO
  clear hok hm
  cases ok with
  | false =>
    refine ⟨0, false, fun W a hN => ?_, fun W a hN => ?_⟩
    · have G1 := Lib.hid (GvP.start hN)
      have hbx := G1.out.box
      clear hN
      go_enter Try.func20, Try.ntmps20
      go_wp2_with fail
      refine (cO.out _ _ _ G1.out).mono ?_
      rintro e w2 ⟨a2, c2, rfl, _, hb2⟩
      have G2 := Lib.hid ((G1.out.on hb2).on ((Below.refl _ _).alloc (Nat.le_refl _) (.cells #[.slice a2 m c2] 44)))
      clear hbx hb2
      go_wp2_with fail
      go_ret2
      exact ⟨rfl, G2.out.bel⟩
    · have G1 := Lib.hid (GvP.start hN)
      have hbx := G1.out.box
      clear hN
      go_enter Try.func21, Try.ntmps21
      go_wp2_with fail
      refine (cI.out _ _ _ G1.out).mono ?_
      rintro e w2 ⟨rfl, hb2⟩
      have G2 := Lib.hid (G1.out.on hb2)
      clear hbx hb2
      go_wp2_with fail
      go_ret2
      exact ⟨rfl, G2.out.bel⟩
  | true =>
    have hp := (pWds_is HOK.out).len
    refine ⟨(lgB t t.length : Nat), true, fun W a hN => ?_, fun W a hN => ?_⟩
    · have G1 := Lib.hid (GvP.start hN)
      have hbx := G1.out.box
      rw [hN.len] at hp ⊢
      obtain ⟨hp1, hp2⟩ := hp
      clear hN
      go_enter Try.func20, Try.ntmps20
      go_wp2_with fail
      refine (cO.out _ _ _ G1.out).mono ?_
      rintro e w2 ⟨a2, c2, rfl, _, hb2⟩
      have G2 := Lib.hid ((G1.out.on hb2).on ((Below.refl _ _).alloc (Nat.le_refl _) (.cells #[.slice a2 m c2] 44)))
      clear hbx hb2
      go_wp2
      go_loopw [6, 7] (fun q i wr => ∃ k : Nat, 1 ≤ k ∧ k ≤ n ∧ i = .int .i64 k ∧ q = .int .i64 (lgB t k : Nat) ∧ Hid (GvP W wr a n n t)) (fun _ i _ => n - (intOf i).toNat)
      case atStart => exact ⟨1, Nat.le_refl _, hp1, rfl, by rw [lgB_one]; rfl, G2⟩
      case round =>
        obtain ⟨k, hk1, hk, rfl, rfl, HG⟩ := hrel
        have hbx := HG.out.box
        by_cases hlt : k < n
        · have hgl := lgB_lt t (by omega) k hk
          obtain ⟨b, o, l1, q1, e1, rfl, hb1, hd1, hl1, hq1, hc1, _, _⟩ := HG.out.brs.elem k hlt
          obtain ⟨b', o', l2, q2, e2, hab, hb2, hd2, hl2, hq2, hc2, _, _⟩ := HG.out.brs.elem (lgB t k) hgl
          simp only [Option.some.injEq, Addr.mk.injEq, and_true] at hab
          obtain ⟨rfl, rfl⟩ := hab
          have L1 := brLen_at hd1
          have L2 := brLen_at hd2
          have HH : Hid (lgB t (k + 1) = if l2.size < l1.size then k else lgB t k) := Lib.hid (by rw [← L1, ← L2]; rfl)
          obtain ⟨z, hz⟩ : ∃ z, lgB t k = z := ⟨_, rfl⟩
          rw [hz] at hgl hc2 HH ⊢
          have hi0 : (0 : Int) ≤ (k : Int) := by omega
          have hi1 : (k : Int) < (n : Int) := by omega
          have hj0 : (0 : Int) ≤ (z : Int) := by omega
          have hj1 : (z : Int) < (n : Int) := by omega
          clear hd1 hd2 L1 L2 hz hq1 hq2
          by_cases hlen : l2.size < l1.size
          · have hli : (l2.size : Int) < (l1.size : Int) := by omega
            have HE := Lib.hid (HH.out.trans (if_pos hlen))
            go_wp2
            go_quiet (fail)
            go_wp2
            go_roundw
            case rel => exact ⟨k + 1, by omega, by omega, by go_num, by rw [HE.out], Lib.hid (HG.out.on (below_drewN (Below.refl _ _) _))⟩
            case measure => simp [intOf]; omega
          · have hli : ¬ (l2.size : Int) < (l1.size : Int) := by omega
            have HE := Lib.hid (HH.out.trans (if_neg hlen))
            go_wp2
            go_quiet (fail)
            go_wp2
            go_roundw
            case rel => exact ⟨k + 1, by omega, by omega, by go_num, by rw [HE.out], Lib.hid (HG.out.on (below_drewN (Below.refl _ _) _))⟩
            case measure => simp [intOf]; omega
        · have e : k = n := by omega
          subst e
          go_wp2
          go_ret2
          exact ⟨rfl, HG.out.bel⟩
    · have G1 := Lib.hid (GvP.start hN)
      have hbx := G1.out.box
      rw [hN.len] at hp ⊢
      obtain ⟨hp1, hp2⟩ := hp
      clear hN
      go_enter Try.func21, Try.ntmps21
      go_wp2_with fail
      refine (cI.out _ _ _ G1.out).mono ?_
      rintro e w2 ⟨rfl, hb2⟩
      have G2 := Lib.hid (G1.out.on hb2)
      clear hbx hb2
      have hbx := G2.out.box
      go_wp2
      clear hbx
      go_loopw [4, 13] (fun q i wr => ∃ k : Nat, k ≤ n ∧ i = .int .i64 k ∧ q = .int .i64 (lgB t k : Nat) ∧ Hid (GvP W wr a n n t)) (fun _ i _ => n - (intOf i).toNat)
      case atStart => exact ⟨0, Nat.zero_le _, rfl, rfl, G2⟩
      case round =>
        obtain ⟨k, hk, rfl, rfl, HG⟩ := hrel
        by_cases hlt : k < n
        · have hgl := lgB_lt t (by omega) k hk
          obtain ⟨b, o, l1, q1, e1, rfl, hb1, hd1, hl1, hq1, hc1, hc1', hc1''⟩ := HG.out.brs.elem k hlt
          have HGa : Hid (GvP W (wr.alloc (.cells #[.string l1, .int .i64 q1, .bool e1] 52)) (some ⟨b, o, none⟩) n n t) := Lib.hid (HG.out.on ((Below.refl _ _).alloc (Nat.le_refl _) _))
          obtain ⟨b', o', l2, q2, e2, hab, hb2, hd2, hl2, hq2, hc2, _, _⟩ := HGa.out.brs.elem (lgB t k) hgl
          simp only [Option.some.injEq, Addr.mk.injEq, and_true] at hab
          obtain ⟨rfl, rfl⟩ := hab
          have hbx := HGa.out.box
          have L1 := brLen_at hd1
          have L2 := brLen_at hd2
          have HH : Hid (lgB t (k + 1) = if l2.size < l1.size then k else lgB t k) := Lib.hid (by rw [← L1, ← L2]; rfl)
          obtain ⟨z, hz⟩ : ∃ z, lgB t k = z := ⟨_, rfl⟩
          rw [hz] at hgl hc2 HH ⊢
          have hi0 : (0 : Int) ≤ (k : Int) := by omega
          have hi1 : (k : Int) < (n : Int) := by omega
          have hj0 : (0 : Int) ≤ (z : Int) := by omega
          have hj1 : (z : Int) < (n : Int) := by omega
          clear hd1 hd2 L1 L2 hz hq1 hq2
          by_cases hlen : l2.size < l1.size
          · have hli : (l2.size : Int) < (l1.size : Int) := by omega
            have HE := Lib.hid (HH.out.trans (if_pos hlen))
            go_wp2
            go_quiet (fail)
            go_wp2
            go_roundw
            case rel => exact ⟨k + 1, by omega, by go_num, by rw [HE.out], Lib.hid (HGa.out.on (below_drewN (Below.refl _ _) _))⟩
            case measure => simp [intOf]; omega
          · have hli : ¬ (l2.size : Int) < (l1.size : Int) := by omega
            have HE := Lib.hid (HH.out.trans (if_neg hlen))
            go_wp2
            go_quiet (fail)
            go_wp2
            go_roundw
            case rel => exact ⟨k + 1, by omega, by go_num, by rw [HE.out], Lib.hid (HGa.out.on (below_drewN (Below.refl _ _) _))⟩
            case measure => simp [intOf]; omega
        · have e : k = n := by omega
          subst e
          go_wp2
          go_ret2
          exact ⟨rfl, HG.out.bel⟩

end Go.Proofs.Ytoofpgehkihbcaa
