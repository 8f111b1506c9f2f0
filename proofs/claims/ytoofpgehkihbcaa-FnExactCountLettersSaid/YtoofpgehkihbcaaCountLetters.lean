/-
  The letters of all branches: both functions.
-/
import Derived.Test.YtoofpgehkihbcaaGvP
namespace Go.Proofs.Ytoofpgehkihbcaa
open Go.RowKit
set_option linter.unusedVariables false

theorem pT_ltr {p : List Br} (h : pOk p = true) : (pT p).length = prl.ltr p + 1 := by
  have hP := pWds_is h
  rw [pT_yes h]
  unfold made
  rw [mkT_len, ← prl.ltr_prw (pres_pre (pWds p)), ← hP.eq]

theorem ltr_small : ∀ {p : List Br}, (∀ d ∈ p, d.l.length ≤ 12) → prl.ltr p ≤ 12 * p.length
  | [], _ => by simp [prl.ltr]
  | d :: p, h => by
    have h1 := h d (List.mem_cons_self ..)
    have h2 := ltr_small (p := p) fun q hq => h q (List.mem_cons_of_mem _ hq)
    rw [prl.ltr, List.length_cons]
    omega

set_option maxRecDepth 1000000 in
set_option maxHeartbeats 2000000 in
theorem agreeCountLetters (t : List Br) (n : Nat) (hn : n ≤ 1048576) : ∃ (v : Int) (ok : Bool),
    (∀ (W : World) (a : Option Addr), Brs W.heap.size W a n n t → Calls Try.prog 22 #[.agg #[.slice a n n]] W fun e w' => e = .returned (.tuple #[.int .i64 v, .bool ok]) ∧ Below W.heap.size W w') ∧
    (∀ (W : World) (a : Option Addr), Brs W.heap.size W a n n t → Calls Try.prog 23 #[.agg #[.slice a n n]] W fun e w' => e = .returned (.tuple #[.int .i64 v, .bool ok]) ∧ Below W.heap.size W w') := by
  obtain ⟨ok, hok⟩ : ∃ ok, pOk t = ok := ⟨_, rfl⟩
  have HOK := Lib.hid hok
  obtain ⟨m, hm⟩ : ∃ m, (pT t).length = m := ⟨_, rfl⟩
  have HM := Lib.hid hm
  have cO := Lib.hid (fun (W w : World) (a : Option Addr) (G : GvP W w a n n t) => l4Open_g G hn)
  have cI := Lib.hid (fun (W w : World) (a : Option Addr) (G : GvP W w a n n t) => isPressed_g G hn)
  rw [hok] at cO cI
  rw [hm] at cO
  clear hok hm
  cases ok with
  | false =>
    refine ⟨0, false, fun W a hN => ?_, fun W a hN => ?_⟩
    · have G1 := Lib.hid (GvP.start hN)
      have hbx := G1.out.box
      clear hN
      go_enter Try.func22, Try.ntmps22
      go_wp2_with fail
      refine (cO.out _ _ _ G1.out).mono ?_
      rintro e w2 ⟨a2, c2, rfl, _, hb2⟩
      have G2 := Lib.hid ((G1.out.on hb2).on ((Below.refl _ _).alloc (Nat.le_refl _) (.cells #[.slice a2 m c2] 44)))
      clear hbx hb2
      go_wp2_with fail
      go_ret2
      exact ⟨rfl, G2.out.bel⟩
    · have G1 := Lib.hid (GvP.start hN)
      have hbx := G1.out.box
      clear hN
      go_enter Try.func23, Try.ntmps23
      go_wp2_with fail
      refine (cI.out _ _ _ G1.out).mono ?_
      rintro e w2 ⟨rfl, hb2⟩
      have G2 := Lib.hid (G1.out.on hb2)
      clear hbx hb2
      go_wp2_with fail
      go_ret2
      exact ⟨rfl, G2.out.bel⟩
  | true =>
    have hP := pWds_is HOK.out
    have hp := hP.len
    have hlm : m = prl.ltr t + 1 := HM.out.symm.trans (pT_ltr HOK.out)
    have hsm : prl.ltr t ≤ 12 * t.length := ltr_small fun d hd => by
      obtain ⟨i, hi, e⟩ := List.mem_iff_getElem.1 hd
      have hdi : t[i]? = some d := by rw [List.getElem?_eq_getElem hi, e]
      by_cases h0 : i = 0
      · rw [h0] at hdi
        have h2 : t = prw (pWds t) := hP.eq
        rw [h2] at hdi
        have h3 : (prw (pWds t))[0]? = some (brOf (stl (pWds t)) (fun x => decide (x ∈ pWds t)) []) := brs_at (stl_sta (pWds t)).zero
        rw [h3] at hdi
        rw [← Option.some.inj hdi, brOf_root]
        simp
      · exact (hP.tells.1.step i d (by omega) hi hdi).1.1
    have HSm := Lib.hid hsm
    refine ⟨(prl.ltr t : Nat), true, fun W a hN => ?_, fun W a hN => ?_⟩
    · have G1 := Lib.hid (GvP.start hN)
      have hbx := G1.out.box
      have hmb : m ≤ 1000 := by omega
      have hm1 : 1 ≤ m := by omega
      have HE : Hid (((m : Int) - 1) = ((prl.ltr t : Nat) : Int)) := Lib.hid (by omega)
      obtain ⟨z, hz⟩ : ∃ z, prl.ltr t = z := ⟨_, rfl⟩
      rw [hz] at HE ⊢
      clear hN hlm hsm hp hz
      go_enter Try.func22, Try.ntmps22
      go_wp2_with fail
      refine (cO.out _ _ _ G1.out).mono ?_
      rintro e w2 ⟨a2, c2, rfl, _, hb2⟩
      have G2 := Lib.hid ((G1.out.on hb2).on ((Below.refl _ _).alloc (Nat.le_refl _) (.cells #[.slice a2 m c2] 44)))
      clear hbx hb2
      go_wp2
      go_ret2
      exact ⟨ret_ib HE.out rfl, G2.out.bel⟩
    · have G1 := Lib.hid (GvP.start hN)
      have hbx := G1.out.box
      have hl := hN.len
      rw [hl] at hp
      obtain ⟨hp1, hp2⟩ := hp
      have HL := Lib.hid hl
      clear hN hlm hsm hl
      go_enter Try.func23, Try.ntmps23
      go_wp2_with fail
      refine (cI.out _ _ _ G1.out).mono ?_
      rintro e w2 ⟨rfl, hb2⟩
      have G2 := Lib.hid (G1.out.on hb2)
      clear hbx hb2
      have hbx := G2.out.box
      go_wp2
      clear hbx
      go_loopw [4, 13] (fun q i wr => ∃ (k z : Nat), k ≤ n ∧ i = .int .i64 k ∧ q = .int .i64 (z : Nat) ∧ z ≤ 1000 ∧ Hid (prl.ltr (t.take k) = z) ∧ Hid (GvP W wr a n n t)) (fun _ i _ => n - (intOf i).toNat)
      case atStart => exact ⟨0, 0, Nat.zero_le _, rfl, rfl, by omega, Lib.hid (by simp [prl.ltr]), G2⟩
      case round =>
        obtain ⟨k, z, hk, rfl, rfl, hz, HZ, HG⟩ := hrel
        by_cases hlt : k < n
        · obtain ⟨b, o, l1, q1, e1, rfl, hb1, hd1, hl1, hq1, hc1, hc1', hc1''⟩ := HG.out.brs.elem k hlt
          have HGa : Hid (GvP W (wr.alloc (.cells #[.string l1, .int .i64 q1, .bool e1] 52)) (some ⟨b, o, none⟩) n n t) := Lib.hid (HG.out.on ((Below.refl _ _).alloc (Nat.le_refl _) _))
          have hsu : prl.ltr (t.take (k + 1)) = z + l1.size := by rw [prl.ltr_succ hd1, HZ.out]; exact congrArg (z + ·) (tx_len l1)
          have hle : prl.ltr (t.take (k + 1)) ≤ 972 := by
            have h1 : prl.ltr (t.take (k + 1)) + prl.ltr (t.drop (k + 1)) = prl.ltr t := by rw [← prl.ltr_app, List.take_append_drop]
            have h2 := HSm.out
            rw [HL.out] at h2
            omega
          rw [hsu] at hle
          have HS := Lib.hid hsu
          have hi0 : (0 : Int) ≤ (k : Int) := by omega
          have hi1 : (k : Int) < (n : Int) := by omega
          clear hd1 hsu hq1
          go_wp2
          go_roundw
          case rel => exact ⟨k + 1, z + l1.size, by omega, by go_num, by go_num, by omega, HS, HGa⟩
          case measure => simp [intOf]; omega
        · have HF : Hid (z = prl.ltr t) := Lib.hid (by rw [← HZ.out, List.take_of_length_le (by rw [HL.out]; omega)])
          go_wp2
          go_ret2
          exact ⟨ret_ib (by rw [HF.out]) rfl, HG.out.bel⟩

end Go.Proofs.Ytoofpgehkihbcaa
