/-
  The chance that a descent comes to a word: the reference's helper.
-/
import Derived.Test.YthjafoacnfgjhacChs
import Derived.Test.YthjafoacnfgjhacL2NodeS
import Derived.Test.YthjafoacnfgjhacGf
import Derived.Test.YthjafoacnfgjhacWordS
import Derived.Deep.RegionHeld3
namespace Go.Proofs.Ythjafoacnfgjhac
open Go.RowKit
set_option linter.unusedVariables false
set_option linter.unusedSimpArgs false

/-- the chance that a descent comes to a text -/
def DscIs (t : List Nd) (ps : List Txt) (x : Txt) (y : Nat × Nat) : Prop :=
  (∀ j : Nat, ps[j]? = some x → enI t j = true → y = (1, wqi t (j : Int))) ∧ ((∀ j : Nat, ps[j]? = some x → enI t j = false) → y = (0, 1))
theorem dsc_ex {t : List Nd} {ps : List Txt} (hv : Valid t ps) (x : Txt) : ∃ y, DscIs t ps x y := by
  by_cases h : ∃ j : Nat, ps[j]? = some x ∧ enI t j = true
  · obtain ⟨j, h1, h2⟩ := h
    refine ⟨(1, wqi t (j : Int)), fun k k1 _ => ?_, fun hn => ?_⟩
    · rw [asc_inj hv.tells.asc k1 h1]
    · rw [hn j h1] at h2; cases h2
  · refine ⟨(0, 1), fun j h1 h2 => absurd ⟨j, h1, h2⟩ h, fun _ => rfl⟩

/-- one step up -/
theorem wq_upS {t : List Nd} {ps : List Txt} (hv : Valid t ps) {i acc tot : Nat} (hi : i < t.length) (htot : 0 < tot) (h : acc * wqi t (i : Int) = tot) : acc * chI t i * wqi t (paI t i) = tot ∧ acc * chI t i ≤ tot := by
  rw [wqi_step hv.tells hi, ← Nat.mul_assoc] at h
  exact ⟨h, Nat.le_of_dvd htot ⟨_, h.symm⟩⟩

set_option maxRecDepth 1000000 in
set_option maxHeartbeats 2000000 in
theorem l9Descent_any (t : List Nd) (ps : List Txt) (n c : Nat) (s : ByteArray) (hv : Valid t ps) (hw : 0 < (wds t ps).length) (hs : okW s = true) (y : Nat × Nat) (hy : DscIs t ps (tx s) y) (W : World) (a : Option Addr) (h : Nds W.heap.size W a n c t) :
    Calls Try.prog 33 #[.agg #[.slice a n c], .string s] W fun e w' => e = .returned (fv y) ∧ Below W.heap.size W w' := by
  have G0 := Lib.hid (Gf.start 33 h)
  have HL := Lib.hid h.len
  have C := h.cap
  have hn481 : n ≤ 481 := by have := hv.size; have := h.len; omega
  have HLp : Hid (ps.length = n) := Lib.hid (by rw [hv.lenEq]; exact h.len)
  have cN := Lib.hid (fun W' (G : Gf 33 1 W W' a n c t) => nod.l2Node_any W.heap.size a n c t ps s W' (Nat.le_of_lt G.size) G.nds hv hs)
  have cC := Lib.hid (fun (k : Nat) (hk : k < n) W' (G : Gf 33 1 W W' a n c t) => choicesS_any W.heap.size a n c k t ps W' (Nat.le_of_lt G.size) G.nds (by omega) hv.tells hk)
  have HBd := Lib.hid (fun (i : Nat) (hi : i < n) => wqi_bound hv hw (i := i) (by rw [HL.out]; exact hi))
  have HUp := Lib.hid (fun (k acc tot : Nat) (hk : k < n) (h0 : 0 < tot) (hh : acc * wqi t (k : Int) = tot) => wq_upS hv (by rw [HL.out]; exact hk) h0 hh)
  have HPa := Lib.hid (fun (k : Nat) (hk : k < n) => paI_lt hv.tells (i := k) (by rw [HL.out]; exact hk))
  have HEnd := Lib.hid (fun (z : Int) (hz : z < 0) => wqi_end t hz)
  have HInj : Hid (∀ i j : Nat, ps[i]? = some (tx s) → ps[j]? = some (tx s) → i = j) := Lib.hid (fun i j h1 h2 => asc_inj hv.tells.asc h1 h2)
  obtain ⟨y1, y2⟩ := y
  have HY := Lib.hid hy
  have hbx := G0.out.box
  clear h hv hs hy hw
  go_enter Try.func33, Try.ntmps33
  go_wp2_with fail
  obtain ⟨W1, hW1⟩ : ∃ W1, (W.alloc (.cells #[.slice a n c] 38)).alloc (.cells #[.int .i64 0, .int .i64 0] 33) = W1 := ⟨_, rfl⟩
  rw [hW1] at G0 ⊢
  clear hW1 hbx
  refine (cN.out _ G0.out).mono ?_
  rintro e w2 ⟨r, rfl, hr, hb2⟩
  have G2 := Lib.hid (G0.out.on hb2)
  have hbx := G2.out.box
  obtain ⟨f1, f2, f3, f4⟩ := G2.out.open
  clear hb2
  rcases hr with ⟨rfl, hnp⟩ | ⟨j, rfl, hj⟩
  · have HY0 : Hid ((y1, y2) = (0, 1)) := Lib.hid (HY.out.2 fun j hj => absurd (List.mem_of_getElem? hj) hnp)
    obtain ⟨hE9, hB9⟩ := G2.out.end' (.int .i64 0) (.int .i64 1)
    have HE9 := Lib.hid hE9
    have HB9 := Lib.hid hB9
    clear hE9 hB9 hnp
    go_wp2_with fail
    generalize ((w2.setCell ⟨W.heap.size + 1, 0, none⟩ (.int .i64 0)).setCell ⟨W.heap.size + 1, 1, none⟩ (.int .i64 1)) = W9 at *
    obtain ⟨hc0, hc1⟩ := HE9.out
    exact bodyPost_ret (v := fv (0, 1)) (by simp [results, Try.results33, go_sem, hc0, hc1, fv]) rfl ⟨by rw [HY0.out], HB9.out⟩
  · have hjn : j < n := by have := (List.getElem?_eq_some_iff.1 hj).1; rw [HLp.out] at this; exact this
    obtain ⟨b, o, l, p, e1, rfl, hb1, hd1, hl1, hp1, hc1, hc2, hc3⟩ := G2.out.nds.elem j hjn
    have HE : Hid (enI t j = e1) := Lib.hid (enI_at hd1)
    have HJ := Lib.hid hj
    have hi0 : (0 : Int) ≤ (j : Int) := by omega
    have hi1 : (j : Int) < (n : Int) := by omega
    have hnn : ¬ (j : Int) < 0 := by omega
    have hdn : decide ((j : Int) < 0) = false := decide_eq_false hnn
    clear hd1 hj
    cases e1 with
    | false =>
      have HY0 : Hid ((y1, y2) = (0, 1)) := Lib.hid (HY.out.2 fun k hk => by rw [HInj.out k j hk HJ.out]; exact HE.out)
      obtain ⟨hE9, hB9⟩ := G2.out.end' (.int .i64 0) (.int .i64 1)
      have HE9 := Lib.hid hE9
      have HB9 := Lib.hid hB9
      clear hE9 hB9
      go_wp2_with fail
      generalize ((w2.setCell ⟨W.heap.size + 1, 0, none⟩ (.int .i64 0)).setCell ⟨W.heap.size + 1, 1, none⟩ (.int .i64 1)) = W9 at *
      obtain ⟨hc0, hc1⟩ := HE9.out
      exact bodyPost_ret (v := fv (0, 1)) (by simp [results, Try.results33, go_sem, hc0, hc1, fv]) rfl ⟨by rw [HY0.out], HB9.out⟩
    | true =>
      have HY1 : Hid ((y1, y2) = (1, wqi t (j : Int))) := Lib.hid (HY.out.1 j HJ.out HE.out)
      obtain ⟨ht0, htb, _⟩ := HBd.out j hjn
      obtain ⟨tot, htot⟩ : ∃ tot, wqi t (j : Int) = tot := ⟨_, rfl⟩
      rw [htot] at ht0 htb HY1
      have HT := Lib.hid htot
      clear f1 f2 f3 f4 htot
      go_wp2_with fail
      clear hbx hc1 hc2 hc3
      go_loopw [5, 6] (fun p v wr => ∃ (z : Int) (acc : Nat), p = .int .i64 z ∧ v = .int .i64 (acc : Int) ∧ -1 ≤ z ∧ z < n ∧ acc ≤ tot ∧ Hid (acc * wqi t z = tot) ∧ Hid (Gf 33 1 W wr (some ⟨b, o, none⟩) n c t)) (fun p _ _ => (intOf p + 1).toNat)
      case atStart => exact ⟨j, 1, rfl, rfl, by omega, by omega, by omega, Lib.hid (by rw [Nat.one_mul]; exact HT.out), G2⟩
      case round =>
        obtain ⟨z, acc, rfl, rfl, hz1, hzn, hab, HA, Gr⟩ := hrel
        by_cases hz : z = -1
        · subst hz
          have HAt : Hid (acc = tot) := Lib.hid (by have := HA.out; rwa [HEnd.out (-1) (by omega), Nat.mul_one] at this)
          obtain ⟨f1, f2, f3, f4⟩ := Gr.out.open
          obtain ⟨hE9, hB9⟩ := Gr.out.end' (.int .i64 1) (.int .i64 (acc : Int))
          have HE9 := Lib.hid hE9
          have HB9 := Lib.hid hB9
          clear hE9 hB9
          go_wp2_with fail
          rename World => wq
          generalize ((wq.setCell ⟨W.heap.size + 1, 0, none⟩ (.int .i64 1)).setCell ⟨W.heap.size + 1, 1, none⟩ (.int .i64 (acc : Int))) = W9 at *
          obtain ⟨hc0, hc1⟩ := HE9.out
          exact bodyPost_ret (v := fv (1, acc)) (by simp [results, Try.results33, go_sem, hc0, hc1, fv]) rfl ⟨by rw [HY1.out, HAt.out], HB9.out⟩
        · obtain ⟨k, rfl⟩ : ∃ k : Nat, z = (k : Int) := ⟨z.toNat, by omega⟩
          have hkn : k < n := by omega
          obtain ⟨hU1, hU2⟩ := HUp.out k acc tot hkn ht0 HA.out
          obtain ⟨hP1, hP2⟩ := HPa.out k hkn
          have cC1 := Lib.hid (cC.out k hkn)
          obtain ⟨ch, hch⟩ : ∃ ch, chI t k = ch := ⟨_, rfl⟩
          rw [hch] at hU1 hU2 cC1
          have hmc : (acc : Int) * (ch : Int) = ((acc * ch : Nat) : Int) := by rw [Int.natCast_mul]
          obtain ⟨ac2, hac2⟩ : ∃ ac2, acc * ch = ac2 := ⟨_, rfl⟩
          rw [hac2] at hU1 hU2 hmc
          have HU1 := Lib.hid hU1
          have hwr : IntKind.i64.wrap ((acc : Int) * (ch : Int)) = (ac2 : Int) := by rw [hmc, IntKind.wrap_i64]; omega
          obtain ⟨pz, hpz⟩ : ∃ pz, paI t k = pz := ⟨_, rfl⟩
          rw [hpz] at hP1 hP2 HU1
          have HPz := Lib.hid hpz
          have hkz : (0 : Int) ≤ (k : Int) := by omega
          have hbx := Gr.out.box
          clear hU1 hch hac2 hpz
          go_wp2_with fail
          refine (cC1.out _ Gr.out).mono ?_
          rintro e w5 ⟨rfl, hb5⟩
          have G5 := Lib.hid (Gr.out.on hb5)
          have hbx5 := G5.out.box
          obtain ⟨b', o', l', p', e1', he', hb1', hd1', hl1', hp1', hc1', hc2', hc3'⟩ := G5.out.nds.elem k hkn
          injection he' with he'
          injection he' with he1 he2
          subst he1 he2
          have hpp : Hid (p' = pz) := Lib.hid (by rw [← HPz.out, paI_at hd1'])
          have hk1 : (k : Int) < (n : Int) := by omega
          clear hb5 hbx hd1'
          go_wp2_with fail
          go_roundw
          case rel => exact ⟨pz, ac2, by rw [hpp.out], rfl, hP1, by omega, hU2, HU1, G5⟩
          case measure => simp [intOf, hpp.out]; omega

end Go.Proofs.Ythjafoacnfgjhac
