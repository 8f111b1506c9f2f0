/-
  The chance that a descent stops at a node: the program.
-/
import Derived.Test.YtibdfhhbkbncgabChs
import Derived.Test.YtibdfhhbkbncgabFrP
import Derived.Test.YtibdfhhbkbncgabGf
import Derived.Deep.RegionHeld3
namespace Go.Proofs.Ytibdfhhbkbncgab
open Go.RowKit
set_option linter.unusedVariables false
set_option linter.unusedSimpArgs false

theorem pair_heap {W : World} {s : Nat} {a b a' b' : Value} {e : TypeId} (h : W.heap[s]? = some (.cells #[a, b] e)) :
    ((W.setCell ⟨s, 0, none⟩ a').setCell ⟨s, 1, none⟩ b').heap[s]? = some (.cells #[a', b'] e) := by
  simp [World.setCell, Array.getElem?_modify, h]

/-- one step up -/
theorem wq_up {t : List Nd} {ps : List Txt} (hv : Valid t ps) {i acc tot : Nat} (hi : i < t.length) (htot : 0 < tot) (h : acc * wqi t (i : Int) = tot) : acc * chI t i * wqi t (paI t i) = tot ∧ acc * chI t i ≤ tot ∧ 0 < chI t i := by
  rw [wqi_step hv.tells hi, ← Nat.mul_assoc] at h
  refine ⟨h, ?_, ?_⟩
  · exact Nat.le_of_dvd htot ⟨_, h.symm⟩
  · apply Nat.pos_of_ne_zero
    intro e
    rw [e] at h
    simp at h
    omega

set_option maxRecDepth 1000000 in
set_option maxHeartbeats 2000000 in
theorem stopChance_any (t : List Nd) (ps : List Txt) (n c i : Nat) (hv : Valid t ps) (hw : 0 < (wds t ps).length) (hi : i < n) (W : World) (a : Option Addr) (h : Nds W.heap.size W a n c t) :
    Calls Try.prog 31 #[.agg #[.slice a n c], .int .i64 (i : Int)] W fun e w' => e = .returned (fv (1, wqi t (i : Int))) ∧ Below W.heap.size W w' := by
  have G0 := Lib.hid (Gf.start 56 h)
  have HL := Lib.hid h.len
  have C := h.cap
  have hn481 : n ≤ 481 := by have := hv.size; have := h.len; omega
  obtain ⟨ht0, htb, _⟩ := wqi_bound hv hw (i := i) (by rw [h.len]; exact hi)
  obtain ⟨tot, htot⟩ : ∃ tot, wqi t (i : Int) = tot := ⟨_, rfl⟩
  have HT := Lib.hid htot
  rw [htot] at ht0 htb ⊢
  have HUp := Lib.hid (fun (k acc : Nat) (hk : k < n) (hh : acc * wqi t (k : Int) = tot) => wq_up hv (by rw [HL.out]; exact hk) ht0 hh)
  have HPa := Lib.hid (fun (k : Nat) (hk : k < n) => paI_lt hv.tells (i := k) (by rw [HL.out]; exact hk))
  have HEnd := Lib.hid (wqi_end t (p := -1) (by omega))
  have cW := Lib.hid (fun W' => whole_any 1 W')
  have cC := Lib.hid (fun (k : Nat) (hk : k < n) W' (G : Gf 56 1 W W' a n c t) => choicesI_any W.heap.size a n c k t ps W' (Nat.le_of_lt G.size) G.nds (by omega) hv.tells hk)
  have cD := Lib.hid (fun (acc ch : Nat) (hb : acc * ch ≤ tot) (h0 : 0 < acc) (h1 : 0 < ch) W' => dividedBy_any (1, acc) ch W' (by simp) (by simp only; omega) h0 h1)
  simp only [fra_one, fv_mk] at cW cD
  clear htot h hv
  go_enter Try.func31, Try.ntmps31
  go_wp2_with fail
  obtain ⟨W1, hW1⟩ : ∃ W1, (W.alloc (.cells #[.slice a n c] 31)).alloc (.cells #[.int .i64 0, .int .i64 0] 56) = W1 := ⟨_, rfl⟩
  rw [hW1] at G0 ⊢
  clear hW1
  refine (cW.out _).mono ?_
  rintro e w2 ⟨rfl, hb2⟩
  have G2 := Lib.hid (G0.out.on hb2)
  have HB3 : Hid (Below w2.heap.size w2 (w2.alloc (.cells #[.int .i64 1, .int .i64 1] 56))) := Lib.hid ((Below.refl _ _).alloc (Nat.le_refl _) _)
  have G3 := Lib.hid (G2.out.on HB3.out)
  have HE3 := Lib.hid (heap_alloc_new w2 (.cells #[.int .i64 1, .int .i64 1] 56))
  have hez : w2.heap.size < (w2.alloc (.cells #[.int .i64 1, .int .i64 1] 56)).heap.size := by simp
  have hes : W.heap.size + 1 < w2.heap.size := G2.out.lt
  clear hb2
  go_wp2_with fail
  obtain ⟨W3, hW3⟩ : ∃ W3, w2.alloc (.cells #[.int .i64 1, .int .i64 1] 56) = W3 := ⟨_, rfl⟩
  rw [hW3] at G3 HE3 hez ⊢
  clear hW3 HB3
  obtain ⟨E, hE⟩ : ∃ E, w2.heap.size = E := ⟨_, rfl⟩
  rw [hE] at HE3 hez hes ⊢
  clear hE G2 G0
  go_loopw [1] (fun p wr => ∃ (z : Int) (acc : Nat), p = .int .i64 z ∧ -1 ≤ z ∧ z < n ∧ 0 < acc ∧ acc ≤ tot ∧ Hid (acc * wqi t z = tot) ∧ Hid (wr.heap[E]? = some (.cells #[.int .i64 1, .int .i64 (acc : Int)] 56)) ∧ Hid (Gf 56 1 W wr a n c t) ∧ E < wr.heap.size) (fun p _ => (intOf p + 1).toNat)
  case atStart => exact ⟨i, 1, rfl, by omega, by omega, by omega, by omega, Lib.hid (by rw [Nat.one_mul]; exact HT.out), HE3, G3, hez⟩
  case round =>
    obtain ⟨z, acc, rfl, hz1, hzn, ha0, hab, HA, HEr, Gr, hEr⟩ := hrel
    by_cases hz : z = -1
    · subst hz
      have HAt : Hid (acc = tot) := Lib.hid (by have := HA.out; rwa [HEnd.out, Nat.mul_one] at this)
      obtain ⟨u1, u2, _, _⟩ := frozen_new2 HEr.out
      have hnz : ((-1 : Int) != -1) = false := by decide
      obtain ⟨f1, f2, f3, f4⟩ := Gr.out.open
      obtain ⟨hE9, hB9⟩ := Gr.out.end' (.int .i64 1) (.int .i64 (acc : Int))
      have HE9 := Lib.hid hE9
      have HB9 := Lib.hid hB9
      clear hE9 hB9
      go_wp2_with fail
      rename World => wq
      generalize ((wq.setCell ⟨W.heap.size + 1, 0, none⟩ (.int .i64 1)).setCell ⟨W.heap.size + 1, 1, none⟩ (.int .i64 (acc : Int))) = W9 at *
      obtain ⟨hc0, hc1⟩ := HE9.out
      exact bodyPost_ret (v := fv (1, acc)) (by simp [results, Try.results31, go_sem, hc0, hc1, fv]) rfl ⟨by rw [HAt.out], HB9.out⟩
    · obtain ⟨k, rfl⟩ : ∃ k : Nat, z = (k : Int) := ⟨z.toNat, by omega⟩
      have hkn : k < n := by omega
      obtain ⟨hU1, hU2, hU3⟩ := HUp.out k acc hkn HA.out
      obtain ⟨hP1, hP2⟩ := HPa.out k hkn
      have cC1 := Lib.hid (cC.out k hkn)
      have cD1 := Lib.hid (cD.out acc (chI t k) hU2 ha0 hU3)
      have ha2 : 0 < acc * chI t k := Nat.mul_pos ha0 hU3
      obtain ⟨ch, hch⟩ : ∃ ch, chI t k = ch := ⟨_, rfl⟩
      rw [hch] at hU1 hU2 cC1 cD1 ha2
      obtain ⟨ac2, hac2⟩ : ∃ ac2, acc * ch = ac2 := ⟨_, rfl⟩
      rw [hac2] at hU1 hU2 cD1 ha2
      have HU1 := Lib.hid hU1
      obtain ⟨pz, hpz⟩ : ∃ pz, paI t k = pz := ⟨_, rfl⟩
      rw [hpz] at hP1 hP2 HU1
      have HPz := Lib.hid hpz
      have hnz : ((k : Int) != -1) = true := by first | (simp; done) | (simp; omega)
      have hnz2 : ¬ (k : Int) = -1 := by omega
      obtain ⟨c1, c2, _, _⟩ := frozen_new2 HEr.out
      have c3 := Gr.out.box
      have hE2 : E ≠ W.heap.size := by omega
      rename World => wq
      clear hU1 hch hac2 hpz hU3
      go_wp2_with fail
      go_region_with (first
        | (go_at_call 56; refine (cC1.out _ (by first | exact Gr.out.on ((Below.refl _ _).drew) | exact Gr.out)).mono ?_; rintro e w5 ⟨rfl, hb5⟩; have G5 := Lib.hid (Gr.out.on (by exact (Below.refl _ _).drew.trans hb5)); have hE5 : E < w5.heap.size := Nat.lt_of_lt_of_le hEr hb5.size; have c4 := (hb5.cell (p := ⟨E, 0, none⟩) hEr).trans c1; have c5 := (hb5.cell (p := ⟨E, 1, none⟩) hEr).trans c2; have c6 := G5.out.box)
        | (go_at_call 55; refine (cD1.out _).mono ?_; rintro e w6 ⟨rfl, hb6⟩; have G6 := Lib.hid (G5.out.on hb6); have hE6 : E < w6.heap.size := Nat.lt_of_lt_of_le hE5 hb6.size; have hH6 := (hb6.block E hE5).trans ((hb5.block E hEr).trans HEr.out); obtain ⟨f1, f2, f3, f4⟩ := frozen_new2 hH6))
      all_goals
        have hWh := pair_heap (a' := .int .i64 1) (b' := .int .i64 (ac2 : Int)) hH6
        have hWb : Below (W.heap.size + 1 + 1) w6 ((w6.setCell ⟨E, 0, none⟩ (.int .i64 1)).setCell ⟨E, 1, none⟩ (.int .i64 (ac2 : Int))) := pair_below (Below.refl _ _) (by omega)
        have hWz : E < ((w6.setCell ⟨E, 0, none⟩ (.int .i64 1)).setCell ⟨E, 1, none⟩ (.int .i64 (ac2 : Int))).heap.size := Nat.lt_of_lt_of_le hE6 hWb.size
        have G7 := Lib.hid (G6.out.on2 hWb)
        have HWh := Lib.hid hWh
        have hbx := G7.out.box
        obtain ⟨b, o, l, p, e1, rfl, hb1, hd1, hl1, hp1, hc1, hc2, hc3⟩ := G7.out.nds.elem k hkn
        have hpp : Hid (p = pz) := Lib.hid (by rw [← HPz.out, paI_at hd1])
        have hi0 : (0 : Int) ≤ (k : Int) := by omega
        have hi1 : (k : Int) < (n : Int) := by omega
        clear hWh hWb c1 c2 c3 c4 c5 c6 f1 f2 f3 f4 hd1 hb5 hb6
        obtain ⟨w7, hw7⟩ : ∃ w7, (w6.setCell ⟨E, 0, none⟩ (.int .i64 1)).setCell ⟨E, 1, none⟩ (.int .i64 (ac2 : Int)) = w7 := ⟨_, rfl⟩
        rw [hw7] at HWh G7 hbx hc1 hc2 hc3 hWz ⊢
        clear hw7
        go_wp2_with fail
        go_roundw
        case rel => exact ⟨pz, ac2, by rw [hpp.out], hP1, by omega, ha2, hU2, HU1, HWh, G7, hWz⟩
        case measure => simp [intOf, hpp.out]; omega

end Go.Proofs.Ytibdfhhbkbncgab
