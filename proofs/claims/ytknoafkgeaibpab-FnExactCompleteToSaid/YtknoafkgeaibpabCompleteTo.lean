/-
  The longest text with which all words begin that begin with a prefix: the reference answers as the program.
-/
import Derived.Test.YtknoafkgeaibpabComplete
namespace Go.Proofs.Ytknoafkgeaibpab.cap
open Go.RowKit
set_option linter.unusedVariables false

set_option maxRecDepth 1000000 in
set_option maxHeartbeats 2000000 in
theorem specComplete (t : List Nd) (n c : Nat) (s : ByteArray) (hn : n ≤ 1048576) (hs : s.size ≤ 9223372036854775807) (v : ByteArray) (ok : Bool) (hf : CompFacts t s v ok) (W : World) (a : Option Addr) (hN : Nds W.heap.size W a n c t) :
    Calls Try.prog 10 #[.agg #[.slice a n c], .string s] W fun e w' => e = .returned (.tuple #[.string v, .bool ok]) ∧ Below W.heap.size W w' := by
  have G1 := Lib.hid (Gv.start hN)
  have hbx := G1.out.box
  have cG := Lib.hid (fun W w a (G : Gv W w a n c t) => l2Trie_any W.heap.size a n c t w G.bel.size G.nds hn)
  have cG2 := Lib.hid (fun w => l2Word_any s w hs)
  have HF := Lib.hid hf
  obtain ⟨q, hq⟩ : ∃ q, trieB t = q := ⟨_, rfl⟩
  obtain ⟨q2, hq2⟩ : ∃ q2, okW s = q2 := ⟨_, rfl⟩
  have HQ := Lib.hid hq
  have HQ2 := Lib.hid hq2
  rw [hq] at cG
  rw [hq2] at cG2
  clear hq hq2 hN hf
  cases q with
  | false =>
    have HO : Hid (ok = false) := Lib.hid (by rw [HF.out.okEq]; unfold compOk; rw [HQ.out]; rfl)
    go_enter Try.func10, Try.ntmps10
    go_wp2_with (first
      | (go_at_call 32; refine (cG.out _ _ _ G1.out).mono ?_; rintro e w2 ⟨rfl, hb2⟩; have G2 := Lib.hid (G1.out.on hb2); clear hb2))
    go_ret2
    exact ⟨ret_sb (HF.out.no HO.out).symm HO.out.symm, G2.out.bel⟩
  | true =>
    cases q2 with
    | false =>
      have HO : Hid (ok = false) := Lib.hid (by rw [HF.out.okEq]; unfold compOk; rw [HQ.out, HQ2.out]; rfl)
      go_enter Try.func10, Try.ntmps10
      go_wp2_with (first
        | (go_at_call 32; refine (cG.out _ _ _ G1.out).mono ?_; rintro e w2 ⟨rfl, hb2⟩; have G2 := Lib.hid (G1.out.on hb2); clear hb2)
        | (go_at_call 33; refine (cG2.out _).mono ?_; rintro e w3 ⟨rfl, rfl⟩))
      go_ret2
      exact ⟨ret_sb (HF.out.no HO.out).symm HO.out.symm, G2.out.bel⟩
    | true =>
      have hs12 : s.size ≤ 12 := by have := (okW_iff.1 HQ2.out).1; rwa [tx_len] at this
      have cW := Lib.hid (fun W w a (G : Gv W w a n c t) => specWords_read W.heap.size a n c t w G.bel.size G.nds hn (trieB_iff.1 HQ.out))
      have hm40 := wordsOf_size t
      have HSh := Lib.hid (wordsOf_short t)
      have HU : Hid (ok = !(undr (tx s) (wordsOf t)).isEmpty) := Lib.hid (by rw [HF.out.okEq]; unfold compOk; rw [HQ.out, HQ2.out]; rfl)
      have HY := Lib.hid HF.out.yes
      have HNo := Lib.hid HF.out.no
      clear HF
      obtain ⟨ws, hws⟩ : ∃ ws, wordsOf t = ws := ⟨_, rfl⟩
      rw [hws] at cW hm40 HSh HU HY
      clear hws
      obtain ⟨mA, hmA⟩ : ∃ mA, ws.length = mA := ⟨_, rfl⟩
      have HMA := Lib.hid hmA
      rw [hmA] at cW hm40
      clear hmA
      have cU : Hid (∀ B a c w, B ≤ w.heap.size → Wds B w a mA c ws → _) := Lib.hid (fun B a c w hB hW => l3Under_any B a mA c ws s w hB hW HSh.out hm40 (by omega))
      have hul := undr_le (tx s) ws
      rw [HMA.out] at hul
      have HSh2 : Hid (∀ x ∈ undr (tx s) ws, x.length ≤ 12) := Lib.hid (fun x hx => HSh.out x (mem_undr.1 hx).1)
      obtain ⟨us, hus⟩ : ∃ us, undr (tx s) ws = us := ⟨_, rfl⟩
      rw [hus] at cU HU HY hul HSh2
      clear hus
      obtain ⟨m, hm⟩ : ∃ m, us.length = m := ⟨_, rfl⟩
      have HM := Lib.hid hm
      rw [hm] at cU hul
      clear hm
      go_enter Try.func10, Try.ntmps10
      go_wp2_with fail
      refine (cG.out _ _ _ G1.out).mono ?_
      rintro e w2 ⟨rfl, hb2⟩
      have G2 := Lib.hid (G1.out.on hb2)
      have hbx2 := G2.out.box
      clear hb2 hbx
      go_wp2_with fail
      refine (cG2.out _).mono ?_
      rintro e w2b ⟨rfl, rfl⟩
      go_wp2_with fail
      refine (cW.out _ _ _ G2.out).mono ?_
      rintro e w3 ⟨a3, c3, rfl, hW3, hb3⟩
      have HW3 := Lib.hid hW3
      have G3 := Lib.hid (G2.out.on hb3)
      clear hb3 hbx2 hW3
      go_wp2_with fail
      refine (cU.out _ _ _ w3 (Nat.le_refl _) HW3.out).mono ?_
      rintro e w4 ⟨v4, rfl, hO4, hb4⟩
      have HO4 := Lib.hid hO4
      have G4 := Lib.hid (G3.out.on hb4)
      clear hO4 hb4
      cases m with
      | zero =>
        have HE : Hid (ok = false) := Lib.hid (by rw [HU.out, List.eq_nil_of_length_eq_zero HM.out]; rfl)
        obtain ⟨a9, c9, rfl⟩ := own_slice HO4.out
        go_wp2_with fail
        go_ret2
        exact ⟨ret_sb (HNo.out HE.out).symm HE.out.symm, G4.out.bel⟩
      | succ m =>
        have HE : Hid (ok = true) := Lib.hid (by
          rw [HU.out]
          cases us with
          | nil => have := HM.out; simp at this
          | cons _ _ => rfl)
        obtain ⟨a9, c9, e9, hW9⟩ := own_wds HO4.out (fun x hx => by have := HSh2.out x hx; omega)
        subst e9
        have hW9' : Wds w4.heap.size w4 a9 (m + 1) c9 us := hW9
        have cS := Lib.hid (l3Shared_any w4.heap.size a9 (m + 1) c9 us w4 (Nat.le_refl _) hW9' HSh2.out (by omega) (by omega) (tx v) (HY.out HE.out))
        clear hW9 hW9'
        have hz : (((m + 1 : Nat) : Int) == 0) = false := by simp; omega
        go_wp2_with fail
        refine cS.out.mono ?_
        rintro e w5 ⟨rfl, hb5⟩
        have G5 := Lib.hid (G4.out.on hb5)
        clear hb5
        go_wp2_with fail
        go_ret2
        exact ⟨ret_sb (bx_tx v) HE.out.symm, G5.out.bel⟩

theorem agreeCompleteTo (t : List Nd) (n c : Nat) (s : ByteArray) (hn : n ≤ 1048576) (hs : s.size ≤ 9223372036854775807) : ∃ (v : ByteArray) (ok : Bool), CompFacts t s v ok ∧
    (∀ (W : World) (a : Option Addr), Nds W.heap.size W a n c t → Calls Try.prog 10 #[.agg #[.slice a n c], .string s] W fun e w' => e = .returned (.tuple #[.string v, .bool ok]) ∧ Below W.heap.size W w') ∧
    (∀ (W : World) (a : Option Addr), Nds W.heap.size W a n c t → Calls Try.prog 12 #[.agg #[.slice a n c], .string s] W fun e w' => e = .returned (.tuple #[.string v, .bool ok]) ∧ Below W.heap.size W w') := by
  obtain ⟨v, ok, hf, h⟩ := implComplete t n c s hn hs
  exact ⟨v, ok, hf, fun W a hN => specComplete t n c s hn hs v ok hf W a hN, h⟩

end Go.Proofs.Ytknoafkgeaibpab.cap
