/-
  The longest text with which all words of a trie begin: the reference and the program answer the same.
-/
import Derived.Test.YtknoafkgeaibpaaComplete
namespace Go.Proofs.Ytknoafkgeaibpaa.cap
open Go.RowKit
set_option linter.unusedVariables false

theorem compOk_nil (t : List Nd) : compOk t ⟨#[]⟩ = (trieB t && !(wordsOf t).isEmpty) := by
  have h1 : okW ⟨#[]⟩ = true := okW_iff.2 ⟨by simp, fun c hc => by simp at hc⟩
  have h2 : tx ⟨#[]⟩ = [] := rfl
  unfold compOk
  rw [h1, h2, undr_nil, Bool.and_true]

set_option maxRecDepth 1000000 in
set_option maxHeartbeats 2000000 in
theorem agreeSharedPrefix (t : List Nd) (n c : Nat) (hn : n ≤ 1048576) : ∃ (v : ByteArray) (ok : Bool), CompFacts t ⟨#[]⟩ v ok ∧
    (∀ (W : World) (a : Option Addr), Nds W.heap.size W a n c t → Calls Try.prog 27 #[.agg #[.slice a n c]] W fun e w' => e = .returned (.tuple #[.string v, .bool ok]) ∧ Below W.heap.size W w') ∧
    (∀ (W : World) (a : Option Addr), Nds W.heap.size W a n c t → Calls Try.prog 28 #[.agg #[.slice a n c]] W fun e w' => e = .returned (.tuple #[.string v, .bool ok]) ∧ Below W.heap.size W w') := by
  obtain ⟨v, ok, hf, him⟩ := implComplete t n c ⟨#[]⟩ hn (by show 0 ≤ _; omega)
  refine ⟨v, ok, hf, fun W a hN => ?_, fun W a hN => ?_⟩
  · have G1 := Lib.hid (Gv.start hN)
    have hbx := G1.out.box
    have cG := Lib.hid (fun W w a (G : Gv W w a n c t) => l2Trie_any W.heap.size a n c t w G.bel.size G.nds hn)
    have HF := Lib.hid hf
    have HOk := Lib.hid (hf.okEq.trans (compOk_nil t))
    obtain ⟨q, hq⟩ : ∃ q, trieB t = q := ⟨_, rfl⟩
    have HQ := Lib.hid hq
    rw [hq] at cG HOk
    clear hq hN hf him
    cases q with
    | false =>
      go_enter Try.func27, Try.ntmps27
      go_wp2_with (first
        | (go_at_call 47; refine (cG.out _ _ _ G1.out).mono ?_; rintro e w2 ⟨rfl, hb2⟩; have G2 := Lib.hid (G1.out.on hb2); clear hb2))
      go_ret2
      exact ⟨ret_sb (HF.out.no HOk.out).symm HOk.out.symm, G2.out.bel⟩
    | true =>
      have cW := Lib.hid (fun W w a (G : Gv W w a n c t) => specWords_read W.heap.size a n c t w G.bel.size G.nds hn (trieB_iff.1 HQ.out))
      have hm40 := wordsOf_size t
      have HSh := Lib.hid (wordsOf_short t)
      have HY := Lib.hid HF.out.yes
      have HNo := Lib.hid HF.out.no
      have e2 : tx ⟨#[]⟩ = [] := rfl
      rw [e2, undr_nil] at HY
      clear HF e2
      obtain ⟨ws, hws⟩ : ∃ ws, wordsOf t = ws := ⟨_, rfl⟩
      rw [hws] at cW hm40 HSh HOk HY
      clear hws
      obtain ⟨m, hmA⟩ : ∃ m, ws.length = m := ⟨_, rfl⟩
      have HM := Lib.hid hmA
      rw [hmA] at cW hm40
      clear hmA
      go_enter Try.func27, Try.ntmps27
      go_wp2_with fail
      refine (cG.out _ _ _ G1.out).mono ?_
      rintro e w2 ⟨rfl, hb2⟩
      have G2 := Lib.hid (G1.out.on hb2)
      have hbx2 := G2.out.box
      clear hb2 hbx
      go_wp2_with fail
      refine (cW.out _ _ _ G2.out).mono ?_
      rintro e w3 ⟨a3, c3, rfl, hW3, hb3⟩
      have G3 := Lib.hid (G2.out.on hb3)
      have hbx3 := G3.out.box
      clear hb3 hbx2 hW3
      cases m with
      | zero =>
        have HE : Hid (ok = false) := Lib.hid (by rw [HOk.out, List.eq_nil_of_length_eq_zero HM.out]; rfl)
        go_wp2_with fail
        go_ret2
        exact ⟨ret_sb (HNo.out HE.out).symm HE.out.symm, G3.out.bel⟩
      | succ m =>
        have HE : Hid (ok = true) := Lib.hid (by
          rw [HOk.out]
          cases ws with
          | nil => have := HM.out; simp at this
          | cons _ _ => rfl)
        have hz : (((m + 1 : Nat) : Int) == 0) = false := by simp; omega
        go_wp2_with fail
        refine (cW.out _ _ _ G3.out).mono ?_
        rintro e w4 ⟨a4, c4, rfl, hW4, hb4⟩
        have HW4 := Lib.hid hW4
        have G4 := Lib.hid (G3.out.on hb4)
        clear hb4 hbx3 hW4
        have cS := Lib.hid (l3Shared_any w4.heap.size a4 (m + 1) c4 ws w4 (Nat.le_refl _) HW4.out HSh.out (by omega) (by omega) (tx v) (HY.out HE.out))
        go_wp2_with fail
        refine cS.out.mono ?_
        rintro e w5 ⟨rfl, hb5⟩
        have G5 := Lib.hid (G4.out.on hb5)
        clear hb5
        go_wp2_with fail
        go_ret2
        exact ⟨ret_sb (bx_tx v) HE.out.symm, G5.out.bel⟩
  · have G1 := Lib.hid (Gv.start hN)
    have hbx := G1.out.box
    have cI := Lib.hid (fun (w : World) (G : Gv W w a n c t) => him w a (G.nds.mono (Nat.le_of_lt G.lt)))
    clear hN hf him
    go_enter Try.func28, Try.ntmps28
    go_wp2_with fail
    refine (cI.out _ G1.out).mono ?_
    rintro e w2 ⟨rfl, hb2⟩
    have G2 := Lib.hid (G1.out.on hb2)
    clear hb2 hbx
    go_wp2_with fail
    go_ret2
    exact ⟨rfl, G2.out.bel⟩

end Go.Proofs.Ytknoafkgeaibpaa.cap
