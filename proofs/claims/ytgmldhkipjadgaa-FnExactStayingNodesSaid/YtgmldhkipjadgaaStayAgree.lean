/-
  The nodes that stay and their number: the reference and the program answer the same.
-/
import Derived.Test.YtgmldhkipjadgaaStayingI
namespace Go.Proofs.Ytgmldhkipjadgaa.cap
open Go.RowKit
set_option linter.unusedVariables false

set_option maxRecDepth 1000000 in
set_option maxHeartbeats 2000000 in
theorem implStaying_no (a : Option Addr) (n c : Nat) (t : List Nd) (W : World) (h : Nds W.heap.size W a n c t) (hq : trieB t = false) :
    Calls Try.prog 26 #[.agg #[.slice a n c]] W fun e w' => e = .returned (.tuple #[.slice none 0 0, .bool false]) ∧ Below W.heap.size W w' := by
  have cT := Lib.hid (fun w (G : Gv W w a n c t) => isTrie_any W.heap.size a n c t w G.bel.size G.nds)
  rw [hq] at cT
  have G1 := Lib.hid (Gv.start h)
  have hbx := G1.out.box
  clear h hq
  go_enter Try.func26, Try.ntmps26
  go_wp2_with (go_at_call 42; refine (cT.out _ G1.out).mono ?_; rintro e w2 ⟨rfl, hb2⟩; have G2 := Lib.hid (G1.out.on hb2); clear hb2)
  go_ret2
  exact ⟨rfl, G2.out.bel⟩

set_option maxRecDepth 1000000 in
set_option maxHeartbeats 2000000 in
theorem agreeStayingNodes (t : List Nd) (n c : Nat) (hn : n ≤ 1048576) : ∃ (xs : List Nat) (ok : Bool), xs.length ≤ 1000 ∧
    (∀ (W : World) (a : Option Addr), Nds W.heap.size W a n c t → Calls Try.prog 25 #[.agg #[.slice a n c]] W fun e w' => ownI.OwnNums W xs ok e w') ∧
    (∀ (W : World) (a : Option Addr), Nds W.heap.size W a n c t → Calls Try.prog 26 #[.agg #[.slice a n c]] W fun e w' => ownI.OwnNums W xs ok e w') := by
  have cG := Lib.hid (fun W w a (G : Gv W w a n c t) => l2Trie_any W.heap.size a n c t w G.bel.size G.nds hn)
  obtain ⟨q, hq⟩ : ∃ q, trieB t = q := ⟨_, rfl⟩
  have HQ := Lib.hid hq
  rw [hq] at cG
  clear hq
  cases q with
  | false =>
    refine ⟨[], false, by simp, fun W a hN => ?_, fun W a hN => ?_⟩
    · have G1 := Lib.hid (Gv.start hN)
      have hbx := G1.out.box
      clear hN
      go_enter Try.func25, Try.ntmps25
      go_wp2_with (go_at_call 39; refine (cG.out _ _ _ G1.out).mono ?_; rintro e w2 ⟨rfl, hb2⟩; have G2 := Lib.hid (G1.out.on hb2); clear hb2)
      go_ret2
      exact ⟨_, rfl, ownI.own_lit0 G2.out.bel.size, G2.out.bel.alloc G2.out.bel.size _⟩
    · refine (implStaying_no a n c t W hN HQ.out).mono ?_
      rintro e w' ⟨rfl, hb⟩
      exact ⟨_, rfl, World.ownsRow_nil _ _ _ _, hb⟩
  | true =>
    obtain ⟨ps, hv⟩ := trieB_iff.1 HQ.out
    have HV := Lib.hid hv
    have hfew := stP_few hv
    refine ⟨stP t ps, true, by omega, fun W a hN => ?_, fun W a hN => implStaying_yes a n c t ps W hN hv⟩
    have G1 := Lib.hid (Gv.start hN)
    have hbx := G1.out.box
    clear hN hv hfew
    go_enter Try.func25, Try.ntmps25
    go_wp2_with (first
      | (go_at_call 39; refine (cG.out _ _ _ G1.out).mono ?_; rintro e w2 ⟨rfl, hb2⟩; have G2 := Lib.hid (G1.out.on hb2); have hbx2 := G2.out.box; clear hb2)
      | (go_at_call 53; refine (l4Staying_any W.heap.size a n c t ps w2 G2.out.bel.size G2.out.nds HV.out).mono ?_; rintro e3 w3 ⟨v3, rfl, hO3, hb3⟩; have HO3 := Lib.hid hO3; have G3 := Lib.hid (G2.out.on hb3); clear hO3 hb3))
    go_ret2
    exact ⟨_, rfl, own_down HO3.out G2.out.bel.size, G3.out.bel⟩

set_option maxRecDepth 1000000 in
set_option maxHeartbeats 2000000 in
theorem agreeCountBranches (t : List Nd) (n c : Nat) (hn : n ≤ 1048576) : ∃ (v : Int) (ok : Bool),
    (∀ (W : World) (a : Option Addr), Nds W.heap.size W a n c t → Calls Try.prog 30 #[.agg #[.slice a n c]] W fun e w' => e = .returned (.tuple #[.int .i64 v, .bool ok]) ∧ Below W.heap.size W w') ∧
    (∀ (W : World) (a : Option Addr), Nds W.heap.size W a n c t → Calls Try.prog 31 #[.agg #[.slice a n c]] W fun e w' => e = .returned (.tuple #[.int .i64 v, .bool ok]) ∧ Below W.heap.size W w') := by
  have cG := Lib.hid (fun W w a (G : Gv W w a n c t) => l2Trie_any W.heap.size a n c t w G.bel.size G.nds hn)
  obtain ⟨q, hq⟩ : ∃ q, trieB t = q := ⟨_, rfl⟩
  have HQ := Lib.hid hq
  rw [hq] at cG
  clear hq
  cases q with
  | false =>
    refine ⟨0, false, fun W a hN => ?_, fun W a hN => ?_⟩
    · have G1 := Lib.hid (Gv.start hN)
      have hbx := G1.out.box
      clear hN
      go_enter Try.func30, Try.ntmps30
      go_wp2_with (go_at_call 39; refine (cG.out _ _ _ G1.out).mono ?_; rintro e w2 ⟨rfl, hb2⟩; have G2 := Lib.hid (G1.out.on hb2); clear hb2)
      go_ret2
      exact ⟨rfl, G2.out.bel⟩
    · have G1 := Lib.hid (Gv.start hN)
      have hbx := G1.out.box
      clear hN
      go_enter Try.func31, Try.ntmps31
      go_wp2_with (go_at_call 26; refine (implStaying_no a n c t _ (G1.out.nds.mono G1.out.bel.size) HQ.out).mono ?_; rintro e w2 ⟨rfl, hb2⟩; have G2 := Lib.hid (G1.out.on hb2); clear hb2)
      go_ret2
      exact ⟨rfl, G2.out.bel⟩
  | true =>
    obtain ⟨ps, hv⟩ := trieB_iff.1 HQ.out
    have HV := Lib.hid hv
    obtain ⟨m, hm⟩ : ∃ m, (stP t ps).length = m := ⟨_, rfl⟩
    have HM := Lib.hid hm
    have hm81 : m ≤ 81 := by rw [← hm]; exact stP_few hv
    clear hm hv
    refine ⟨(m : Int), true, fun W a hN => ?_, fun W a hN => ?_⟩
    · have G1 := Lib.hid (Gv.start hN)
      have hbx := G1.out.box
      clear hN
      go_enter Try.func30, Try.ntmps30
      go_wp2_with (first
        | (go_at_call 39; refine (cG.out _ _ _ G1.out).mono ?_; rintro e w2 ⟨rfl, hb2⟩; have G2 := Lib.hid (G1.out.on hb2); have hbx2 := G2.out.box; clear hb2)
        | (go_at_call 53; refine (l4Staying_any W.heap.size a n c t ps w2 G2.out.bel.size G2.out.nds HV.out).mono ?_; rintro e3 w3 ⟨v3, rfl, hO3, hb3⟩; rw [HM.out] at hO3; obtain ⟨a3, c3, rfl⟩ := own_slice hO3; have G3 := Lib.hid (G2.out.on hb3); clear hO3 hb3))
      go_ret2
      exact ⟨rfl, G3.out.bel⟩
    · have G1 := Lib.hid (Gv.start hN)
      have hbx := G1.out.box
      clear hN
      go_enter Try.func31, Try.ntmps31
      go_wp2_with (go_at_call 26; refine (implStaying_yes a n c t ps _ (G1.out.nds.mono G1.out.bel.size) HV.out).mono ?_; rintro e w2 ⟨v2, rfl, hO2, hb2⟩; rw [HM.out] at hO2; obtain ⟨a2, c2, rfl⟩ := own_slice hO2; have G2 := Lib.hid (G1.out.on hb2); clear hb2 hO2)
      go_ret2
      exact ⟨rfl, G2.out.bel⟩

end Go.Proofs.Ytgmldhkipjadgaa.cap
