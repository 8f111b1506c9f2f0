/-
  The program's answer to 'which node', for every list of nodes and every text.
-/
import Derived.Test.YtknoafkgeaibpabGv
namespace Go.Proofs.Ytknoafkgeaibpab
open Go.RowKit
set_option linter.unusedVariables false

theorem ret_bb2 {u v p q : Bool} (h : u = v) (k : p = q) : Ending.returned (.tuple #[.bool u, .bool p]) = .returned (.tuple #[.bool v, .bool q]) := by rw [h, k]
theorem ret_nb2 {u v : Int} {p q : Bool} (h : u = v) (k : p = q) : Ending.returned (.tuple #[.int .i64 u, .bool p]) = .returned (.tuple #[.int .i64 v, .bool q]) := by rw [h, k]

set_option maxRecDepth 1000000 in
set_option maxHeartbeats 1000000 in
theorem implNodeOf_no (t : List Nd) (n c : Nat) (s : ByteArray) (hs : s.size ≤ 9223372036854775807) (hno : trieB t = true → okW s = true → ∀ ps, Valid t ps → tx s ∉ ps) (W : World) (a : Option Addr) (hN : Nds W.heap.size W a n c t) :
    Calls Try.prog 38 #[.agg #[.slice a n c], .string s] W fun e w' => e = .returned (.tuple #[.int .i64 0, .bool false]) ∧ Below W.heap.size W w' := by
  have G1 := Lib.hid (Gv.start hN)
  have hbx := G1.out.box
  have cT := Lib.hid (fun W w a (G : Gv W w a n c t) => isTrie_any W.heap.size a n c t w G.bel.size G.nds)
  have cP := Lib.hid (fun w => implIsWord_any s w hs)
  have HNo := Lib.hid hno
  obtain ⟨q, hq⟩ : ∃ q, trieB t = q := ⟨_, rfl⟩
  obtain ⟨q2, hq2⟩ : ∃ q2, okW s = q2 := ⟨_, rfl⟩
  have HQ := Lib.hid hq
  have HQ2 := Lib.hid hq2
  rw [hq] at cT
  rw [hq2] at cP
  clear hq hq2 hN hno
  cases q with
  | false =>
    go_enter Try.func38, Try.ntmps38
    go_wp2_with (first
      | (go_at_call 45; refine (cT.out _ _ _ G1.out).mono ?_; rintro e w2 ⟨rfl, hb2⟩; have G2 := Lib.hid (G1.out.on hb2); clear hb2))
    go_ret2
    exact ⟨rfl, G2.out.bel⟩
  | true =>
    cases q2 with
    | false =>
      go_enter Try.func38, Try.ntmps38
      go_wp2_with (first
        | (go_at_call 45; refine (cT.out _ _ _ G1.out).mono ?_; rintro e w2 ⟨rfl, hb2⟩; have G2 := Lib.hid (G1.out.on hb2); clear hb2)
        | (go_at_call 65; refine (cP.out _).mono ?_; rintro e w3 ⟨rfl, hb3⟩; have G3 := Lib.hid (G2.out.on hb3); clear hb3))
      go_ret2
      exact ⟨rfl, G3.out.bel⟩
    | true =>
      obtain ⟨ps, hv⟩ := trieB_iff.1 HQ.out
      have HV := Lib.hid hv
      clear hv
      go_enter Try.func38, Try.ntmps38
      go_wp2_with fail
      refine (cT.out _ _ _ G1.out).mono ?_
      rintro e w2 ⟨rfl, hb2⟩
      have G2 := Lib.hid (G1.out.on hb2)
      have hbx2 := G2.out.box
      clear hb2 hbx
      go_wp2_with fail
      refine (cP.out _).mono ?_
      rintro e w3 ⟨rfl, hb3⟩
      have G3 := Lib.hid (G2.out.on hb3)
      have hbx3 := G3.out.box
      clear hb3 hbx2
      have cPl := Lib.hid (cap.placeOf_any W.heap.size a n c t ps s w3 G3.out.bel.size G3.out.nds HV.out HQ2.out)
      go_wp2_with fail
      refine cPl.out.mono ?_
      rintro e w4 ⟨j, ok, rfl, hyes, hno, hb4⟩
      have G4 := Lib.hid (G3.out.on hb4)
      have HOk : Hid (ok = false) := Lib.hid (by
        cases ok with
        | false => rfl
        | true => exact absurd (at_mem (hyes rfl)) (HNo.out HQ.out HQ2.out ps HV.out))
      have HJ0 : Hid ((j : Int) = 0) := Lib.hid (by have := (hno HOk.out).1; omega)
      clear hb4 hyes hno
      go_wp2_with fail
      go_ret2
      exact ⟨ret_nb2 HJ0.out HOk.out, G4.out.bel⟩

set_option maxRecDepth 1000000 in
set_option maxHeartbeats 1000000 in
theorem implNodeOf_yes (t : List Nd) (ps : List Txt) (n c j : Nat) (s : ByteArray) (hs : s.size ≤ 9223372036854775807) (hv : Valid t ps) (hw : okW s = true) (hj : ps[j]? = some (tx s)) (W : World) (a : Option Addr) (hN : Nds W.heap.size W a n c t) :
    Calls Try.prog 38 #[.agg #[.slice a n c], .string s] W fun e w' => e = .returned (.tuple #[.int .i64 (j : Int), .bool true]) ∧ Below W.heap.size W w' := by
  have G1 := Lib.hid (Gv.start hN)
  have hbx := G1.out.box
  have cT := Lib.hid (fun W w a (G : Gv W w a n c t) => isTrie_any W.heap.size a n c t w G.bel.size G.nds)
  have cP := Lib.hid (fun w => implIsWord_any s w hs)
  have HV := Lib.hid hv
  have HJ := Lib.hid hj
  have HOW := Lib.hid hw
  rw [trieB_iff.2 ⟨ps, hv⟩] at cT
  rw [hw] at cP
  clear hN hv hw hj
  go_enter Try.func38, Try.ntmps38
  go_wp2_with fail
  refine (cT.out _ _ _ G1.out).mono ?_
  rintro e w2 ⟨rfl, hb2⟩
  have G2 := Lib.hid (G1.out.on hb2)
  have hbx2 := G2.out.box
  clear hb2 hbx
  go_wp2_with fail
  refine (cP.out _).mono ?_
  rintro e w3 ⟨rfl, hb3⟩
  have G3 := Lib.hid (G2.out.on hb3)
  have hbx3 := G3.out.box
  clear hb3 hbx2
  have cPl := Lib.hid (cap.placeOf_any W.heap.size a n c t ps s w3 G3.out.bel.size G3.out.nds HV.out HOW.out)
  go_wp2_with fail
  refine cPl.out.mono ?_
  rintro e w4 ⟨j2, ok, rfl, hyes, hno, hb4⟩
  have G4 := Lib.hid (G3.out.on hb4)
  have HOk : Hid (ok = true) := Lib.hid (by
    cases ok with
    | true => rfl
    | false => exact absurd (at_mem HJ.out) (hno rfl).2)
  have HJ0 : Hid ((j2 : Int) = (j : Int)) := Lib.hid (by have := asc_inj HV.out.tells.asc (hyes HOk.out) HJ.out; omega)
  clear hb4 hyes hno
  go_wp2_with fail
  go_ret2
  exact ⟨ret_nb2 HJ0.out HOk.out, G4.out.bel⟩

end Go.Proofs.Ytknoafkgeaibpab
