/-
  The words that begin with a prefix: the program's function.
-/
import Derived.Test.YtoofpgehkihbcadUnd
import Derived.Test.YtoofpgehkihbcadBelW
import Derived.Test.YtoofpgehkihbcadGvT
import Derived.Test.YtoofpgehkihbcadIsTrie
import Derived.Test.YtoofpgehkihbcadPlaceC
namespace Go.Proofs.Ytoofpgehkihbcad.cap
open Go.RowKit
set_option linter.unusedVariables false

theorem wu_lit {W w : World} (hb : W.heap.size ≤ w.heap.size) : (w.alloc (.cells #[] 9)).ownsRow W.heap.size 9 1 (.slice (some ⟨w.heap.size, 0, none⟩) 0 0) 0 [] :=
  World.ownsRow_lit (base := W.heap.size) (e := 9) (size := 1) w #[] 0 hb (by unfold maxLen; omega) rfl

noncomputable def undW (t : List Nd) (s : ByteArray) : List Txt := if trieB t && okW s then undr (tx s) (wordsOf t) else []

/-- a row of words, and a bool -/
def OwnT (w : World) (xs : List Txt) (ok : Bool) (e : Ending) (w' : World) : Prop := ∃ v, e = .returned (.tuple #[v, .bool ok]) ∧ w'.ownsRow w.heap.size 9 1 v xs.length (xs.map (fun x => Value.string (bx x))) ∧ Below w.heap.size w w'

set_option maxRecDepth 1000000 in
set_option maxHeartbeats 2000000 in
theorem implWordsUnder_any (B : Nat) (a : Option Addr) (n c : Nat) (t : List Nd) (s : ByteArray) (W : World) (hB : B ≤ W.heap.size) (hN : Nds B W a n c t) (hs : s.size ≤ 9223372036854775807) :
    Calls Try.prog 42 #[.agg #[.slice a n c], .string s] W (OwnT W (undW t s) (trieB t && okW s)) := by
  have hN := hN.mono hB
  have cT := Lib.hid (fun W w a (G : Gv W w a n c t) => isTrie_any W.heap.size a n c t w G.bel.size G.nds)
  have cP := Lib.hid (fun w => implIsWord_any s w hs)
  unfold undW
  obtain ⟨q, hq⟩ : ∃ q, trieB t = q := ⟨_, rfl⟩
  obtain ⟨q2, hq2⟩ : ∃ q2, okW s = q2 := ⟨_, rfl⟩
  have HQ := Lib.hid hq
  have HQ2 := Lib.hid hq2
  rw [hq] at cT ⊢
  rw [hq2] at cP ⊢
  clear hq hq2
  cases q with
  | false =>
    have G1 := Lib.hid (Gv.start hN)
    have hbx := G1.out.box
    clear hN
    go_enter Try.func42, Try.ntmps42
    go_wp2_with (first
      | (go_at_call 28; refine (cT.out _ _ _ G1.out).mono ?_; rintro e w2 ⟨rfl, hb2⟩; have G2 := Lib.hid (G1.out.on hb2); clear hb2))
    go_ret2
    exact ⟨_, rfl, World.ownsRow_nil _ _ _ _, G2.out.bel⟩
  | true =>
    cases q2 with
    | false =>
      have G1 := Lib.hid (Gv.start hN)
      have hbx := G1.out.box
      clear hN
      go_enter Try.func42, Try.ntmps42
      go_wp2_with (first
        | (go_at_call 28; refine (cT.out _ _ _ G1.out).mono ?_; rintro e w2 ⟨rfl, hb2⟩; have G2 := Lib.hid (G1.out.on hb2); clear hb2)
        | (go_at_call 58; refine (cP.out _).mono ?_; rintro e w3 ⟨rfl, hb3⟩; have G3 := Lib.hid (G2.out.on hb3); clear hb3))
      go_ret2
      exact ⟨_, rfl, World.ownsRow_nil _ _ _ _, G3.out.bel⟩
    | true =>
      obtain ⟨ps, hv⟩ := trieB_iff.1 HQ.out
      have HV := Lib.hid hv
      have HWd : Hid (wds t ps = wordsOf t) := Lib.hid (wordsOf_eq hv).symm
      clear hv
      have hel : (if (true && true) = true then undr (tx s) (wordsOf t) else []) = undr (tx s) (wordsOf t) := rfl
      rw [hel]
      clear hel
      obtain ⟨ws, hws⟩ : ∃ ws, wordsOf t = ws := ⟨_, rfl⟩
      rw [hws] at HWd ⊢
      clear hws
      have G1 := Lib.hid (Gv.start hN)
      have hbx := G1.out.box
      clear hN
      go_enter Try.func42, Try.ntmps42
      go_wp2_with fail
      refine (cT.out _ _ _ G1.out).mono ?_
      rintro e w2 ⟨rfl, hb2⟩
      have G2 := Lib.hid (G1.out.on hb2)
      have hbx2 := G2.out.box
      clear hb2 hbx
      go_wp2_with fail
      refine (cP.out _).mono ?_
      rintro e w3 ⟨rfl, hb3⟩
      have G3 := Lib.hid (G2.out.on hb3)
      have hbx3 := G3.out.box
      clear hb3 hbx2
      have cPl := Lib.hid (placeOf_any W.heap.size a n c t ps s w3 G3.out.bel.size G3.out.nds HV.out HQ2.out)
      go_wp2_with fail
      refine cPl.out.mono ?_
      rintro e w4 ⟨j, ok, rfl, hyes, hno, hb4⟩
      have G4 := Lib.hid (G3.out.on hb4)
      have hbx4 := G4.out.box
      have HYes := Lib.hid hyes
      have HNo := Lib.hid hno
      clear hb4 hbx3 hyes hno
      cases ok with
      | false =>
        have HE : Hid (undr (tx s) ws = []) := Lib.hid (by rw [← HWd.out]; exact undr_none HV.out (HNo.out rfl).2)
        go_wp2_with fail
        go_ret2
        exact ⟨_, rfl, by rw [HE.out]; exact wu_lit G4.out.bel.size, G4.out.bel.alloc G4.out.bel.size _⟩
      | true =>
        have HJ := Lib.hid (HYes.out rfl)
        have hjn : j < n := by have h1 := (List.getElem?_eq_some_iff.1 HJ.out).1; have h2 := HV.out.lenEq; have h3 := G4.out.len; omega
        have cB := Lib.hid (wordsBelow_any W.heap.size a n c j t ps w4 G4.out.bel.size G4.out.nds HV.out hjn)
        go_wp2_with fail
        refine cB.out.mono ?_
        rintro e w5 ⟨v5, b5, rfl, hBh, hO5, hb5⟩
        have HO5 : Hid (w5.ownsRow w4.heap.size 9 1 v5 (undr (tx s) ws).length ((undr (tx s) ws).map (fun x => Value.string (bx x)))) := Lib.hid (by rw [undr_under HV.out hBh HJ.out, HWd.out] at hO5; exact hO5)
        have G5 := Lib.hid (G4.out.on hb5)
        clear hO5 hb5 hBh
        go_wp2_with fail
        go_ret2
        exact ⟨_, rfl, own_down HO5.out G4.out.bel.size, G5.out.bel⟩


end Go.Proofs.Ytoofpgehkihbcad.cap
