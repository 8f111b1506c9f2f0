/-
  The program's answer to 'is it a word', for every list of nodes and every text.
-/
import Derived.Test.YtibdfhhbkbncgaaWord
import Derived.Test.YtibdfhhbkbncgaaGvT
import Derived.Test.YtibdfhhbkbncgaaPlaceC
import Derived.Test.YtibdfhhbkbncgaaWordsN
import Derived.Test.YtibdfhhbkbncgaaOwnTrie
namespace Go.Proofs.Ytibdfhhbkbncgaa
open Go.RowKit
set_option linter.unusedVariables false

theorem has_end_iff {t : List Nd} {ps : List Txt} (hv : Valid t ps) {j : Nat} {d : Nd} {x : Txt} (hd : t[j]? = some d) (hx : ps[j]? = some x) : x ∈ wds t ps ↔ d.e = true := by
  rw [mem_wds]
  constructor
  · rintro ⟨i, d2, h1, h2, h3⟩
    have := asc_inj hv.tells.asc h2 hx
    subst this
    rw [hd] at h1
    injection h1 with h1
    rw [h1]; exact h3
  · intro h; exact ⟨j, d, hd, hx, h⟩

theorem ret_bb {u v p q : Bool} (h : u = v) (k : p = q) : Ending.returned (.tuple #[.bool u, .bool p]) = .returned (.tuple #[.bool v, .bool q]) := by rw [h, k]
theorem ret_nb {u v : Int} {p q : Bool} (h : u = v) (k : p = q) : Ending.returned (.tuple #[.int .i64 u, .bool p]) = .returned (.tuple #[.int .i64 v, .bool q]) := by rw [h, k]

/-- a word of a valid trie -/
noncomputable def hasB (t : List Nd) (s : ByteArray) : Bool := trieB t && okW s && decide (tx s ∈ wordsOf t)

set_option maxRecDepth 1000000 in
set_option maxHeartbeats 1000000 in
theorem implHasWord_any (t : List Nd) (n c : Nat) (s : ByteArray) (hs : s.size ≤ 9223372036854775807) (W : World) (a : Option Addr) (hN : Nds W.heap.size W a n c t) :
    Calls Try.prog 78 #[.agg #[.slice a n c], .string s] W fun e w' => e = .returned (.tuple #[.bool (hasB t s), .bool (trieB t && okW s)]) ∧ Below W.heap.size W w' := by
  have G1 := Lib.hid (Gv.start hN)
  have hbx := G1.out.box
  have cT := Lib.hid (fun W w a (G : Gv W w a n c t) => isTrie_any W.heap.size a n c t w G.bel.size G.nds)
  have cP := Lib.hid (fun w => implIsWord_any s w hs)
  unfold hasB
  obtain ⟨q, hq⟩ : ∃ q, trieB t = q := ⟨_, rfl⟩
  obtain ⟨q2, hq2⟩ : ∃ q2, okW s = q2 := ⟨_, rfl⟩
  have HQ := Lib.hid hq
  have HQ2 := Lib.hid hq2
  rw [hq] at cT ⊢
  rw [hq2] at cP ⊢
  clear hq hq2 hN
  cases q with
  | false =>
    go_enter Try.func78, Try.ntmps78
    go_wp2_with (first
      | (go_at_call 57; refine (cT.out _ _ _ G1.out).mono ?_; rintro e w2 ⟨rfl, hb2⟩; have G2 := Lib.hid (G1.out.on hb2); clear hb2))
    go_ret2
    exact ⟨rfl, G2.out.bel⟩
  | true =>
    cases q2 with
    | false =>
      go_enter Try.func78, Try.ntmps78
      go_wp2_with (first
        | (go_at_call 57; refine (cT.out _ _ _ G1.out).mono ?_; rintro e w2 ⟨rfl, hb2⟩; have G2 := Lib.hid (G1.out.on hb2); clear hb2)
        | (go_at_call 89; refine (cP.out _).mono ?_; rintro e w3 ⟨rfl, hb3⟩; have G3 := Lib.hid (G2.out.on hb3); clear hb3))
      go_ret2
      exact ⟨rfl, G3.out.bel⟩
    | true =>
      obtain ⟨ps, hv⟩ := trieB_iff.1 HQ.out
      have HV := Lib.hid hv
      have HWo := Lib.hid (wordsOf_eq hv)
      clear hv
      go_enter Try.func78, Try.ntmps78
      go_wp2_with fail
      refine (cT.out _ _ _ G1.out).mono ?_
      rintro e w2 ⟨rfl, hb2⟩
      have G2 := Lib.hid (G1.out.on hb2)
      have hbx2 := G2.out.box
      clear hb2 hbx
      go_wp2_with fail
      refine (cP.out _).mono ?_
      rintro e w3 ⟨rfl, hb3⟩
      have G3 := Lib.hid (G2.out.on hb3)
      have hbx3 := G3.out.box
      clear hb3 hbx2
      have cPl := Lib.hid (cap.placeOf_any W.heap.size a n c t ps s w3 G3.out.bel.size G3.out.nds HV.out HQ2.out)
      go_wp2_with fail
      refine cPl.out.mono ?_
      rintro e w4 ⟨j, ok, rfl, hyes, hno, hb4⟩
      have G4 := Lib.hid (G3.out.on hb4)
      have hbx4 := G4.out.box
      have HYes := Lib.hid hyes
      have HNo := Lib.hid hno
      clear hb4 hbx3 hyes hno
      cases ok with
      | false =>
        have HE : Hid (decide (tx s ∈ wordsOf t) = false) := Lib.hid (by
          rw [decide_eq_false_iff_not, HWo.out]
          exact fun h => (HNo.out rfl).2 ((wds_sub t ps).subset h))
        go_wp2_with fail
        go_ret2
        exact ⟨ret_bb (by rw [HE.out]; rfl) rfl, G4.out.bel⟩
      | true =>
        have HJ := Lib.hid (HYes.out rfl)
        have hjn : j < n := by have h1 := (List.getElem?_eq_some_iff.1 HJ.out).1; have h2 := HV.out.lenEq; have h3 := G4.out.len; omega
        have hj2 : (j : Int) < (n : Int) := by omega
        have hcap := G4.out.nds.cap
        have htop := G4.out.nds.top
        obtain ⟨b, o, l, p, e, rfl, hbB, hd, hl, hp, hc1, hc2, hc3⟩ := G4.out.nds.elem j hjn
        have HD : Hid (decide (tx s ∈ wordsOf t) = e) := Lib.hid (by
          rw [HWo.out, Bool.eq_iff_iff, decide_eq_true_eq]
          exact has_end_iff HV.out hd HJ.out)
        clear hd
        go_wp2_with fail
        go_ret2
        exact ⟨ret_bb (by rw [HD.out]; rfl) rfl, G4.out.bel⟩

end Go.Proofs.Ytibdfhhbkbncgaa
