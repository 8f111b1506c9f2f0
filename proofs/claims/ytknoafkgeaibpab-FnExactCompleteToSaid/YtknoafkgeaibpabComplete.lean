/-
  The longest text with which all words begin that begin with a prefix: the program's answer.
-/
import Derived.Test.YtknoafkgeaibpabShared
import Derived.Test.YtknoafkgeaibpabNodeW
import Derived.Test.YtknoafkgeaibpabBelC
import Derived.Deep.RegionHeld3
namespace Go.Proofs.Ytknoafkgeaibpab
open Go.RowKit
set_option linter.unusedVariables false

/-- there are words that begin with the prefix -/
noncomputable def compOk (t : List Nd) (s : ByteArray) : Bool := trieB t && okW s && !(undr (tx s) (wordsOf t)).isEmpty

structure CompFacts (t : List Nd) (s v : ByteArray) (ok : Bool) : Prop where
  okEq : ok = compOk t s
  yes : ok = true → IsShared (undr (tx s) (wordsOf t)) (tx v)
  no : ok = false → v = ⟨#[]⟩

theorem CompFacts.mk_no {t : List Nd} {s : ByteArray} (h : compOk t s = false) : CompFacts t s ⟨#[]⟩ false := ⟨h.symm, (fun e => by cases e), (fun _ => rfl)⟩

set_option maxRecDepth 1000000 in
set_option maxHeartbeats 2000000 in
theorem implComplete (t : List Nd) (n c : Nat) (s : ByteArray) (hn : n ≤ 1048576) (hs : s.size ≤ 9223372036854775807) : ∃ (v : ByteArray) (ok : Bool), CompFacts t s v ok ∧
    ∀ (W : World) (a : Option Addr), Nds W.heap.size W a n c t → Calls Try.prog 12 #[.agg #[.slice a n c], .string s] W fun e w' => e = .returned (.tuple #[.string v, .bool ok]) ∧ Below W.heap.size W w' := by
  by_cases hq : trieB t = true ∧ okW s = true ∧ ∃ ps, Valid t ps ∧ tx s ∈ ps
  · obtain ⟨h1, h2, ps, hv, hm⟩ := hq
    obtain ⟨j, hj⟩ := mem_at hm
    have hwo := wordsOf_eq hv
    have hs12 : s.size ≤ 12 := by have := (okW_iff.1 h2).1; rwa [tx_len] at this
    have HV := Lib.hid hv
    have HJ := Lib.hid hj
    have HWo := Lib.hid hwo
    have cN := Lib.hid (fun (W w : World) (a : Option Addr) (G : Gv W w a n c t) => implNodeOf_yes t ps n c j s hs hv h2 hj w a (G.nds.mono (Nat.le_of_lt G.lt)))
    by_cases hu : undr (tx s) (wordsOf t) = []
    · have hc : compOk t s = false := by unfold compOk; rw [hu]; simp
      refine ⟨⟨#[]⟩, false, CompFacts.mk_no hc, fun W a hN => ?_⟩
      have G1 := Lib.hid (Gv.start hN)
      have hbx := G1.out.box
      have hjn : j < n := by have h1 := (List.getElem?_eq_some_iff.1 hj).1; have h2 := hv.lenEq; have h3 := G1.out.len; omega
      have cC : Hid (∀ w, Gv W w a n c t → Calls Try.prog 39 #[.agg #[.slice a n c], .int .i64 (j : Int)] w fun e w' => e = .returned (.int .i64 0) ∧ Below w.heap.size w w') := Lib.hid (fun w G => (countBelow_any W.heap.size a n c j t ps w G.bel.size G.nds HV.out hjn).mono fun e w' ⟨b, e1, e2, e3⟩ => by
        rw [e1, undr_ends HV.out e2 HJ.out, ← HWo.out, hu]
        exact ⟨rfl, e3⟩)
      clear hN h1 h2 hv hm hj hwo hu hc
      go_enter Try.func12, Try.ntmps12
      go_wp2_with fail
      refine (cN.out _ _ _ G1.out).mono ?_
      rintro e w2 ⟨rfl, hb2⟩
      have G2 := Lib.hid (G1.out.on hb2)
      have hbx2 := G2.out.box
      clear hb2 hbx
      go_wp2_with fail
      refine (cC.out _ G2.out).mono ?_
      rintro e w3 ⟨rfl, hb3⟩
      have G3 := Lib.hid (G2.out.on hb3)
      clear hb3 hbx2
      go_wp2_with fail
      go_ret2
      exact ⟨rfl, G3.out.bel⟩
    · have hc : compOk t s = true := by
        unfold compOk
        rw [h1, h2]
        cases h9 : undr (tx s) (wordsOf t) with
        | nil => exact absurd h9 hu
        | cons _ _ => rfl
      obtain ⟨p, hp⟩ := shared_ex hu
      refine ⟨bx p, true, ⟨hc.symm, fun _ => by rw [tx_bx]; exact hp, fun e => by cases e⟩, fun W a hN => ?_⟩
      have G1 := Lib.hid (Gv.start hN)
      have hbx := G1.out.box
      have hjn : j < n := by have h1 := (List.getElem?_eq_some_iff.1 hj).1; have h2 := hv.lenEq; have h3 := G1.out.len; omega
      obtain ⟨q, hq⟩ : ∃ q, (undr (tx s) (wordsOf t)).length = q := ⟨_, rfl⟩
      have hq1 : 1 ≤ q := by
        rw [← hq]
        cases h9 : undr (tx s) (wordsOf t) with
        | nil => exact absurd h9 hu
        | cons _ _ => simp
      have hq2 : q ≤ 40 := by rw [← hq]; exact Nat.le_trans (undr_le _ _) (wordsOf_size t)
      have HQ := Lib.hid hq
      clear hq
      have HU := Lib.hid hu
      have HP := Lib.hid hp
      have cC : Hid (∀ w, Gv W w a n c t → Calls Try.prog 39 #[.agg #[.slice a n c], .int .i64 (j : Int)] w fun e w' => e = .returned (.int .i64 (q : Int)) ∧ Below w.heap.size w w') := Lib.hid (fun w G => (countBelow_any W.heap.size a n c j t ps w G.bel.size G.nds HV.out hjn).mono fun e w' ⟨b, e1, e2, e3⟩ => by
        rw [e1, undr_ends HV.out e2 HJ.out, ← HWo.out, HQ.out]
        exact ⟨rfl, e3⟩)
      have cF : Hid (∀ w, Gv W w a n c t → _) := Lib.hid (fun w (G : Gv W w a n c t) => forkBelow_any W.heap.size a n c j t ps (tx s) w G.bel.size G.nds HV.out HJ.out (by rw [← HWo.out]; exact HU.out))
      have cX : Hid (∀ (k : Nat) (y : Txt) w, Gv W w a n c t → ps[k]? = some y → _) := Lib.hid (fun k y w (G : Gv W w a n c t) hk => prefixAt_any W.heap.size a n c k t.length t ps y w G.bel.size G.nds HV.out.tells hk (HV.out.short y (at_mem hk)))
      clear hN h1 h2 hv hm hj hwo hu hc hp
      have hqz : ((q : Int) == 0) = false := by simp; omega
      go_enter Try.func12, Try.ntmps12
      go_wp2_with fail
      refine (cN.out _ _ _ G1.out).mono ?_
      rintro e w2 ⟨rfl, hb2⟩
      have G2 := Lib.hid (G1.out.on hb2)
      have hbx2 := G2.out.box
      clear hb2 hbx
      go_wp2_with fail
      refine (cC.out _ G2.out).mono ?_
      rintro e w3 ⟨rfl, hb3⟩
      have G3 := Lib.hid (G2.out.on hb3)
      have hbx3 := G3.out.box
      clear hb3 hbx2
      have Gd := Lib.hid (G3.out.on (Below.refl _ _).drew)
      go_wp2_with fail
      go_region_held3 (fun w' => w'.cell? ⟨W.heap.size, 0, none⟩ = some (.slice a n c))
        (first
          | exact hbx3
          | exact (hb5.cell (p := ⟨W.heap.size, 0, none⟩) G4.out.lt).trans G4.out.box
          | exact G4.out.box)
        (first
          | (go_at_call 41; refine (cF.out _ (by exact Gd.out)).mono ?_; rintro e w4 ⟨j4, y4, rfl, hj4, hp4, hb4⟩; have G4 := Lib.hid (Gd.out.on hb4); have HJ4 := Lib.hid hj4; have HP4 := Lib.hid hp4; clear hj4 hp4)
          | (go_at_call 40; refine (cX.out _ _ _ (by exact G4.out) HJ4.out).mono ?_; rintro e w5 ⟨rfl, hb5⟩))
      have G5 := Lib.hid (G4.out.on hb5)
      have HPy : Hid (bx y4 = bx p) := Lib.hid (by
        have h9 := HP4.out
        rw [← HWo.out] at h9
        rw [h9.uniq HP.out])
      clear hb5 hb4
      go_wp2_with fail
      go_ret2
      exact ⟨ret_sb HPy.out rfl, G5.out.bel⟩
  · have hc : compOk t s = false := by
      unfold compOk
      cases h1 : trieB t with
      | false => rfl
      | true =>
        cases h2 : okW s with
        | false => rfl
        | true =>
          obtain ⟨ps, hv⟩ := trieB_iff.1 h1
          have : tx s ∉ ps := fun hm => hq ⟨h1, h2, ps, hv, hm⟩
          rw [wordsOf_eq hv, undr_none hv this]
          rfl
    refine ⟨⟨#[]⟩, false, CompFacts.mk_no hc, fun W a hN => ?_⟩
    have G1 := Lib.hid (Gv.start hN)
    have hbx := G1.out.box
    have cN := Lib.hid (fun (w : World) (G : Gv W w a n c t) => implNodeOf_no t n c s hs (fun h1 h2 ps hv hm => hq ⟨h1, h2, ps, hv, hm⟩) w a (G.nds.mono (Nat.le_of_lt G.lt)))
    clear hN hq hc
    go_enter Try.func12, Try.ntmps12
    go_wp2_with fail
    refine (cN.out _ G1.out).mono ?_
    rintro e w2 ⟨rfl, hb2⟩
    have G2 := Lib.hid (G1.out.on hb2)
    clear hb2 hbx
    go_wp2_with fail
    go_ret2
    exact ⟨rfl, G2.out.bel⟩

end Go.Proofs.Ytknoafkgeaibpab
