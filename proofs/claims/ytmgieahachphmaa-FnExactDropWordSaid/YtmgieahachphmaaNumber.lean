/-
  The program's numbering of the twigs: the nodes are appended in the order of their texts.
-/
import Derived.Test.YtmgieahachphmaaPutTwig
import Derived.Test.YtmgieahachphmaaStepRow
import Derived.Test.YtmgieahachphmaaTxtOf
import Derived.Test.YtmgieahachphmaaOf
import Derived.Test.YtmgieahachphmaaKidHere
namespace Go.Proofs.Ytmgieahachphmaa
open Go.RowKit
set_option linter.unusedVariables false

/-- the nodes say what the twigs hold -/
def Match (t : List Nd) (ps : List Txt) (en : Txt → Bool) : Prop := ∀ (i : Nat) (x : Txt) (d : Nd), ps[i]? = some x → t[i]? = some d → d.l = letOf x ∧ d.e = en x

def NumPost (bT : Nat) (w : World) (v : Value) (t : List Nd) (ps : List Txt) (i : Nat) (e : Ending) (w' : World) : Prop :=
  ∃ b v', e = .returned v' ∧ Behind t ps i b ∧ w'.ownsRow bT 74 3 v' b (ndc (t.take b)) ∧ Grew w w' v v'

set_option maxRecDepth 1000000 in
set_option maxHeartbeats 2000000 in
theorem number_any (base bT : Nat) (ps : List Txt) (en : Txt → Bool) (A : Txt → Nat) (t : List Nd) (hT : Tells t t.length ps) (hM : Match t ps en) (hn : t.length ≤ 481) (hlow : ∀ x ∈ ps, A x < bT) :
    ∀ (f i : Nat) (x : Txt) (d : Nd) (v : Value) (w : World), t.length ≤ i + f → ps[i]? = some x → t[i]? = some d → bT ≤ w.heap.size → w.ownsRow bT 74 3 v i (ndc (t.take i)) → Twigs base w ps en A →
    Calls Try.prog 50 #[.pointer (some ⟨A x, 0, none⟩), v, .int .i64 d.p] w (NumPost bT w v t ps i)
  | 0, i, x, d, v, w, hf, hx, hd, _, _, _ => by
    have := (List.getElem?_eq_some_iff.1 hd).1
    omega
  | f + 1, i, x, d, v, w, hf, hx, hd, hbT, hown, htw => by
    have ih := Lib.hid (number_any base bT ps en A t hT hM hn hlow f)
    have HT := Lib.hid hT
    have hi := (List.getElem?_eq_some_iff.1 hd).1
    have hi481 : i < 481 := by omega
    have HX := Lib.hid hx
    have HD := Lib.hid hd
    have HB := Lib.hid hbT
    have HTw := Lib.hid htw
    have HLow := Lib.hid hlow
    have HN := Lib.hid hn
    have HF := Lib.hid hf
    have HS : Hid (Shut ps) := Lib.hid htw.closed
    obtain ⟨hml, hme⟩ := hM i x d hx hd
    obtain ⟨kp, np, hTB, hk0, _⟩ := htw.spot x (at_mem hx)
    have hc0 := hTB.c0
    have hc1 := hTB.c1
    have hc2 := hTB.c2
    rw [← hml] at hc0
    rw [← hme] at hc1
    have HK0 := Lib.hid hk0
    obtain ⟨a, c, rfl⟩ := own_slice hown
    have HO := Lib.hid hown
    have HRow : Hid (ndc (t.take i) ++ [.int .i64 d.l, .int .i64 d.p, .bool d.e] = ndc (t.take (i + 1))) := Lib.hid (by rw [take_mk hd, ndc_app]; rfl)
    obtain ⟨i0, hii, hz0, hz1, hz2⟩ := info_parts infoN
    have hltA : A x < w.heap.size := htw.lt (at_mem hx)
    have hneA : some (A x) ≠ Value.ownBlock (.slice a i c) := fun he => by
      have h1 := (hown.lt _ he.symm).1
      have h2 := hlow x (at_mem hx)
      omega
    clear hT hx hd hbT hown htw hml hme hTB hk0 hM hlow hn hf hi
    go_enter Try.func50, Try.ntmps50
    go_wp2
    go_region_held3 (fun w' => w'.cell? ⟨A x, 0, none⟩ = some (.int .i64 d.l) ∧ w'.cell? ⟨A x, 1, none⟩ = some (.bool d.e))
      (first
        | exact ⟨(hGr.cell ⟨A x, 0, none⟩ hltA hneA).trans hc0, (hGr.cell ⟨A x, 1, none⟩ hltA hneA).trans hc1⟩
        | exact ⟨(World.cell?_alloc_lt _ _ _ hltA).trans hc0, (World.cell?_alloc_lt _ _ _ hltA).trans hc1⟩
        | exact ⟨hc0, hc1⟩)
      (first
        | (refine step_append_row (by rfl) _ _ 28 (by rfl) bT 74 i0 (.agg #[.int .i64 0, .int .i64 0, .bool false]) 3 24 Try.underlying28 hii hz0 hz1 hz2 (by rfl) (by decide) _ _ _ (by rfl) (by exact HO.out.alloc _) ⟨_, 0, none⟩ 1 1 [.int .i64 d.l, .int .i64 d.p, .bool d.e] (by rfl) (by rfl) (by exact news_at (cs := #[.int .i64 d.l, .int .i64 d.p, .bool d.e]) (by rfl)) (by simp [Value.oneCell']) (by unfold maxLen; omega) (by omega) (by have := HB.out; simp; omega) ?_; intro v2 w2 hO2 hG2 hat2; have hGr : Grew w w2 (.slice a i c) v2 := Grew.app (o := .cells #[.int .i64 d.l, .int .i64 d.p, .bool d.e] 74) ⟨hG2.os, hG2.tape, hG2.output, hG2.size, hG2.block⟩ hat2; clear hG2 hat2))
    have HO2 : Hid (w2.ownsRow bT 74 3 v2 (i + 1) (ndc (t.take (i + 1)))) := Lib.hid (by rw [← HRow.out]; exact hO2)
    have HG2 := Lib.hid hGr
    have hc2' := (hGr.cell ⟨A x, 2, none⟩ hltA hneA).trans hc2
    have hB2 := (hGr.to HO.out HB.out)
    have HTw2 : Hid (Twigs base w2 ps en A) := Lib.hid (HTw.out.keep fun z hz => hB2.block _ (HLow.out z hz))
    have HB2 : Hid (bT ≤ w2.heap.size) := Lib.hid (Nat.le_trans HB.out hGr.grown.size)
    clear hO2 hGr hc0 hc1 hc2 hB2
    go_wp2
    clear hc2'
    go_loopg [1, 8] (t.length - (i + 1)) (fun g s1 s8 wr => ∃ (lo k : Nat) (v' : Value) (p : Option Addr), s8 = .pointer p ∧ v' = s1 ∧ Hid (g = t.length - k) ∧ Hid (LinkIs ps A x lo p) ∧ Hid (KH t ps i x lo k) ∧ Hid (wr.ownsRow bT 74 3 v' k (ndc (t.take k))) ∧ Hid (Grew w wr (.slice a i c) v') ∧ Hid (Twigs base wr ps en A) ∧ Hid (bT ≤ wr.heap.size))
    case atStart => exact ⟨0, i + 1, v2, kp, rfl, rfl, Lib.hid rfl, HK0, Lib.hid (KH.start HT.out HX.out), HO2, HG2, HTw2, HB2⟩
    case round =>
      obtain ⟨lo, k, v', p, rfl, rfl, HGk, HL, HKH, HOk, HGr, HTk, HBk⟩ := hrel
      obtain ⟨o, hnk, rfl⟩ := HL.out
      have HNk := Lib.hid hnk
      clear hnk
      cases o with
      | none =>
        have HBh := Lib.hid (HKH.out.stop HT.out HS.out HX.out HNk.out)
        simp only [Option.map_none]
        go_wp2
        go_ret
        exact ⟨k, _, rfl, HBh.out, HOk.out, HGr.out⟩
      | some c2 =>
        have hkc := HKH.out.kid HT.out HS.out HX.out HNk.out
        have hik := HKH.out.lt
        have hkl : k < t.length := by have := HT.out.len; have := (List.getElem?_eq_some_iff.1 hkc).1; omega
        obtain ⟨dk, _, hdk, _⟩ := HT.out.at hkl
        have hpk := (par_iff HT.out HX.out (by omega) hdk).2 ⟨c2, hkc⟩
        have HKc := Lib.hid hkc
        have cN := ih.out k (x ++ [c2]) dk v' wr (by have := HF.out; omega) hkc hdk HBk.out HOk.out HTk.out
        rw [hpk] at cN
        have HCN := Lib.hid cN
        clear cN hkc hdk hpk
        simp only [Option.map_some]
        go_wp2_with (go_at_call 50; refine HCN.out.mono ?_; rintro en3 w3 ⟨b, v3, rfl, hb3, hO3, hG3⟩; have HB3 := Lib.hid hb3; have HO3 := Lib.hid hO3; have HG3 := Lib.hid hG3; have HTw3 : Hid (Twigs base w3 ps en A) := Lib.hid (HTk.out.keep fun z hz => (hG3.to HOk.out HBk.out).block _ (HLow.out z hz)); clear hb3 hO3 hG3; obtain ⟨k3, n3, hTB3, _, hN3⟩ := HTw3.out.spot _ (at_mem HKc.out); have hc3 := hTB3.c3; have HN3 := Lib.hid hN3; clear hN3 hTB3)
        have hkb := HB3.out.lt
        go_roundg (t.length - b)
        case measure => rw [HGk.out]; omega
        case rel => exact ⟨c2.toNat + 1, b, v3, n3, rfl, rfl, Lib.hid rfl, Lib.hid (HN3.out x c2 rfl), Lib.hid (HKH.out.next HT.out HS.out HX.out HNk.out HB3.out), HO3, Lib.hid (HGr.out.trans HG3.out), HTw3, Lib.hid (Nat.le_trans HBk.out HG3.out.grown.size)⟩

end Go.Proofs.Ytmgieahachphmaa
