/-
  All words of a trie that a pattern fits: both functions.
-/
import Derived.Test.YtpneflbnipefaabOX
import Derived.Test.YtpneflbnipefaabTrie
import Derived.Test.YtpneflbnipefaabFitsS
import Derived.Test.YtpneflbnipefaabFitsI
import Derived.Test.YtpneflbnipefaabWwFit
import Derived.Test.YtpneflbnipefaabIsTrie
import Derived.Test.YtpneflbnipefaabMarkOwnS
namespace Go.Proofs.Ytpneflbnipefaab.cap
open Go.RowKit
set_option linter.unusedVariables false

/-- the words that are wanted -/
def fitB (p : ByteArray) (x : Txt) : Bool := fit p.data.toList x p.size x.length
noncomputable def fitL (t : List Nd) (p : ByteArray) : List Txt := (wordsOf t).filter (fitB p)

theorem filter_yes {ws : List Txt} {f : Txt → Bool} {k : Nat} {x : Txt} (h : ws[k]? = some x) (hf : f x = true) : (ws.take (k + 1)).filter f = (ws.take k).filter f ++ [x] := by
  rw [List.take_add_one, h, List.filter_append]
  simp [hf]
theorem filter_no {ws : List Txt} {f : Txt → Bool} {k : Nat} {x : Txt} (h : ws[k]? = some x) (hf : f x = false) : (ws.take (k + 1)).filter f = (ws.take k).filter f := by
  rw [List.take_add_one, h, List.filter_append]
  simp [hf]
theorem filter_le (ws : List Txt) (f : Txt → Bool) (k : Nat) (h : k ≤ ws.length) : ((ws.take k).filter f).length ≤ k := by
  have h1 := List.length_filter_le f (ws.take k)
  rw [List.length_take] at h1
  omega

theorem lit_ownS {W : World} {o : Obj} : ((W.alloc o).alloc (.cells #[] 9)).ownsRow (W.heap.size + 1) 9 1 (.slice (some ⟨W.heap.size + 1, 0, none⟩) 0 0) 0 [] := by
  have := World.ownsRow_lit (base := W.heap.size + 1) (e := 9) (size := 1) (W.alloc o) #[] 0 (by simp) (by unfold maxLen; omega) rfl
  simpa using this

set_option maxRecDepth 1000000 in
set_option maxHeartbeats 4000000 in
theorem specFitW (t : List Nd) (n c : Nat) (p : ByteArray) (hn : n ≤ 1048576) (hp : p.size ≤ 1048576) (xs : List Txt) (ok : Bool) (hok : ok = (trieB t && okG p)) (hy : ok = true → xs = fitL t p) (hno : ok = false → xs = []) (W : World) (a : Option Addr) (hN : Nds W.heap.size W a n c t) :
    Calls Try.prog 18 #[.agg #[.slice a n c], .string p] W (ownS.OwnTexts W xs ok) := by
  have G1 := Lib.hid (Gv.start hN)
  have cT := Lib.hid (fun W w a (G : Gv W w a n c t) => l2Trie_any W.heap.size a n c t w G.bel.size G.nds hn)
  have cP := Lib.hid (fun w => l6Pattern_any p w (by omega))
  have HOk := Lib.hid hok
  have HY := Lib.hid hy
  have HNo := Lib.hid hno
  have HO1 := Lib.hid (lit_ownS (W := W) (o := .cells #[.slice a n c] 31))
  have G1' : Hid (Gv W ((W.alloc (.cells #[.slice a n c] 31)).alloc (.cells #[] 9)) a n c t) := Lib.hid (G1.out.on ((Below.refl _ _).alloc (Nat.le_refl _) _))
  have hbx := G1'.out.box
  obtain ⟨q1, hq1⟩ : ∃ q1, trieB t = q1 := ⟨_, rfl⟩
  obtain ⟨q2, hq2⟩ : ∃ q2, okG p = q2 := ⟨_, rfl⟩
  have HQ := Lib.hid hq1
  have HQ2 := Lib.hid hq2
  rw [hq1] at cT HOk
  rw [hq2] at cP HOk
  clear hq1 hq2 hN hok hy hno
  cases q1 with
  | false =>
    go_enter Try.func18, Try.ntmps18
    go_wp2_with fail
    refine (cT.out _ _ _ G1'.out).mono ?_
    rintro e w2 ⟨rfl, hb2⟩
    have G2 := Lib.hid (G1'.out.on hb2)
    have HO2 := Lib.hid (own_stay HO1.out hb2)
    clear hb2 hbx
    go_wp2_with fail
    go_ret2
    have e1 := HNo.out HOk.out
    exact ⟨_, by rw [HOk.out]; rfl, by rw [e1]; exact own_down HO2.out (by omega), G2.out.bel⟩
  | true =>
    cases q2 with
    | false =>
      go_enter Try.func18, Try.ntmps18
      go_wp2_with fail
      refine (cT.out _ _ _ G1'.out).mono ?_
      rintro e w2 ⟨rfl, hb2⟩
      have G2 := Lib.hid (G1'.out.on hb2)
      have HO2 := Lib.hid (own_stay HO1.out hb2)
      clear hb2 hbx
      go_wp2_with fail
      refine (cP.out _).mono ?_
      rintro e w3 ⟨rfl, rfl⟩
      go_wp2_with fail
      go_ret2
      have e1 := HNo.out HOk.out
      exact ⟨_, by rw [HOk.out]; rfl, by rw [e1]; exact own_down HO2.out (by omega), G2.out.bel⟩
    | true =>
      have HXs := Lib.hid (HY.out HOk.out)
      have cW := Lib.hid (fun W w a (G : Gv W w a n c t) => specWords_own W.heap.size a n c t w G.bel.size G.nds hn (trieB_iff.1 HQ.out))
      have hm40 := wordsOf_size t
      have HSh := Lib.hid (wordsOf_short t)
      have hp14 := okG_size HQ2.out
      have HFl : Hid (fitL t p = (wordsOf t).filter (fitB p)) := Lib.hid rfl
      clear HY HNo
      obtain ⟨ws, hws⟩ : ∃ ws, wordsOf t = ws := ⟨_, rfl⟩
      rw [hws] at cW hm40 HSh HFl
      clear hws
      obtain ⟨mA, hmA⟩ : ∃ mA, ws.length = mA := ⟨_, rfl⟩
      rw [hmA] at cW hm40
      have HMA := Lib.hid hmA
      clear hmA
      obtain ⟨i0, hii, hz0, hz1, hz2⟩ := info_parts infoS
      go_enter Try.func18, Try.ntmps18
      go_wp2_with fail
      refine (cT.out _ _ _ G1'.out).mono ?_
      rintro e w2 ⟨rfl, hb2⟩
      have G2 := Lib.hid (G1'.out.on hb2)
      have HO2 := Lib.hid (own_stay HO1.out hb2)
      have hbx2 := G2.out.box
      clear hb2 hbx
      go_wp2_with fail
      refine (cP.out _).mono ?_
      rintro e w3 ⟨rfl, rfl⟩
      go_wp2_with fail
      refine (cW.out _ _ _ G2.out).mono ?_
      rintro e w3 ⟨a3, c3, rfl, hW3, hb3⟩
      have R3 : Hid (OX (W.heap.size + 1) w3 9 1 (.slice (some ⟨W.heap.size + 1, 0, none⟩) 0 0) 0 (((ws.take 0).filter (fitB p)).map fun x => Value.string (bx x)) 9 (.slice a3 mA c3) mA (ws.map (fun x => Value.string (bx x)))) := Lib.hid (by
        have := OX.later HO2.out hb3 hW3
        simpa using this)
      have G3 := Lib.hid (G2.out.on hb3)
      have CA := (Sl.of_own hW3).cap
      have TA := (Sl.of_own hW3).top
      clear hb3 hbx2 hW3
      go_wp2_with fail
      go_loopw [6, 8] (fun o i wr => ∃ (k m : Nat) (v : Value), k ≤ mA ∧ v = o ∧ i = .int .i64 k ∧ m ≤ k ∧ Hid (OX (W.heap.size + 1) wr 9 1 v m (((ws.take k).filter (fitB p)).map fun x => Value.string (bx x)) 9 (.slice a3 mA c3) mA (ws.map (fun x => Value.string (bx x)))) ∧ Hid (Gv W wr a n c t)) (fun _ i _ => mA - (intOf i).toNat)
      case atStart => exact ⟨0, 0, _, Nat.zero_le _, rfl, rfl, Nat.le_refl _, R3, G3⟩
      case round =>
        clear R3 G3
        obtain ⟨k, m, v, hk, rfl, rfl, hmk, R, G⟩ := hrel
        have hbase : W.heap.size + 1 ≤ wr.heap.size := G.out.lt
        by_cases hlt : k < mA
        · obtain ⟨x, hx⟩ : ∃ x, ws[k]? = some x := ⟨_, List.getElem?_eq_getElem (by rw [HMA.out]; exact hlt)⟩
          have HX := Lib.hid hx
          have hs12 := HSh.out x (at_mem hx)
          obtain ⟨b9, o9, e9, _, hcx⟩ := (Sl.of_own R.out.ext).spot k (.string (bx x)) (by rw [List.getElem?_map, hx]; rfl)
          subst e9
          have cF0 := fun w => l6Fits_any p (bx x) w hp14 (by rw [bx_size]; exact hs12)
          have e7 : fit p.data.toList (bx x).data.toList p.size (bx x).size = fitB p x := by unfold fitB; rw [bx_size]; rfl
          rw [e7] at cF0
          have cF := Lib.hid cF0
          have hi0 : (0 : Int) ≤ (k : Int) := by omega
          have hi1 : (k : Int) < (mA : Int) := by omega
          obtain ⟨sx, hsx⟩ : ∃ sx, bx x = sx := ⟨_, rfl⟩
          have HSX := Lib.hid hsx
          rw [hsx] at cF hcx
          obtain ⟨fb, hfb⟩ : ∃ fb, fitB p x = fb := ⟨_, rfl⟩
          have HFB := Lib.hid hfb
          rw [hfb] at cF
          clear hx hsx hfb cF0 e7
          go_wp2_with fail
          refine (cF.out _).mono ?_
          rintro e w4 ⟨rfl, hb4⟩
          have R4 := Lib.hid (R.out.on hb4)
          have G4 := Lib.hid (G.out.on hb4)
          have hcx4 := (hb4.cell (p := ⟨b9, o9 + k, none⟩) (World.block_lt_of_cell? _ _ hcx)).trans hcx
          have hb4s : W.heap.size + 1 ≤ w4.heap.size := Nat.le_trans hbase hb4.size
          clear hb4 hcx R G cF
          cases fb
          · have HP := Lib.hid (filter_no HX.out HFB.out)
            go_wp2_with fail
            go_roundw
            case rel => exact ⟨k + 1, m, _, by omega, rfl, by go_num, by omega, Lib.hid (by rw [HP.out]; exact R4.out), G4⟩
            case measure => simp [intOf]; omega
          · have HP : Hid ((((ws.take (k + 1)).filter (fitB p)).map fun x => Value.string (bx x)) = (((ws.take k).filter (fitB p)).map fun x => Value.string (bx x)) ++ [.string sx]) := Lib.hid (by rw [filter_yes HX.out HFB.out, List.map_append, ← HSX.out]; rfl)
            go_wp2_with (first
              | (at_builtin; refine wpList_append_own_at _ rfl _ _ 26 rfl (W.heap.size + 1) 9 i0 (.string ByteArray.empty) 1 16 Try.underlying26 hii hz0 hz1 hz2 rfl (by decide) _ _ _ rfl (R4.out.out.alloc _) ⟨w4.heap.size, 0, none⟩ 1 1 [.string sx] rfl rfl (cell_one_new _ _ _) (by simp [Value.oneCell']) (by unfold maxLen; omega) (by omega) (by simp; omega) ?_; intro v3 w5 hO3 hG3 _ hat; have R5 := Lib.hid (R4.out.app (m2 := m + 1) (xs2 := (((ws.take (k + 1)).filter (fitB p)).map fun x => Value.string (bx x))) (by rw [HP.out]; exact hO3) hG3 hat); have G5 := Lib.hid (G4.out.on2 (R4.out.below hb4s hG3)); clear hO3 hG3 hat))
            go_roundw
            case rel => exact ⟨k + 1, m + 1, _, by omega, rfl, by go_num, by omega, R5, G5⟩
            case measure => simp [intOf]; omega
        · obtain rfl : k = mA := by omega
          have hxs : (ws.take k).filter (fitB p) = xs := by rw [List.take_of_length_le (by rw [HMA.out]; exact Nat.le_refl _), HXs.out, HFl.out]
          have hml : m = xs.length := by
            have h9 : ((((ws.take k).filter (fitB p)).map fun x => Value.string (bx x))).length = m * 1 := R.out.out.1
            rw [List.length_map, hxs] at h9
            omega
          subst hml
          have HF : Hid (wr.ownsRow (W.heap.size + 1) 9 1 v xs.length (xs.map fun x => Value.string (bx x))) := Lib.hid (by rw [← hxs]; have := R.out.out; rw [← hxs] at this; exact this)
          clear hxs
          go_wp2_with fail
          go_ret2
          exact ⟨_, by rw [HOk.out]; rfl, own_down HF.out (by omega), G.out.bel⟩

end Go.Proofs.Ytpneflbnipefaab.cap
