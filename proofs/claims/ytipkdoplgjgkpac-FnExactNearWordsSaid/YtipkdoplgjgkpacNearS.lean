/-
  All words of a trie that are near: the reference.
-/
import Derived.Test.YtipkdoplgjgkpacFarG
import Derived.Test.YtipkdoplgjgkpacOX
import Derived.Test.YtipkdoplgjgkpacTrie
import Derived.Test.YtipkdoplgjgkpacNds
import Derived.Test.YtipkdoplgjgkpacDistS
import Derived.Test.YtipkdoplgjgkpacWordsN
import Derived.Test.YtipkdoplgjgkpacFitF
import Derived.Test.YtipkdoplgjgkpacIsTrie
import Derived.Test.YtipkdoplgjgkpacMarkOwnS
namespace Go.Proofs.Ytipkdoplgjgkpac.cap
open Go.RowKit
set_option linter.unusedVariables false

/-- the words that are wanted -/
def nearB (s : ByteArray) (z : Int) (x : Txt) : Bool := decide (((lev x s.data.toList x.length s.size : Nat) : Int) ≤ z)
noncomputable def nearL (t : List Nd) (s : ByteArray) (z : Int) : List Txt := (wordsOf t).filter (nearB s z)
set_option maxRecDepth 1000000 in
set_option maxHeartbeats 4000000 in
theorem specNear (t : List Nd) (n c : Nat) (s : ByteArray) (z : Int) (hn : n ≤ 1048576) (hs : s.size ≤ 1048576) (xs : List Txt) (ok : Bool) (hok : ok = (trieB t && okW s && farB z)) (hy : ok = true → xs = nearL t s z) (hno : ok = false → xs = []) (W : World) (a : Option Addr) (hN : Nds W.heap.size W a n c t) :
    Calls Try.prog 21 #[.agg #[.slice a n c], .string s, .int .i64 z] W (ownS.OwnTexts W xs ok) := by
  have G1 := Lib.hid (Gv.start hN)
  have cG := Lib.hid (fun W w a (G : Gv W w a n c t) => l6Good_any W.heap.size a n c t s z w G.bel.size G.nds hn hs)
  have HOk := Lib.hid hok
  have HY := Lib.hid hy
  have HNo := Lib.hid hno
  have HO1 := Lib.hid (lit_ownS (W := W) (o := .cells #[.slice a n c] 30))
  have G1' : Hid (Gv W ((W.alloc (.cells #[.slice a n c] 30)).alloc (.cells #[] 9)) a n c t) := Lib.hid (G1.out.on ((Below.refl _ _).alloc (Nat.le_refl _) _))
  have hbx := G1'.out.box
  obtain ⟨qq, hq⟩ : ∃ qq, (trieB t && okW s && farB z) = qq := ⟨_, rfl⟩
  have HQ := Lib.hid hq
  rw [hq] at cG HOk
  clear hq hN hok hy hno
  cases qq with
  | false =>
    go_enter Try.func21, Try.ntmps21
    go_wp2_with fail
    refine (cG.out _ _ _ G1'.out).mono ?_
    rintro e w2 ⟨rfl, hb2⟩
    have G2 := Lib.hid (G1'.out.on hb2)
    have HO2 := Lib.hid (own_stay HO1.out hb2)
    clear hb2 hbx
    go_wp2_with fail
    go_ret2
    have e1 := HNo.out HOk.out
    exact ⟨_, by rw [HOk.out]; rfl, by rw [e1]; exact own_down HO2.out (by omega), G2.out.bel⟩
  | true =>
      have hqq := HQ.out
      rw [Bool.and_eq_true, Bool.and_eq_true] at hqq
      have HT := Lib.hid hqq.1.1
      have hs12 := okW_size hqq.1.2
      clear hqq
      have HXs := Lib.hid (HY.out HOk.out)
      have cW := Lib.hid (fun W w a (G : Gv W w a n c t) => specWords_own W.heap.size a n c t w G.bel.size G.nds hn (trieB_iff.1 HT.out))
      have hm40 := wordsOf_size t
      have HSh := Lib.hid (wordsOf_short t)
      have HFl : Hid (nearL t s z = (wordsOf t).filter (nearB s z)) := Lib.hid rfl
      clear HY HNo
      obtain ⟨ws, hws⟩ : ∃ ws, wordsOf t = ws := ⟨_, rfl⟩
      rw [hws] at cW hm40 HSh HFl
      clear hws
      obtain ⟨mA, hmA⟩ : ∃ mA, ws.length = mA := ⟨_, rfl⟩
      rw [hmA] at cW hm40
      have HMA := Lib.hid hmA
      clear hmA
      obtain ⟨i0, hii, hz0, hz1, hz2⟩ := info_parts infoS
      go_enter Try.func21, Try.ntmps21
      go_wp2_with fail
      refine (cG.out _ _ _ G1'.out).mono ?_
      rintro e w2 ⟨rfl, hb2⟩
      have G2 := Lib.hid (G1'.out.on hb2)
      have HO2 := Lib.hid (own_stay HO1.out hb2)
      have hbx2 := G2.out.box
      clear hb2 hbx
      go_wp2_with fail
      refine (cW.out _ _ _ G2.out).mono ?_
      rintro e w3 ⟨a3, c3, rfl, hW3, hb3⟩
      have R3 : Hid (OX (W.heap.size + 1) w3 9 1 (.slice (some ⟨W.heap.size + 1, 0, none⟩) 0 0) 0 (((ws.take 0).filter (nearB s z)).map fun x => Value.string (bx x)) 9 (.slice a3 mA c3) mA (ws.map (fun x => Value.string (bx x)))) := Lib.hid (by
        have := OX.later HO2.out hb3 hW3
        simpa using this)
      have G3 := Lib.hid (G2.out.on hb3)
      have CA := (Sl.of_own hW3).cap
      have TA := (Sl.of_own hW3).top
      clear hb3 hbx2 hW3
      go_wp2_with fail
      go_loopw [8, 10] (fun o i wr => ∃ (k m : Nat) (v : Value), k ≤ mA ∧ v = o ∧ i = .int .i64 k ∧ m ≤ k ∧ Hid (OX (W.heap.size + 1) wr 9 1 v m (((ws.take k).filter (nearB s z)).map fun x => Value.string (bx x)) 9 (.slice a3 mA c3) mA (ws.map (fun x => Value.string (bx x)))) ∧ Hid (Gv W wr a n c t)) (fun _ i _ => mA - (intOf i).toNat)
      case atStart => exact ⟨0, 0, _, Nat.zero_le _, rfl, rfl, Nat.le_refl _, R3, G3⟩
      case round =>
        clear R3 G3
        obtain ⟨k, m, v, hk, rfl, rfl, hmk, R, G⟩ := hrel
        have hbase : W.heap.size + 1 ≤ wr.heap.size := G.out.lt
        by_cases hlt : k < mA
        · obtain ⟨x, hx⟩ : ∃ x, ws[k]? = some x := ⟨_, List.getElem?_eq_getElem (by rw [HMA.out]; exact hlt)⟩
          have HX := Lib.hid hx
          have hx12 := HSh.out x (at_mem hx)
          obtain ⟨b9, o9, e9, _, hcx⟩ := (Sl.of_own R.out.ext).spot k (.string (bx x)) (by rw [List.getElem?_map, hx]; rfl)
          subst e9
          have hi0 : (0 : Int) ≤ (k : Int) := by omega
          have hi1 : (k : Int) < (mA : Int) := by omega
          have hsz9 := bx_size x
          obtain ⟨fb, hfb⟩ : ∃ fb, nearB s z x = fb := ⟨_, rfl⟩
          have HFB := Lib.hid hfb
          have HDef : Hid (nearB s z x = decide (((lev (bx x).data.toList s.data.toList (bx x).size s.size : Nat) : Int) ≤ z)) := Lib.hid (by rw [hsz9]; rfl)
          have cF0 := fun w => l6Distance_any (bx x) s w (by rw [hsz9]; exact hx12) hs12
          obtain ⟨sx, hsx⟩ : ∃ sx, bx x = sx := ⟨_, rfl⟩
          have HSX := Lib.hid hsx
          rw [hsx] at cF0 hcx HDef
          clear hx hsx hfb hsz9
          have cF := Lib.hid cF0
          obtain ⟨d, hd⟩ : ∃ d, lev sx.data.toList s.data.toList sx.size s.size = d := ⟨_, rfl⟩
          rw [hd] at cF HDef
          have hfb2 : fb = decide ((d : Int) ≤ z) := by rw [← HFB.out, HDef.out]
          have HFb2 := Lib.hid hfb2
          clear hd cF0 hfb2
          have hcx2 := hcx
          go_wp2_with fail
          refine (cF.out _).mono ?_
          rintro e w4 ⟨rfl, hb4⟩
          have R4 := Lib.hid (R.out.on hb4)
          have G4 := Lib.hid (G.out.on hb4)
          have hcx4 := (hb4.cell (p := ⟨b9, o9 + k, none⟩) (World.block_lt_of_cell? _ _ hcx)).trans hcx
          have hb4s : W.heap.size + 1 ≤ w4.heap.size := Nat.le_trans hbase hb4.size
          clear hb4 hcx hcx2 R G cF
          by_cases hdz : (d : Int) ≤ z
          · obtain rfl : fb = true := by rw [HFb2.out, decide_eq_true hdz]
            have HP : Hid ((((ws.take (k + 1)).filter (nearB s z)).map fun x => Value.string (bx x)) = (((ws.take k).filter (nearB s z)).map fun x => Value.string (bx x)) ++ [.string sx]) := Lib.hid (by rw [filter_yes HX.out HFB.out, List.map_append, ← HSX.out]; rfl)
            go_wp2_with (first
              | (at_builtin; refine wpList_append_own_at _ rfl _ _ 39 rfl (W.heap.size + 1) 9 i0 (.string ByteArray.empty) 1 16 Try.underlying39 hii hz0 hz1 hz2 rfl (by decide) _ _ _ rfl (R4.out.out.alloc _) ⟨w4.heap.size, 0, none⟩ 1 1 [.string sx] rfl rfl (cell_one_new _ _ _) (by simp [Value.oneCell']) (by unfold maxLen; omega) (by omega) (by simp; omega) ?_; intro v3 w5 hO3 hG3 _ hat; have R5 := Lib.hid (R4.out.app (m2 := m + 1) (xs2 := (((ws.take (k + 1)).filter (nearB s z)).map fun x => Value.string (bx x))) (by rw [HP.out]; exact hO3) hG3 hat); have G5 := Lib.hid (G4.out.on2 (R4.out.below hb4s hG3)); clear hO3 hG3 hat))
            go_roundw
            case rel => exact ⟨k + 1, m + 1, _, by omega, rfl, by go_num, by omega, R5, G5⟩
            case measure => simp [intOf]; omega
          · obtain rfl : fb = false := by rw [HFb2.out, decide_eq_false hdz]
            have HP := Lib.hid (filter_no HX.out HFB.out)
            go_wp2_with fail
            go_roundw
            case rel => exact ⟨k + 1, m, _, by omega, rfl, by go_num, by omega, Lib.hid (by rw [HP.out]; exact R4.out), G4⟩
            case measure => simp [intOf]; omega
        · obtain rfl : k = mA := by omega
          have hxs : (ws.take k).filter (nearB s z) = xs := by rw [List.take_of_length_le (by rw [HMA.out]; exact Nat.le_refl _), HXs.out, HFl.out]
          have hml : m = xs.length := by
            have h9 : ((((ws.take k).filter (nearB s z)).map fun x => Value.string (bx x))).length = m * 1 := R.out.out.1
            rw [List.length_map, hxs] at h9
            omega
          subst hml
          have HF : Hid (wr.ownsRow (W.heap.size + 1) 9 1 v xs.length (xs.map fun x => Value.string (bx x))) := Lib.hid (by rw [← hxs]; have := R.out.out; rw [← hxs] at this; exact this)
          clear hxs
          go_wp2_with fail
          go_ret2
          exact ⟨_, by rw [HOk.out]; rfl, own_down HF.out (by omega), G.out.bel⟩

end Go.Proofs.Ytipkdoplgjgkpac.cap
