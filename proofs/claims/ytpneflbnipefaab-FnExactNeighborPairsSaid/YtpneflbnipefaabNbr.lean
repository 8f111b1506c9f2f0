/-
  The pairs of words of a trie at distance 1: the program, and both together.
-/
import Derived.Test.YtpneflbnipefaabNbrS
import Derived.Test.YtpneflbnipefaabDist2
import Derived.Test.YtpneflbnipefaabWordsOf
namespace Go.Proofs.Ytpneflbnipefaab.cap
open Go.RowKit
set_option linter.unusedVariables false

set_option maxRecDepth 1000000 in
set_option maxHeartbeats 4000000 in
theorem implNbr (t : List Nd) (n c : Nat) (hn : n ≤ 1048576) (mm : Nat) (xs : List Nat) (ok : Bool) (hok : ok = trieB t) (hy : ok = true → mm = xs.length / 2 ∧ xs = nbrL t) (hno : ok = false → mm = 0 ∧ xs = []) (W : World) (a : Option Addr) (hN : Nds W.heap.size W a n c t) :
    Calls Try.prog 21 #[.agg #[.slice a n c]] W (ownP.OwnPairs W mm xs ok) := by
  have G1 := Lib.hid (Gv.start hN)
  have cT := Lib.hid (fun W w a (G : Gv W w a n c t) => implWords_any W.heap.size a n c t w G.bel.size G.nds)
  have HOk := Lib.hid hok
  have HY := Lib.hid hy
  have HNo := Lib.hid hno
  have hbx := G1.out.box
  obtain ⟨qq, hq⟩ : ∃ qq, trieB t = qq := ⟨_, rfl⟩
  have HQ := Lib.hid hq
  rw [hq] at cT HOk
  clear hq hN hok hy hno
  cases qq with
  | false =>
    go_enter Try.func21, Try.ntmps21
    go_wp2_with (first
      | (go_at_call 53; refine (cT.out _ _ _ G1.out).mono ?_; rintro e w2 ⟨v2, rfl, _, hb2⟩; have G2 := Lib.hid (G1.out.on hb2); clear hb2))
    go_ret2
    obtain ⟨e1, e2⟩ := HNo.out HOk.out
    exact ⟨_, by rw [HOk.out]; rfl, by rw [e1, e2]; exact World.ownsRow_nil _ _ _ _, G2.out.bel⟩
  | true =>
    have HXs := Lib.hid (HY.out HOk.out)
    have hm40 := wordsOf_size t
    have HSh := Lib.hid (wordsOf_short t)
    have HNb : Hid (nbrL t = nbrs (dstOf (wordsOf t)) (wordsOf t).length (wordsOf t).length) := Lib.hid rfl
    clear HY HNo
    have HAsc : Hid (∀ x, ∀ k, (wordsOf t)[k]? = some x → ∀ i (hi : i < (bx x).size), ((bx x)[i]'hi).toNat < 128) := Lib.hid (fun x k hx i hi => by
      obtain ⟨ps, hv⟩ := trieB_iff.1 HQ.out
      rw [wordsOf_eq hv] at hx
      have h9 := (hv.wordsW x (at_mem hx)).2 ((bx x)[i]'hi) (by
        have : (bx x)[i]'hi = x[i]'(by rw [← bx_size]; exact hi) := rfl
        rw [this]; exact List.getElem_mem _)
      omega)
    obtain ⟨ws, hws⟩ : ∃ ws, wordsOf t = ws := ⟨_, rfl⟩
    rw [hws] at HAsc
    rw [hws] at cT hm40 HSh HNb
    clear hws
    obtain ⟨mA, hmA⟩ : ∃ mA, ws.length = mA := ⟨_, rfl⟩
    rw [hmA] at hm40 HNb
    have HMA := Lib.hid hmA
    clear hmA
    obtain ⟨D, hD⟩ : ∃ D, dstOf ws = D := ⟨_, rfl⟩
    have HD := Lib.hid hD
    rw [hD] at HNb
    clear hD
    have HLen : Hid (∀ k, k ≤ mA → (nbrs D mA k).length ≤ 3200) := Lib.hid (fun k hk => by
      have h1 := nbrs_len D mA k
      have h2 : 2 * mA * k ≤ 80 * 40 := Nat.mul_le_mul (by omega) (by omega)
      omega)
    have HLr : Hid (∀ i m, m ≤ mA → (nbrRow D i m).length ≤ 80) := Lib.hid (fun i m h => by have := nbrRow_len D i m; omega)
    obtain ⟨i0, hii, hz0, hz1, hz2⟩ := info_parts infoP2
    go_enter Try.func21, Try.ntmps21
    go_wp2_with fail
    refine (cT.out _ _ _ G1.out).mono ?_
    rintro e w3 ⟨v3, rfl, hW3, hb3⟩
    rw [HMA.out] at hW3
    obtain ⟨a3, c3, rfl⟩ := own_slice hW3
    have HB3 : Hid (Below w3.heap.size w3 (w3.alloc (.cells #[] 63))) := Lib.hid ((Below.refl _ _).alloc (Nat.le_refl _) _)
    have G3' := Lib.hid (G1.out.on hb3)
    have G3 := Lib.hid (G3'.out.on HB3.out)
    have hw3 : W.heap.size + 1 ≤ w3.heap.size := by have := G3'.out.lt; omega
    have R3 : Hid (OX (W.heap.size + 1) (w3.alloc (.cells #[] 63)) 63 2 (.slice (some ⟨w3.heap.size, 0, none⟩) 0 0) 0 (nums (nbrs D mA 0)) 9 (.slice a3 mA c3) mA (ws.map (fun x => Value.string (bx x)))) := Lib.hid (by
      have h0 := World.ownsRow_lit (base := W.heap.size + 1) (e := 63) (size := 2) w3 #[] 0 hw3 (by unfold maxLen; omega) rfl
      refine ⟨h0, own_down (hW3.alloc _) (Nat.zero_le _), ?_⟩
      refine .inr (fun e => ?_)
      have h1 := (own_ge hW3 (g := w3.heap.size) (by rw [e]; rfl)).2
      omega)
    have CA := (Sl.of_own hW3).cap
    have TA := (Sl.of_own hW3).top
    clear hb3 hbx hW3
    go_wp2_with fail
    go_loopw [6, 7, 8, 9, 20] (fun o p0 p1 q p wr => ∃ (k m : Nat) (v : Value), k ≤ mA ∧ v = o ∧ p = .int .i64 k ∧ (∃ u : Value, q = u) ∧ (∃ u : Value, p0 = u) ∧ (∃ u : Value, p1 = u) ∧ Hid (OX (W.heap.size + 1) wr 63 2 v m (nums (nbrs D mA k)) 9 (.slice a3 mA c3) mA (ws.map (fun x => Value.string (bx x)))) ∧ Hid (Gv W wr a n c t)) (fun _ _ _ _ p _ => mA - (intOf p).toNat)
    case atStart => exact ⟨0, 0, _, Nat.zero_le _, rfl, rfl, ⟨_, rfl⟩, ⟨_, rfl⟩, ⟨_, rfl⟩, R3, G3⟩
    case round =>
      clear R3 G3
      obtain ⟨k, m, v, hk, rfl, rfl, ⟨u, rfl⟩, ⟨u0, rfl⟩, ⟨u1, rfl⟩, R, G⟩ := hrel
      by_cases hlt : k < mA
      · obtain ⟨x, hx⟩ : ∃ x, ws[k]? = some x := ⟨_, List.getElem?_eq_getElem (by rw [HMA.out]; exact hlt)⟩
        have HX := Lib.hid hx
        have HSx := HSh.out x (at_mem hx)
        have HNx : Hid (nbrs D mA (k + 1) = nbrs D mA k ++ nbrRow D k (mA - (k + 1))) := Lib.hid rfl
        have hl0 := HLen.out k (by omega)
        obtain ⟨xs0, hxs0⟩ : ∃ xs0, nbrs D mA k = xs0 := ⟨_, rfl⟩
        rw [hxs0] at R HNx hl0
        have R0 : Hid (OX (W.heap.size + 1) wr 63 2 v m (nums (xs0 ++ nbrRow D k 0)) 9 (.slice a3 mA c3) mA (ws.map (fun x => Value.string (bx x)))) := Lib.hid (by rw [nbrRow, List.append_nil]; exact R.out)
        obtain ⟨b9, o9, e9, _, hcx⟩ := (Sl.of_own R.out.ext).spot k (.string (bx x)) (by rw [List.getElem?_map, HX.out]; rfl)
        subst e9
        have hi0 : (0 : Int) ≤ (k : Int) := by omega
        have hi1 : (k : Int) < (mA : Int) := by omega
        obtain ⟨sx, hsx⟩ : ∃ sx, bx x = sx := ⟨_, rfl⟩
        have HSX := Lib.hid hsx
        rw [hsx] at hcx
        clear hxs0 hx R hsx
        go_wp2_with fail
        clear hcx
        go_loopw [6, 9] (fun o p wr => ∃ (j m2 : Nat) (v2 : Value), k + 1 + j ≤ mA ∧ v2 = o ∧ p = .int .i64 ((k + 1 + j : Nat) : Int) ∧ Hid (OX (W.heap.size + 1) wr 63 2 v2 m2 (nums (xs0 ++ nbrRow D k j)) 9 (.slice (some ⟨b9, o9, none⟩) mA c3) mA (ws.map (fun x => Value.string (bx x)))) ∧ Hid (Gv W wr a n c t)) (fun _ p _ => mA - (intOf p).toNat)
        case atStart => exact ⟨0, m, _, by omega, rfl, by first | rfl | go_num, R0, G⟩
        case round =>
          clear R0 G
          obtain ⟨j, m2, v2, hj, rfl, rfl, R, G⟩ := hrel
          have hbase : W.heap.size + 1 ≤ wr.heap.size := G.out.lt
          obtain ⟨kj, hkj⟩ : ∃ kj, k + 1 + j = kj := ⟨_, rfl⟩
          have HKJ := Lib.hid hkj
          rw [hkj] at hj ⊢
          clear hkj
          have hl1 := HLr.out k j (by have := HKJ.out; omega)
          have hm2 : m2 ≤ 10000 := by
            have h9 : (nums (xs0 ++ nbrRow D k j)).length = m2 * 2 := R.out.out.1
            rw [nums_len, List.length_append] at h9
            omega
          by_cases hlt2 : kj < mA
          · obtain ⟨y, hy⟩ : ∃ y, ws[kj]? = some y := ⟨_, List.getElem?_eq_getElem (by rw [HMA.out]; exact hlt2)⟩
            have HSy := HSh.out y (at_mem hy)
            have hd : D k (k + 1 + j) = lev (bx x).data.toList (bx y).data.toList (bx x).size (bx y).size := by
              rw [HKJ.out, ← HD.out, dstOf_is HX.out hy, bx_size, bx_size]
              rfl
            have cD := Lib.hid (fun w => distance_any (bx x) (bx y) w (by rw [bx_size]; exact HSx) (by rw [bx_size]; exact HSy) (fun i hi => HAsc.out x k HX.out i hi) (fun i hi => HAsc.out y kj hy i hi))
            rw [← hd] at cD
            obtain ⟨b8, o8, e8, _, hcy⟩ := (Sl.of_own R.out.ext).spot kj (.string (bx y)) (by rw [List.getElem?_map, hy]; rfl)
            injection e8 with e8; injection e8 with e8 e8'; subst e8; subst e8'
            obtain ⟨d, hdd⟩ : ∃ d, D k (k + 1 + j) = d := ⟨_, rfl⟩
            have HDd := Lib.hid hdd
            rw [hdd] at cD
            rw [HSX.out] at cD
            obtain ⟨sy, hsy⟩ : ∃ sy, bx y = sy := ⟨_, rfl⟩
            rw [hsy] at cD hcy
            have hi2 : (0 : Int) ≤ (kj : Int) := by omega
            have hi3 : (kj : Int) < (mA : Int) := by omega
            clear hd hy hdd hsy
            go_wp2_with fail
            refine (cD.out _).mono ?_
            rintro e w4 ⟨rfl, hb4⟩
            have R4 := Lib.hid (R.out.on hb4)
            have G4 := Lib.hid (G.out.on hb4)
            have hb4s : W.heap.size + 1 ≤ w4.heap.size := Nat.le_trans hbase hb4.size
            clear hb4 hcy R G
            by_cases h1 : d = 1
            · have ht : ((d : Int) == 1) = true := by rw [h1]; rfl
              have HP : Hid (nums (xs0 ++ nbrRow D k (j + 1)) = nums (xs0 ++ nbrRow D k j) ++ [.int .i64 (k : Int), .int .i64 (kj : Int)]) := Lib.hid (by rw [nbrRow_yes (by rw [HDd.out, h1]), HKJ.out, ← List.append_assoc]; simp [nums])
              clear h1
              go_wp2_with (first
                | (at_builtin; refine wpList_append_own_at _ rfl _ _ 40 rfl (W.heap.size + 1) 63 i0 (.agg #[.int .i64 0, .int .i64 0]) 2 16 Try.underlying40 hii hz0 hz1 hz2 rfl (by decide) _ _ _ rfl (R4.out.out.alloc _) ⟨w4.heap.size, 0, none⟩ 1 1 [.int .i64 (k : Int), .int .i64 (kj : Int)] rfl rfl (news_at (cs := #[.int .i64 (k : Int), .int .i64 (kj : Int)]) rfl) (by simp [Value.oneCell']) (by unfold maxLen; omega) (by omega) (by simp; omega) ?_; intro v3 w5 hO3 hG3 _ hat; have R5 := Lib.hid (R4.out.app (m2 := m2 + 1) (xs2 := nums (xs0 ++ nbrRow D k (j + 1))) (by rw [HP.out]; exact hO3) hG3 hat); have G5 := Lib.hid (G4.out.on2 (R4.out.below hb4s hG3)); clear hO3 hG3 hat))
              go_roundw
              case rel => exact ⟨j + 1, m2 + 1, _, by have := HKJ.out; omega, rfl, by have := HKJ.out; first | go_num | (rw [show k + 1 + (j + 1) = kj + 1 by omega]; go_num), R5, G5⟩
              case measure => simp [intOf]; omega
            · have ht : ((d : Int) == 1) = false := by simp; omega
              have HP : Hid (nbrRow D k (j + 1) = nbrRow D k j) := Lib.hid (nbrRow_no (by rw [HDd.out]; exact h1))
              clear h1
              go_wp2_with fail
              go_roundw
              case rel => exact ⟨j + 1, m2, _, by have := HKJ.out; omega, rfl, by have := HKJ.out; first | go_num | (rw [show k + 1 + (j + 1) = kj + 1 by omega]; go_num), Lib.hid (by rw [HP.out]; exact R4.out), G4⟩
              case measure => simp [intOf]; omega
          · have e : mA - (k + 1) = j := by have := HKJ.out; omega
            have RN : Hid (OX (W.heap.size + 1) wr 63 2 v2 m2 (nums (nbrs D mA (k + 1))) 9 (.slice (some ⟨b9, o9, none⟩) mA c3) mA (ws.map (fun x => Value.string (bx x)))) := Lib.hid (by rw [HNx.out, e]; exact R.out)
            clear e
            go_wp2_with fail
            go_roundw
            case rel => exact ⟨k + 1, m2, _, by omega, rfl, by go_num, ⟨_, rfl⟩, ⟨_, rfl⟩, ⟨_, rfl⟩, RN, G⟩
            case measure => simp [intOf]; omega
      · obtain rfl : k = mA := by omega
        have hm : m = mm ∧ nbrs D k k = xs := by
          obtain ⟨h1, h2⟩ := HXs.out
          have h3 : nbrs D k k = xs := by rw [h2, HNb.out]
          refine ⟨?_, h3⟩
          have h4 : (nums (nbrs D k k)).length = m * 2 := R.out.out.1
          rw [nums_len, h3] at h4
          omega
        obtain ⟨rfl, h3⟩ := hm
        have HF : Hid (wr.ownsRow (W.heap.size + 1) 63 2 v m (nums xs)) := Lib.hid (by rw [← h3]; exact R.out.out)
        clear h3
        go_wp2_with fail
        go_ret2
        exact ⟨_, by rw [HOk.out]; rfl, own_down HF.out (by omega), G.out.bel⟩

theorem agreeNeighborPairs (t : List Nd) (n c : Nat) (hn : n ≤ 1048576) : ∃ (m : Nat) (xs : List Nat) (ok : Bool), m ≤ 10000 ∧ ok = trieB t ∧
    (∀ W a, Nds W.heap.size W a n c t → Calls Try.prog 20 #[.agg #[.slice a n c]] W (ownP.OwnPairs W m xs ok)) ∧
    (∀ W a, Nds W.heap.size W a n c t → Calls Try.prog 21 #[.agg #[.slice a n c]] W (ownP.OwnPairs W m xs ok)) := by
  obtain ⟨ok, hok⟩ : ∃ ok, trieB t = ok := ⟨_, rfl⟩
  have hx : ∃ (m : Nat) (xs : List Nat), m ≤ 10000 ∧ (ok = true → m = xs.length / 2 ∧ xs = nbrL t) ∧ (ok = false → m = 0 ∧ xs = []) := by
    cases ok with
    | false => exact ⟨0, [], by omega, (fun h => by cases h), fun _ => ⟨rfl, rfl⟩⟩
    | true =>
      refine ⟨_, _, ?_, fun _ => ⟨rfl, rfl⟩, (fun h => by cases h)⟩
      have h1 := nbrs_len (dstOf (wordsOf t)) (wordsOf t).length (wordsOf t).length
      have h40 := wordsOf_size t
      have h2 : 2 * (wordsOf t).length * (wordsOf t).length ≤ 80 * 40 := Nat.mul_le_mul (by omega) (by omega)
      unfold nbrL
      omega
  obtain ⟨m, xs, hm, hy, hno⟩ := hx
  exact ⟨m, xs, ok, hm, hok.symm, fun W a hN => specNbr t n c hn m xs ok hok.symm hy hno W a hN, fun W a hN => implNbr t n c hn m xs ok hok.symm hy hno W a hN⟩

end Go.Proofs.Ytpneflbnipefaab.cap
