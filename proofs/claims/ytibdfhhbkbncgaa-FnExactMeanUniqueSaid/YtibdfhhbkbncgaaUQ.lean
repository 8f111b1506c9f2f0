import Derived.Test.YtibdfhhbkbncgaaHasW
import Derived.Test.YtibdfhhbkbncgaaUnd
import Derived.Deep.RegionHeld3
import Derived.Test.YtibdfhhbkbncgaaBelC
import Derived.Test.YtibdfhhbkbncgaaIter

/-
  The shortest beginning of a word with which no other word begins: the reference's helper.
-/
namespace Go.Proofs.Ytibdfhhbkbncgaa.cap
open Go.RowKit
set_option linter.unusedVariables false

/-- the first place up to n at which something holds, or n -/
def FirstAt (P : Nat → Prop) (n m : Nat) : Prop := m ≤ n ∧ (∀ i, i < m → ¬ P i) ∧ (m = n ∨ P m)

theorem firstAt_ex (P : Nat → Prop) : ∀ n, ∃ m, FirstAt P n m
  | 0 => ⟨0, Nat.le_refl _, fun i h => by omega, .inl rfl⟩
  | n + 1 => by
    classical
    obtain ⟨m, h1, h2, h3⟩ := firstAt_ex P n
    by_cases hm : P m
    · exact ⟨m, by omega, h2, .inr hm⟩
    · have e : m = n := h3.elim id fun h => absurd h hm
      subst e
      refine ⟨m + 1, Nat.le_refl _, fun i hi => ?_, .inl rfl⟩
      by_cases e : i = m
      · rw [e]; exact hm
      · exact h2 i (by omega)

/-- how many letters the shortest beginning of a word has with which no other one begins -/
def UniqAt (ws : List Txt) (x : Txt) (m : Nat) : Prop := FirstAt (fun i => (undr (x.take i) ws).length = 1) x.length m

structure UniqFacts (t : List Nd) (s v : ByteArray) (ok : Bool) : Prop where
  okEq : ok = hasB t s
  yes : ok = true → ∃ m, UniqAt (wordsOf t) (tx s) m ∧ v = s.extract 0 m
  no : ok = false → v = ⟨#[]⟩

theorem ext_all (s : ByteArray) : s.extract 0 s.size = s := by
  apply tx_inj
  rw [tx_extract, ← tx_len, List.take_length]

set_option maxRecDepth 1000000 in
set_option maxHeartbeats 1000000 in
theorem l3Unique_any (B : Nat) (a : Option Addr) (n c m : Nat) (ws : List Txt) (s : ByteArray) (w : World) (hB : B ≤ w.heap.size) (h : Wds B w a n c ws) (hsh : ∀ x ∈ ws, x.length ≤ 12) (hn : n ≤ 40) (hs : s.size ≤ 12) (hm : UniqAt ws (tx s) m) :
    Calls Try.prog 45 #[.slice a n c, .string s] w fun e w' => e = .returned (.string (s.extract 0 m)) ∧ Below w.heap.size w w' := by
  have L := Lib.hid h.len
  have H := Lib.hid h
  have HB := Lib.hid hB
  obtain ⟨hm1, hm2, hm3⟩ := hm
  rw [tx_len] at hm1 hm3
  have HM2 := Lib.hid hm2
  have HM3 := Lib.hid hm3
  have cU := Lib.hid (fun (k : Nat) (W : World) (hW : Below w.heap.size w W) => l3Under_any B a n c ws (s.extract 0 k) W (Nat.le_trans hB hW.size) (h.keep (hW.mono hB)) hsh hn (by rw [ByteArray.size_extract]; omega))
  clear h hB hm2 hm3
  go_enter Try.func45, Try.ntmps45
  go_wp2
  go_loopw [5] (fun o wr => ∃ (k : Nat), o = .int .i64 k ∧ k ≤ m ∧ Hid (Below w.heap.size w wr)) (fun o _ => s.size - (intOf o).toNat)
  case atStart => exact ⟨0, rfl, Nat.zero_le _, Lib.hid (Below.refl _ _)⟩
  case round =>
    obtain ⟨k, rfl, hk, HBw⟩ := hrel
    by_cases hlt : k < s.size
    · have cU1 := Lib.hid (cU.out k wr HBw.out)
      have HE : Hid (tx (s.extract 0 k) = (tx s).take k) := Lib.hid (tx_extract s k)
      rw [HE.out] at cU1
      obtain ⟨q, hq⟩ : ∃ q, (undr ((tx s).take k) ws).length = q := ⟨_, rfl⟩
      have hqn : q ≤ n := by rw [← hq, ← L.out]; exact undr_le _ _
      have HQ := Lib.hid hq
      rw [hq] at cU1
      clear hq
      by_cases h1 : q = 1
      · have e : k = m := by
          apply Nat.le_antisymm hk
          apply Nat.le_of_not_lt
          intro h
          exact HM2.out k h (HQ.out.trans h1)
        subst e
        have hq1 : ((q : Int) == 1) = true := by simp; omega
        go_wp2_with (first | (go_at_call 30; refine cU1.out.mono ?_; rintro e w2 ⟨v, rfl, hO, hb2⟩; obtain ⟨a9, c9, rfl⟩ := own_slice hO; have HB2 := Lib.hid hb2; clear hb2 hO))
        go_ret
        exact ⟨rfl, HBw.out.trans (HB2.out.mono HBw.out.size)⟩
      · have hkm : k < m := by
          apply Nat.lt_of_le_of_ne hk
          rintro rfl
          rcases HM3.out with h | h
          · omega
          · exact h1 (HQ.out.symm.trans h)
        have hq1 : ((q : Int) == 1) = false := by simp; omega
        go_wp2_with (first | (go_at_call 30; refine cU1.out.mono ?_; rintro e w2 ⟨v, rfl, hO, hb2⟩; obtain ⟨a9, c9, rfl⟩ := own_slice hO; have HB2 := Lib.hid hb2; clear hb2 hO))
        go_roundw
        case rel => exact ⟨k + 1, by go_num, by omega, Lib.hid (HBw.out.trans (HB2.out.mono HBw.out.size))⟩
        case measure => simp [intOf]; omega
    · have HF : Hid (s.extract 0 m = s) := Lib.hid (by
        have e : m = s.size := by omega
        rw [e]; exact ext_all s)
      go_wp2
      go_ret
      exact ⟨by rw [HF.out]; rfl, HBw.out⟩

end Go.Proofs.Ytibdfhhbkbncgaa.cap

/-
  The shortest beginning of a word with which no other word begins: the program's function.
-/
namespace Go.Proofs.Ytibdfhhbkbncgaa.cap
open Go.RowKit
set_option linter.unusedVariables false

set_option maxRecDepth 1000000 in
set_option maxHeartbeats 2000000 in
theorem implUnique (t : List Nd) (n c : Nat) (s : ByteArray) (hn : n ≤ 1048576) (hs : s.size ≤ 9223372036854775807) (v : ByteArray) (ok : Bool) (hf : UniqFacts t s v ok) (W : World) (a : Option Addr) (hN : Nds W.heap.size W a n c t) :
    Calls Try.prog 65 #[.agg #[.slice a n c], .string s] W fun e w' => e = .returned (.tuple #[.string v, .bool ok]) ∧ Below W.heap.size W w' := by
  have G1 := Lib.hid (Gv.start hN)
  have hbx := G1.out.box
  have cH := Lib.hid (fun (w : World) (G : Gv W w a n c t) => implHasWord_any t n c s hs w a (G.nds.mono (Nat.le_of_lt G.lt)))
  have HOk := Lib.hid hf.okEq
  have HY := Lib.hid hf.yes
  have HNo := Lib.hid hf.no
  clear hN hf
  by_cases hq : hasB t s = true
  · have h3 : (trieB t = true ∧ okW s = true) ∧ tx s ∈ wordsOf t := by
      have := hq
      unfold hasB at this
      rw [Bool.and_eq_true, Bool.and_eq_true, decide_eq_true_eq] at this
      exact this
    obtain ⟨⟨h1, h2⟩, h4⟩ := h3
    obtain ⟨ps, hv⟩ := trieB_iff.1 h1
    have HV := Lib.hid hv
    have HWo := Lib.hid (wordsOf_eq hv)
    have HMem : Hid (tx s ∈ ps) := Lib.hid ((wds_sub t ps).subset (by rw [← HWo.out]; exact h4))
    have hs12 : s.size ≤ 12 := by have := (okW_iff.1 h2).1; rwa [tx_len] at this
    have HLow := Lib.hid (okW_iff.1 h2).2
    have HE : Hid (ok = true) := Lib.hid (HOk.out.trans hq)
    obtain ⟨m, hm, hvv⟩ := HY.out HE.out
    have HVV := Lib.hid hvv
    obtain ⟨hm1, hm2, hm3⟩ := hm
    rw [tx_len] at hm1 hm3
    have HM2 := Lib.hid hm2
    have HM3 := Lib.hid hm3
    rw [hq, h1, h2] at cH
    have HL := Lib.hid G1.out.len
    have hn481 : n ≤ 481 := by have := hv.size; have := G1.out.len; omega
    clear hq h1 h2 h4 hv hvv hm2 hm3 HY HNo
    go_enter Try.func65, Try.ntmps65
    go_wp2_with fail
    refine (cH.out _ G1.out).mono ?_
    rintro e w2 ⟨rfl, hb2⟩
    have G2 := Lib.hid (G1.out.on hb2)
    clear hb2 hbx
    have hsz2 := G2.out.lt
    go_wp2_with fail
    go_loopw [8] (fun p wr => ∃ (k : Nat), k ≤ m ∧ (∃ v : Value, p = v) ∧ Hid (wr.heap[w2.heap.size]? = some (.stringIter s k)) ∧ Hid (Gv W wr a n c t)) (fun _ wr => s.size - wr.iterPos w2.heap.size)
    case atStart => exact ⟨0, Nat.zero_le _, ⟨_, rfl⟩, Lib.hid (World.iter_heap w2 s 0), Lib.hid (G2.out.on ((Below.refl _ _).alloc (Nat.le_refl _) _))⟩
    case round =>
      obtain ⟨k, hk, ⟨v0, rfl⟩, HIt, G⟩ := hrel
      have hpos0 : wr.iterPos w2.heap.size = k := by simp [World.iterPos, HIt.out]
      have HP0 := Lib.hid hpos0
      clear hpos0
      by_cases hlt : k < s.size
      · have hlow := HLow.out s[k] (by
          have : s[k] = (tx s)[k]'(by rw [tx_len]; exact hlt) := rfl
          rw [this]; exact List.getElem_mem _)
        have h128 : s[k].toNat < 128 := by omega
        have hnx := fun ty => Lib.run_next_ascii_at (P := Try.prog) wr w2.heap.size s k ty HIt.out hlt h128
        obtain ⟨cn, hcn⟩ : ∃ cn : Int, (s[k].toNat : Int) = cn := ⟨_, rfl⟩
        simp only [hcn] at hnx
        clear hcn hlow h128
        obtain ⟨W1, hW1⟩ : ∃ W1, wr.iterAt w2.heap.size s (k + 1) = W1 := ⟨_, rfl⟩
        have HI1 : Hid (W1.heap[w2.heap.size]? = some (.stringIter s (k + 1))) := Lib.hid (by rw [← hW1]; exact Lib.iterAt_heap wr _ s k (k + 1) HIt.out)
        have G1' : Hid (Gv W W1 a n c t) := Lib.hid (by rw [← hW1]; exact G.out.on2 (Lib.below_iterAt (Below.refl _ _) (by omega) s (k + 1)))
        simp only [hW1] at hnx
        clear hW1
        have hs1 : w2.heap.size < W1.heap.size := (Array.getElem?_eq_some_iff.1 HI1.out).1
        have hbx1 := G1'.out.box
        have HE1 : Hid (tx (s.extract 0 k) = (tx s).take k) := Lib.hid (tx_extract s k)
        have hokk : okW (s.extract 0 k) = true := okW_iff.2 (by
          rw [show (s.extract 0 k).data.toList = tx (s.extract 0 k) from rfl, HE1.out]
          exact ⟨by rw [List.length_take, tx_len]; omega, fun c hc => HLow.out c (List.mem_of_mem_take hc)⟩)
        have HMk : Hid ((tx s).take k ∈ ps) := Lib.hid (pre_closed HV.out HMem.out (List.take_prefix _ _))
        have cPl : Hid (∀ w, Gv W w a n c t → Calls Try.prog 42 #[.agg #[.slice a n c], .string (s.extract 0 k)] w fun e w' => ∃ j : Nat, e = .returned (.tuple #[.int .i64 (j : Int), .bool true]) ∧ ps[j]? = some ((tx s).take k) ∧ Below w.heap.size w w') := Lib.hid (fun w Gw => (placeOf_any W.heap.size a n c t ps (s.extract 0 k) w Gw.bel.size Gw.nds HV.out hokk).mono fun e w' ⟨j, ok, e1, e2, e3, e4⟩ => by
          rw [HE1.out] at e2 e3
          cases ok with
          | true => exact ⟨j, e1, e2 rfl, e4⟩
          | false => exact absurd HMk.out (e3 rfl).2)
        have cC : Hid (∀ (j : Nat) (w : World), Gv W w a n c t → ps[j]? = some ((tx s).take k) → Calls Try.prog 43 #[.agg #[.slice a n c], .int .i64 (j : Int)] w fun e w' => e = .returned (.int .i64 (((undr ((tx s).take k) (wordsOf t)).length : Nat) : Int)) ∧ Below w.heap.size w w') := Lib.hid (fun j w Gw hj => (countBelow_any W.heap.size a n c j t ps w Gw.bel.size Gw.nds HV.out (by have h1 := (List.getElem?_eq_some_iff.1 hj).1; have h2 := HV.out.lenEq; have h3 := HL.out; omega)).mono fun e w' ⟨b, e1, e2, e3⟩ => by
          rw [e1, undr_ends HV.out e2 hj, ← HWo.out]
          exact ⟨rfl, e3⟩)
        obtain ⟨q, hq⟩ : ∃ q, (undr ((tx s).take k) (wordsOf t)).length = q := ⟨_, rfl⟩
        have hqn : q ≤ 40 := by rw [← hq]; exact Nat.le_trans (undr_le _ _) (wordsOf_size t)
        have HQ := Lib.hid hq
        rw [hq] at cC
        clear hq hokk
        have Gd := Lib.hid (G1'.out.on (Below.refl _ _).drew)
        have hk0 : (0 : Int) ≤ (k : Int) := by omega
        have hk1 : (k : Int) ≤ (s.size : Int) := by omega
        by_cases h1 : q = 1
        · have e : k = m := by
            apply Nat.le_antisymm hk
            apply Nat.le_of_not_lt
            intro h
            exact HM2.out k h (HQ.out.trans h1)
          subst e
          have hq1 : ((q : Int) == 1) = true := by simp; omega
          go_wp2_with fail
          go_region_held3 (fun w' => w'.cell? ⟨W.heap.size, 0, none⟩ = some (.slice a n c))
            (first
              | exact hbx1
              | exact (hb4.cell (p := ⟨W.heap.size, 0, none⟩) Gd.out.lt).trans Gd.out.box)
            (first
              | (go_at_call 42; refine (cPl.out _ (by exact Gd.out)).mono ?_; rintro e w4 ⟨j4, rfl, hj4, hb4⟩))
          have G4 := Lib.hid (Gd.out.on hb4)
          have hbx4 := G4.out.box
          have HJ4 := Lib.hid hj4
          clear hb4 hj4
          go_wp2_with fail
          refine (cC.out j4 _ G4.out HJ4.out).mono ?_
          rintro e w5 ⟨rfl, hb5⟩
          have G5 := Lib.hid (G4.out.on hb5)
          clear hb5 hbx4
          go_wp2_with fail
          go_ret2
          exact ⟨ret_sb HVV.out.symm HE.out.symm, G5.out.bel⟩
        · have hkm : k < m := by
            apply Nat.lt_of_le_of_ne hk
            rintro rfl
            rcases HM3.out with h | h
            · omega
            · exact h1 (HQ.out.symm.trans h)
          have hq1 : ((q : Int) == 1) = false := by simp; omega
          go_wp2_with fail
          go_region_held3 (fun w' => w'.cell? ⟨W.heap.size, 0, none⟩ = some (.slice a n c))
            (first
              | exact hbx1
              | exact (hb4.cell (p := ⟨W.heap.size, 0, none⟩) Gd.out.lt).trans Gd.out.box)
            (first
              | (go_at_call 42; refine (cPl.out _ (by exact Gd.out)).mono ?_; rintro e w4 ⟨j4, rfl, hj4, hb4⟩))
          have G4 := Lib.hid (Gd.out.on hb4)
          have hbx4 := G4.out.box
          have HJ4 := Lib.hid hj4
          have HI4 : Hid (w4.heap[w2.heap.size]? = some (.stringIter s (k + 1))) := Lib.hid ((hb4.block _ hs1).trans HI1.out)
          clear hb4 hj4
          go_wp2_with fail
          refine (cC.out j4 _ G4.out HJ4.out).mono ?_
          rintro e w5 ⟨rfl, hb5⟩
          have G5 := Lib.hid (G4.out.on hb5)
          have HI5 : Hid (w5.heap[w2.heap.size]? = some (.stringIter s (k + 1))) := Lib.hid ((hb5.block _ (Array.getElem?_eq_some_iff.1 HI4.out).1).trans HI4.out)
          clear hb5 hbx4
          go_wp2_with fail
          go_roundw
          case rel => exact ⟨k + 1, by omega, ⟨_, rfl⟩, HI5, G5⟩
          case measure =>
            have e1 : w5.iterPos w2.heap.size = k + 1 := by simp [World.iterPos, HI5.out]
            rw [HP0.out, e1]
            omega
      · have hnx := fun ty => Lib.run_next_end_at (P := Try.prog) wr w2.heap.size s k ty HIt.out hlt
        have HF : Hid (v = s) := Lib.hid (by
          have e : m = s.size := by omega
          rw [HVV.out, e]; exact ext_all s)
        go_wp2
        go_ret2
        exact ⟨ret_sb HF.out.symm HE.out.symm, G.out.bel⟩
  · have hq' : hasB t s = false := by simpa using hq
    have HE : Hid (ok = false) := Lib.hid (HOk.out.trans hq')
    rw [hq'] at cH
    obtain ⟨q2, hq2⟩ : ∃ q2, (trieB t && okW s) = q2 := ⟨_, rfl⟩
    rw [hq2] at cH
    clear hq hq' hq2
    cases q2 with
    | false =>
      go_enter Try.func65, Try.ntmps65
      go_wp2_with fail
      refine (cH.out _ G1.out).mono ?_
      rintro e w2 ⟨rfl, hb2⟩
      have G2 := Lib.hid (G1.out.on hb2)
      clear hb2 hbx
      go_wp2_with fail
      go_ret2
      exact ⟨ret_sb (HNo.out HE.out).symm HE.out.symm, G2.out.bel⟩
    | true =>
      go_enter Try.func65, Try.ntmps65
      go_wp2_with fail
      refine (cH.out _ G1.out).mono ?_
      rintro e w2 ⟨rfl, hb2⟩
      have G2 := Lib.hid (G1.out.on hb2)
      clear hb2 hbx
      go_wp2_with fail
      go_ret2
      exact ⟨ret_sb (HNo.out HE.out).symm HE.out.symm, G2.out.bel⟩

end Go.Proofs.Ytibdfhhbkbncgaa.cap
