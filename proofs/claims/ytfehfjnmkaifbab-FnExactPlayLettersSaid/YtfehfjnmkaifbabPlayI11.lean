/-
  Letters played in turns: the program's walk; both functions answer the same.
-/
import Derived.Test.YtfehfjnmkaifbabPlayS11
import Derived.Test.YtfehfjnmkaifbabWord
namespace Go.Proofs.Ytfehfjnmkaifbab
open Go.RowKit
set_option linter.unusedVariables false

theorem plyF_none {t : List Nd} {ps : List Txt} {m i k : Nat} {c : UInt8} {cs : Txt} (hk : kidL ps i c = none) : plyF t ps m i k (c :: cs) = (i, k) := by
  unfold plyF
  split
  · rfl
  · rw [hk]

theorem blkL {w : World} {g : Nat} {a b : Value} {T : TypeId} (h : w.heap[g]? = some (.cells #[a, b] T)) : w.cell? ⟨g, 0, none⟩ = some a ∧ w.cell? ⟨g, 1, none⟩ = some b := by
  refine ⟨?_, ?_⟩ <;> simp [World.cell?, h]

theorem playerToAdd_any (p : Nat) (w : World) (hp : p ≤ 1000) :
    Calls Try.prog 79 #[.int .i64 (p : Int)] w fun e w' => e = .returned (.int .i64 ((p % 2 : Nat) : Int)) ∧ w = w' := by
  go_enter Try.func79, Try.ntmps79
  go_wp2
  go_ret
  exact ⟨ret_num (tmod_two p), rfl⟩

set_option maxRecDepth 1000000 in
set_option maxHeartbeats 1000000 in
theorem loserAt_any (B : Nat) (a : Option Addr) (n c i k m : Nat) (t : List Nd) (ps : List Txt) (w : World) (hB : B ≤ w.heap.size) (h : Nds B w a n c t) (hv : Valid t ps) (hi : i < n) (hm : m ≤ 6) (hk : k ≤ 1000) (hf : fatB t ps m i = true → 1 ≤ k) :
    Calls Try.prog 53 #[.agg #[.slice a n c, .int .i64 (m : Int)], .int .i64 (i : Int), .int .i64 (k : Int)] w fun e w' => e = .returned (.int .i64 (lsrZ t ps m i k)) ∧ Below w.heap.size w w' := by
  have L := Lib.hid h.len
  have h481 := hv.size
  have HB1 : Hid (Below w.heap.size w (w.alloc (.cells #[.slice a n c, .int .i64 (m : Int)] 80))) := Lib.hid ((Below.refl _ _).alloc (Nat.le_refl _) _)
  have hE : (w.alloc (.cells #[.slice a n c, .int .i64 (m : Int)] 80)).heap[w.heap.size]? = some (.cells #[.slice a n c, .int .i64 (m : Int)] 80) := heap_alloc_new _ _
  have HE := Lib.hid hE
  have HN := Lib.hid (h.keep (HB1.out.mono hB))
  have cF := Lib.hid (isFatal_any B a n c i m t ps _ (Nat.le_trans hB HB1.out.size) HN.out hv hi hm)
  have cK := Lib.hid (fun V (hb : Below (w.heap.size + 1) (w.alloc (.cells #[.slice a n c, .int .i64 (m : Int)] 80)) V) => kidsAt_any B a n c i t ps V (Nat.le_trans hB (Nat.le_trans HB1.out.size hb.size)) (HN.out.keep (hb.mono (by omega))) (by have := L.out; omega) hv.tells hi)
  have hs1 : (w.alloc (.cells #[.slice a n c, .int .i64 (m : Int)] 80)).heap.size = w.heap.size + 1 := by simp
  have HS1 := Lib.hid hs1
  have h1 := lsr_fat (t := t) (ps := ps) (m := m) (E := i) (M := k)
  have h2 := lsr_end (t := t) (ps := ps) (m := m) (E := i) (M := k)
  have h3 := lsr_none (t := t) (ps := ps) (m := m) (E := i) (M := k)
  rw [L.out] at h2 h3
  obtain ⟨Z, hZ⟩ : ∃ Z, lsrZ t ps m i k = Z := ⟨_, rfl⟩
  rw [hZ] at h1 h2 h3 ⊢
  obtain ⟨fb, hfb⟩ : ∃ fb, fatB t ps m i = fb := ⟨_, rfl⟩
  rw [hfb] at cF h1 h2 h3 hf
  clear hZ hfb h hv hs1
  cases fb with
  | true =>
    have HZ := Lib.hid (h1 rfl)
    have hk1 := hf rfl
    have cP := Lib.hid (fun V => playerToAdd_any (k - 1) V (by omega))
    have e1 : (((k - 1 : Nat)) : Int) = (k : Int) - 1 := by omega
    rw [e1] at cP
    clear h1 h2 h3 hf e1 hE
    go_enter Try.func53, Try.ntmps53
    go_wp2_with fail
    refine cF.out.mono ?_
    rintro e w2 ⟨rfl, hb2⟩
    go_wp2_with fail
    refine (cP.out _).mono ?_
    rintro e w3 ⟨rfl, rfl⟩
    go_wp2_with fail
    go_ret
    exact ⟨(by rw [HZ.out]; rfl), HB1.out.trans (hb2.mono HB1.out.size)⟩
  | false =>
    obtain ⟨ks, hks⟩ : ∃ ks, kidsTo t i n = ks := ⟨_, rfl⟩
    rw [hks] at cK h2 h3
    clear hks
    cases ks with
    | nil =>
      have HZ := Lib.hid (h2 rfl rfl)
      have cP := Lib.hid (fun V => playerToAdd_any k V hk)
      clear h1 h2 h3 hf hE
      go_enter Try.func53, Try.ntmps53
      go_wp2_with fail
      refine cF.out.mono ?_
      rintro e w2 ⟨rfl, hb2⟩
      have hc2 : w2.cell? ⟨w.heap.size, 0, none⟩ = some (.slice a n c) := by
        have := (hb2.block w.heap.size (by have := HS1.out; omega)).trans HE.out
        simp [World.cell?, this]
      have HB2 := Lib.hid (hb2.mono (show w.heap.size + 1 ≤ _ by rw [HS1.out]; exact Nat.le_refl _))
      clear hb2
      go_wp2_with fail
      refine (cK.out _ HB2.out).mono ?_
      rintro e w3 ⟨v, rfl, hO, hb3⟩
      obtain ⟨a9, c9, rfl⟩ := own_slice hO
      have HB3 := Lib.hid (HB2.out.trans (hb3.mono (by have := HB2.out.size; have := HS1.out; omega)))
      have z : ((([] : List Nat).length : Int) == 0) = true := rfl
      clear hO hb3 hc2
      go_wp2_with fail
      refine (cP.out _).mono ?_
      rintro e w4 ⟨rfl, rfl⟩
      go_wp2_with fail
      go_ret
      exact ⟨(by rw [HZ.out]; rfl), HB1.out.trans (HB3.out.mono (by omega))⟩
    | cons k1 kr =>
      have HZ := Lib.hid (h3 rfl (by simp))
      obtain ⟨len, hle⟩ : ∃ len, (k1 :: kr).length = len := ⟨_, rfl⟩
      have hl0 : 0 < len := by rw [← hle]; simp
      rw [hle] at cK
      have z : (((len : Nat) : Int) == 0) = false := by simp; omega
      clear h1 h2 h3 hf hE hle
      go_enter Try.func53, Try.ntmps53
      go_wp2_with fail
      refine cF.out.mono ?_
      rintro e w2 ⟨rfl, hb2⟩
      have hc2 : w2.cell? ⟨w.heap.size, 0, none⟩ = some (.slice a n c) := by
        have := (hb2.block w.heap.size (by have := HS1.out; omega)).trans HE.out
        simp [World.cell?, this]
      have HB2 := Lib.hid (hb2.mono (show w.heap.size + 1 ≤ _ by rw [HS1.out]; exact Nat.le_refl _))
      clear hb2
      go_wp2_with fail
      refine (cK.out _ HB2.out).mono ?_
      rintro e w3 ⟨v, rfl, hO, hb3⟩
      obtain ⟨a9, c9, rfl⟩ := own_slice hO
      have HB3 := Lib.hid (HB2.out.trans (hb3.mono (by have := HB2.out.size; have := HS1.out; omega)))
      clear hO hb3 hc2
      go_wp2_with fail
      go_ret
      exact ⟨(by rw [HZ.out]; rfl), HB1.out.trans (HB3.out.mono (by omega))⟩

set_option maxRecDepth 1000000 in
set_option maxHeartbeats 4000000 in
theorem implPlayLetters_any (t : List Nd) (n c : Nat) (m : Int) (s : ByteArray) (hn : n ≤ 1048576) (hs : s.size ≤ 1048576) (W : World) (a : Option Addr) (hN : Nds W.heap.size W a n c t) :
    Calls Try.prog 23 #[.agg #[.slice a n c], .int .i64 m, .string s] W (PlayIs t n m s W) := by
  have G1 := Lib.hid (Gv.start hN)
  have hbx := G1.out.box
  have L := Lib.hid hN.len
  have cX := Lib.hid (isGame_any t n c 0 m hn _ a (G1.out.nds.mono G1.out.bel.size))
  have cW := Lib.hid (fun V => implIsWord_any s V (by omega))
  have HPB : Hid (plB t n m s = (gamB t n 0 m && okW s)) := Lib.hid rfl
  have HPE : Hid (plE t n m s = if plB t n m s = true then plyF t (psOf t) m.toNat 0 0 (tx s) else (0, 0)) := Lib.hid rfl
  have HPZ : Hid (plZ t n m s = if plB t n m s = true then lsrZ t (psOf t) m.toNat (plE t n m s).1 (plE t n m s).2 else 0) := Lib.hid rfl
  unfold PlayIs
  obtain ⟨q, hq⟩ : ∃ q, gamB t n 0 m = q := ⟨_, rfl⟩
  obtain ⟨r, hr⟩ : ∃ r, okW s = r := ⟨_, rfl⟩
  rw [hq] at cX HPB
  rw [hr] at cW HPB
  clear hN
  cases q with
  | false =>
    have e1 : plB t n m s = false := by rw [HPB.out]; rfl
    rw [HPZ.out, HPE.out, e1, if_neg (by simp), if_neg (by simp)]
    clear hq hr e1 HPB HPE HPZ
    go_enter Try.func23, Try.ntmps23
    go_wp2_with fail
    refine cX.out.mono ?_
    rintro e w2 ⟨rfl, hb2⟩
    go_wp2_with fail
    ((try simp only [Exit.inBlock, Exit.then]); refine bodyPost_ret (results_tmp4 rfl _ _ _) rfl ?_)
    exact ⟨rfl, G1.out.bel.trans (hb2.mono G1.out.bel.size)⟩
  | true =>
    cases r with
    | false =>
      have e1 : plB t n m s = false := by rw [HPB.out]; rfl
      rw [HPZ.out, HPE.out, e1, if_neg (by simp), if_neg (by simp)]
      clear hq hr e1 HPB HPE HPZ
      go_enter Try.func23, Try.ntmps23
      go_wp2_with fail
      refine cX.out.mono ?_
      rintro e w2 ⟨rfl, hb2⟩
      have G2 := Lib.hid (G1.out.on hb2)
      go_wp2_with fail
      refine (cW.out _).mono ?_
      rintro e w3 ⟨rfl, hb3⟩
      go_wp2_with fail
      ((try simp only [Exit.inBlock, Exit.then]); refine bodyPost_ret (results_tmp4 rfl _ _ _) rfl ?_)
      exact ⟨rfl, (G2.out.on hb3).bel⟩
    | true =>
      have e1 : plB t n m s = true := by rw [HPB.out]; rfl
      have hpe := HPE.out
      have hpz := HPZ.out
      rw [e1, if_pos rfl] at hpe hpz
      rw [e1]
      obtain ⟨EM, hEM⟩ : ∃ EM, plE t n m s = EM := ⟨_, rfl⟩
      rw [hEM] at hpe hpz ⊢
      obtain ⟨E, M⟩ := EM
      rw [hpz]
      obtain ⟨ps, i9, k0, hv, hps, hi0, hi, rfl, h1, h6⟩ := gam_yes hq
      have hpos : 0 < n := by omega
      have ek : ((k0 : Nat) : Int).toNat = k0 := by omega
      rw [hps, ek] at hpe ⊢
      have hW := okW_iff.1 hr
      have h12 : s.size ≤ 12 := by have := hW.1; rwa [tx_len] at this
      have HLow : Hid (∀ (k : Nat) (h : k < s.size), 97 ≤ (s[k]'h).toNat ∧ (s[k]'h).toNat ≤ 122) := Lib.hid (fun k h => hW.2 _ (by
        have : s[k]'h = (tx s)[k]'(by rw [tx_len]; exact h) := rfl
        rw [this]; exact List.getElem_mem _))
      have h481 := hv.size
      have cF0 : Hid (∀ k, k < n → ∀ V : World, Gv W V a n c t → Calls Try.prog 41 #[.agg #[.slice a n c, .int .i64 (k0 : Int)], .int .i64 (k : Int)] V fun e w' => e = .returned (.bool (fatB t ps k0 k)) ∧ Below V.heap.size V w') := Lib.hid (fun k h2 V hG => isFatal_any W.heap.size a n c k k0 t ps V (Nat.le_of_lt hG.lt) hG.nds hv h2 h6)
      have cN0 : Hid (∀ (k : Nat) (l : Int), k < n → ∀ V : World, Gv W V a n c t → Calls Try.prog 52 #[.agg #[.slice a n c], .int .i64 (k : Int), .int .i64 l] V (KidPost t k l V)) := Lib.hid (fun k l h2 V hG => kidWith_any W.heap.size a n c k t ps l V (Nat.le_of_lt hG.lt) hG.nds (by have := L.out; omega) hv.tells h2)
      have cL0 : Hid (∀ (i k : Nat), i < n → k ≤ 1000 → (fatB t ps k0 i = true → 1 ≤ k) → ∀ V : World, Gv W V a n c t → Calls Try.prog 53 #[.agg #[.slice a n c, .int .i64 (k0 : Int)], .int .i64 (i : Int), .int .i64 (k : Int)] V fun e w' => e = .returned (.int .i64 (lsrZ t ps k0 i k)) ∧ Below V.heap.size V w') := Lib.hid (fun i k h2 hk hf V hG => loserAt_any W.heap.size a n c i k k0 t ps V (Nat.le_of_lt hG.lt) hG.nds hv h2 h6 hk hf)
      have HKL : Hid (∀ (i : Nat) (cc : UInt8), i < n → (kidL ps i cc = none ∧ (∀ j, ¬ IsKid t i ((cc.toNat : Int) - 97) j)) ∨ ∃ j, kidL ps i cc = some j ∧ j < n ∧ IsKid t i ((cc.toNat : Int) - 97) j ∧ ∀ j', IsKid t i ((cc.toNat : Int) - 97) j' → j' = j) := Lib.hid (fun i cc hi => by
        cases hk : kidL ps i cc with
        | none => exact .inl ⟨rfl, fun j hj => by rw [(kidL_iff hv.tells (by have := L.out; omega) cc j).2 hj] at hk; cases hk⟩
        | some j =>
          refine .inr ⟨j, rfl, ?_, (kidL_iff hv.tells (by have := L.out; omega) cc j).1 hk, fun j' hj' => ?_⟩
          · have := kids_gt (isKid_mem ((kidL_iff hv.tells (by have := L.out; omega) cc j).1 hk))
            have := L.out
            omega
          · rw [(kidL_iff hv.tells (by have := L.out; omega) cc j').2 hj'] at hk
            exact Option.some.inj hk)
      have HFz : Hid (∀ i k : Nat, (k = 0 → i = 0) → fatB t ps k0 i = true → 1 ≤ k) := Lib.hid (fun i k hz hf => by
        rcases Nat.eq_zero_or_pos k with h | h
        · rw [hz h, fatB_root hv.tells h1] at hf
          cases hf
        · exact h)
      have HR0 : Hid (plyF t ps k0 0 0 ((tx s).drop 0) = (E, M)) := Lib.hid (by rw [List.drop_zero]; exact hpe.symm)
      obtain ⟨Z, hZ⟩ : ∃ Z, lsrZ t ps k0 E M = Z := ⟨_, rfl⟩
      simp only
      rw [hZ]
      have HZ := Lib.hid hZ
      clear hZ hq hr hv hps hi0 hi ek hpe hpz hEM e1 HPB HPE HPZ hW
      go_enter Try.func23, Try.ntmps23
      go_wp2_with fail
      refine cX.out.mono ?_
      rintro e w2 ⟨rfl, hb2⟩
      have G2 := Lib.hid (G1.out.on hb2)
      clear hb2 hbx
      go_wp2_with fail
      refine (cW.out _).mono ?_
      rintro e w3 ⟨rfl, hb3⟩
      have G3 := Lib.hid (G2.out.on hb3)
      have hbx3 := G3.out.box
      have hb4 := (Below.refl w3.heap.size w3).alloc (Nat.le_refl _) (.cells #[.slice a n c, .int .i64 (k0 : Int)] 80)
      have G4 := Lib.hid (G3.out.on hb4)
      have hE4 : (w3.alloc (.cells #[.slice a n c, .int .i64 (k0 : Int)] 80)).heap[w3.heap.size]? = some (.cells #[.slice a n c, .int .i64 (k0 : Int)] 80) := heap_alloc_new _ _
      have HE4 := Lib.hid hE4
      have HS4 : Hid ((w3.alloc (.cells #[.slice a n c, .int .i64 (k0 : Int)] 80)).heap.size = w3.heap.size + 1 ∧ W.heap.size < w3.heap.size) := Lib.hid ⟨by simp, G3.out.lt⟩
      clear hb3 hb4 hE4
      go_wp2_with fail
      obtain ⟨w4, hw4⟩ : ∃ w4, w3.alloc (.cells #[.slice a n c, .int .i64 (k0 : Int)] 80) = w4 := ⟨_, rfl⟩
      rw [hw4] at G4 HE4 HS4 ⊢
      obtain ⟨e9, he9⟩ : ∃ e9, w3.heap.size = e9 := ⟨_, rfl⟩
      rw [he9] at HE4 HS4 ⊢
      clear hw4 he9 hbx3 G3 G2
      have HI4 : Hid ((w4.iter s 0).heap[e9 + 1]? = some (.stringIter s 0)) := Lib.hid (by have := World.iter_heap w4 s 0; rw [HS4.out.1] at this; exact this)
      have HB4 : Hid (Below (e9 + 1) w4 (w4.iter s 0)) := Lib.hid ((Below.refl (e9 + 1) w4).alloc (by rw [HS4.out.1]; exact Nat.le_refl _) _)
      have HG5 := Lib.hid (G4.out.on2 (HB4.out.mono (by have := HS4.out; omega)))
      have HE5 : Hid ((w4.iter s 0).heap[e9]? = some (.cells #[.slice a n c, .int .i64 (k0 : Int)] 80)) := Lib.hid ((HB4.out.block e9 (by omega)).trans HE4.out)
      have hle : W.heap.size < e9 := HS4.out.2
      have hs0 := HS4.out.1
      go_loopw [11, 12] (fun p q wr => ∃ (i k : Nat), p = .int .i64 (i : Int) ∧ q = .int .i64 (k : Int) ∧ i < n ∧ k ≤ s.size ∧ Hid (k = 0 → i = 0) ∧ Hid (plyF t ps k0 i k ((tx s).drop k) = (E, M)) ∧ Hid (wr.heap[e9 + 1]? = some (.stringIter s k)) ∧ Hid (wr.heap[e9]? = some (.cells #[.slice a n c, .int .i64 (k0 : Int)] 80)) ∧ Hid (Gv W wr a n c t)) (fun _ _ wr => s.size - wr.iterPos (e9 + 1))
      case atStart => exact ⟨0, 0, rfl, rfl, hpos, Nat.zero_le _, Lib.hid (fun _ => rfl), HR0, HI4, HE5, HG5⟩
      case round =>
        clear HI4 HB4 HG5 HE5 HE4 G4 hs0
        obtain ⟨i, k, rfl, rfl, hin, hks, HZk, HR, HIt, HE, GW⟩ := hrel
        have hpos0 : wr.iterPos (e9 + 1) = k := by simp [World.iterPos, HIt.out]
        have HP0 := Lib.hid hpos0
        clear hpos0
        by_cases hlt : k < s.size
        · have HTd := Lib.hid (tx_drop hlt)
          have hlow := HLow.out k hlt
          have h128 : s[k].toNat < 128 := by omega
          have hnx := fun ty => Lib.run_next_ascii_at (P := Try.prog) wr (e9 + 1) s k ty HIt.out hlt h128
          have hkl := HKL.out i s[k] hin
          obtain ⟨W1, hW1⟩ : ∃ W1, wr.iterAt (e9 + 1) s (k + 1) = W1 := ⟨_, rfl⟩
          have HI1 : Hid (W1.heap[e9 + 1]? = some (.stringIter s (k + 1))) := Lib.hid (by rw [← hW1]; exact Lib.iterAt_heap wr _ s k (k + 1) HIt.out)
          have HE1 : Hid (W1.heap[e9]? = some (.cells #[.slice a n c, .int .i64 (k0 : Int)] 80)) := Lib.hid (by rw [← hW1]; exact (Lib.iterAt_other wr _ e9 s (k + 1) (by omega)).trans HE.out)
          have GV1 : Hid (Gv W W1 a n c t) := Lib.hid (by rw [← hW1]; exact GW.out.on2 (Lib.below_iterAt (Below.refl (W.heap.size + 1) wr) (by omega) s (k + 1)))
          have hs1 : e9 + 1 < W1.heap.size := (Array.getElem?_eq_some_iff.1 HI1.out).1
          simp only [hW1] at hnx
          clear hW1
          have hbx := GV1.out.box
          obtain ⟨cb, hcb9⟩ : ∃ cb, s[k] = cb := ⟨_, rfl⟩
          rw [hcb9] at hlow h128 HTd hkl
          have cN := Lib.hid (cN0.out i ((cb.toNat : Int) - 97) hin W1 GV1.out)
          have hnx2 := hnx
          rw [hcb9] at hnx2
          obtain ⟨cn, hcn⟩ : ∃ cn : Int, (cb.toNat : Int) = cn := ⟨_, rfl⟩
          have hcb : 97 ≤ cn ∧ cn ≤ 122 := by omega
          rw [hcn] at cN hkl
          simp only [hcn] at hnx2
          clear hcn hlow h128 hnx hcb9
          rcases hkl with ⟨hk9, hno⟩ | ⟨j, hk9, hjn, hjk, huni⟩
          · have HE9 : Hid ((i, k) = (E, M)) := Lib.hid (by rw [← HR.out, HTd.out, plyF_none hk9])
            have HNo := Lib.hid hno
            clear hk9 hno
            go_wp2_with fail
            refine cN.out.mono ?_
            rintro en w5 ⟨j2, ok, rfl, hyes, _, hb5⟩
            have GV5 := Lib.hid (GV1.out.on hb5)
            have HE5 : Hid (w5.heap[e9]? = some (.cells #[.slice a n c, .int .i64 (k0 : Int)] 80)) := Lib.hid ((hb5.block e9 (by omega)).trans HE1.out)
            have hok : ok = false := by
              cases ok with
              | false => rfl
              | true => exact absurd (hyes rfl) (HNo.out j2)
            subst hok
            clear hyes hb5 hbx
            obtain ⟨hq0, hq1⟩ := blkL HE5.out
            have cL := Lib.hid (cL0.out i k hin (by omega) (HFz.out i k HZk.out) _ GV5.out)
            have HZ9 : Hid (lsrZ t ps k0 i k = Z) := Lib.hid (by
              have h := HE9.out
              injection h with h3 h4
              rw [h3, h4]
              exact HZ.out)
            rw [HZ9.out] at cL
            go_wp2_with fail
            refine cL.out.mono ?_
            rintro e w9 ⟨rfl, hb9⟩
            go_wp2_with fail
            ((try simp only [Exit.inBlock, Exit.then]); refine bodyPost_ret (results_tmp4 rfl _ _ _) rfl ?_)
            have h := HE9.out
            injection h with h3 h4
            exact ⟨ret_play (by rw [h3]) (by rw [h4]) rfl rfl, (GV5.out.on hb9).bel⟩
          · have HUn := Lib.hid huni
            have HJk := Lib.hid hjk
            have cF := Lib.hid (cF0.out i hin)
            have HK9 := Lib.hid hk9
            obtain ⟨fb, hfb⟩ : ∃ fb, fatB t ps k0 i = fb := ⟨_, rfl⟩
            have HFb := Lib.hid hfb
            rw [hfb] at cF
            clear huni hk9 hjk hfb
            go_wp2_with fail
            refine cN.out.mono ?_
            rintro en w5 ⟨j2, ok, rfl, hyes, hno, hb5⟩
            have GV5 := Lib.hid (GV1.out.on hb5)
            have HE5 : Hid (w5.heap[e9]? = some (.cells #[.slice a n c, .int .i64 (k0 : Int)] 80)) := Lib.hid ((hb5.block e9 (by omega)).trans HE1.out)
            have HI5 : Hid (w5.heap[e9 + 1]? = some (.stringIter s (k + 1))) := Lib.hid ((hb5.block (e9 + 1) hs1).trans HI1.out)
            have hs5 : e9 + 1 < w5.heap.size := Nat.lt_of_lt_of_le hs1 hb5.size
            have hok : ok = true := by
              cases ok with
              | true => rfl
              | false => exact absurd HJk.out ((hno rfl).2 j)
            subst hok
            have hj2 := HUn.out j2 (hyes rfl)
            subst hj2
            clear hyes hno hb5 hbx
            obtain ⟨hq0, hq1⟩ := blkL HE5.out
            cases fb with
            | true =>
              have HE9 : Hid ((i, k) = (E, M)) := Lib.hid (by rw [← HR.out, plyF_fat HFb.out])
              go_wp2_with fail
              refine (cF.out _ GV5.out).mono ?_
              rintro e w6 ⟨rfl, hb6⟩
              have GV6 := Lib.hid (GV5.out.on hb6)
              have HE6 : Hid (w6.heap[e9]? = some (.cells #[.slice a n c, .int .i64 (k0 : Int)] 80)) := Lib.hid ((hb6.block e9 (by omega)).trans HE5.out)
              clear hb6 hq0 hq1
              obtain ⟨hq0, hq1⟩ := blkL HE6.out
              have cL := Lib.hid (cL0.out i k hin (by omega) (HFz.out i k HZk.out) _ GV6.out)
              have HZ9 : Hid (lsrZ t ps k0 i k = Z) := Lib.hid (by
                have h := HE9.out
                injection h with h3 h4
                rw [h3, h4]
                exact HZ.out)
              rw [HZ9.out] at cL
              go_wp2_with fail
              refine cL.out.mono ?_
              rintro e w9 ⟨rfl, hb9⟩
              go_wp2_with fail
              ((try simp only [Exit.inBlock, Exit.then]); refine bodyPost_ret (results_tmp4 rfl _ _ _) rfl ?_)
              have h := HE9.out
              injection h with h3 h4
              exact ⟨ret_play (by rw [h3]) (by rw [h4]) rfl rfl, (GV6.out.on hb9).bel⟩
            | false =>
              have HRn : Hid (plyF t ps k0 j2 (k + 1) ((tx s).drop (k + 1)) = (E, M)) := Lib.hid (by rw [← HR.out, HTd.out, plyF_on HFb.out HK9.out])
              go_wp2_with fail
              refine (cF.out _ GV5.out).mono ?_
              rintro e w6 ⟨rfl, hb6⟩
              have GV6 := Lib.hid (GV5.out.on hb6)
              have HE6 : Hid (w6.heap[e9]? = some (.cells #[.slice a n c, .int .i64 (k0 : Int)] 80)) := Lib.hid ((hb6.block e9 (by omega)).trans HE5.out)
              have HI6 : Hid (w6.heap[e9 + 1]? = some (.stringIter s (k + 1))) := Lib.hid ((hb6.block (e9 + 1) hs5).trans HI5.out)
              clear hb6 hq0 hq1
              go_wp2_with fail
              go_roundw
              case rel => exact ⟨j2, k + 1, rfl, by go_num, hjn, by omega, Lib.hid (fun h => by omega), HRn, HI6, HE6, GV6⟩
              case measure =>
                have e1 : w6.iterPos (e9 + 1) = k + 1 := by simp [World.iterPos, HI6.out]
                rw [HP0.out, e1]
                omega
        · have e : k = s.size := by omega
          have hnx := fun ty => Lib.run_next_end_at (P := Try.prog) wr (e9 + 1) s k ty HIt.out hlt
          have HE9 : Hid ((i, k) = (E, M)) := Lib.hid (by
            rw [← HR.out, tx_end (by omega)]
            rfl)
          clear e
          obtain ⟨hq0, hq1⟩ := blkL HE.out
          have cL := Lib.hid (cL0.out i k hin (by omega) (HFz.out i k HZk.out) _ GW.out)
          have HZ9 : Hid (lsrZ t ps k0 i k = Z) := Lib.hid (by
            have h := HE9.out
            injection h with h3 h4
            rw [h3, h4]
            exact HZ.out)
          rw [HZ9.out] at cL
          go_wp2_with fail
          refine cL.out.mono ?_
          rintro e w9 ⟨rfl, hb9⟩
          go_wp2_with fail
          ((try simp only [Exit.inBlock, Exit.then]); refine bodyPost_ret (results_tmp4 rfl _ _ _) rfl ?_)
          have h := HE9.out
          injection h with h3 h4
          exact ⟨ret_play (by rw [h3]) (by rw [h4]) rfl rfl, (GW.out.on hb9).bel⟩

theorem agreePlayLetters (t : List Nd) (n : Nat) (x0 : Int) (x1 : ByteArray) (hn : n ≤ 1048576) (hx0 : -9223372036854775808 ≤ x0 ∧ x0 ≤ 9223372036854775807) (hx1 : x1.size ≤ 1048576) : ∃ (v v2 v3 : Int) (ok : Bool),
    (∀ (W : World) (a : Option Addr), Nds W.heap.size W a n n t → Calls Try.prog 22 #[.agg #[.slice a n n], .int .i64 x0, .string x1] W fun e w' => e = .returned (.tuple #[.int .i64 v, .int .i64 v2, .int .i64 v3, .bool ok]) ∧ Below W.heap.size W w') ∧
    (∀ (W : World) (a : Option Addr), Nds W.heap.size W a n n t → Calls Try.prog 23 #[.agg #[.slice a n n], .int .i64 x0, .string x1] W fun e w' => e = .returned (.tuple #[.int .i64 v, .int .i64 v2, .int .i64 v3, .bool ok]) ∧ Below W.heap.size W w') :=
  ⟨_, _, _, _, fun W a hN => specPlayLetters_any t n n x0 x1 hn hx1 W a hN, fun W a hN => implPlayLetters_any t n n x0 x1 hn hx1 W a hN⟩

end Go.Proofs.Ytfehfjnmkaifbab
