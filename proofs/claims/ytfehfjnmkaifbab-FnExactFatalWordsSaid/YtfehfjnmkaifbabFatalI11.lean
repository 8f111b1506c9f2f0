/-
  FatalWords: the program; both answer the same.
-/
import Derived.Test.YtfehfjnmkaifbabFatal11
namespace Go.Proofs.Ytfehfjnmkaifbab
open Go.RowKit
set_option linter.unusedVariables false

theorem blk2 {w : World} {g : Nat} {a b : Value} {T : TypeId} (h : w.heap[g]? = some (.cells #[a, b] T)) : w.cell? ⟨g, 0, none⟩ = some a ∧ w.cell? ⟨g, 1, none⟩ = some b := by
  refine ⟨?_, ?_⟩ <;> simp [World.cell?, h]

set_option maxRecDepth 1000000 in
set_option maxHeartbeats 4000000 in
theorem implFatalWords_any (t : List Nd) (n c : Nat) (m : Int) (hn : n ≤ 1048576) (W : World) (a : Option Addr) (hN : Nds W.heap.size W a n c t) :
    Calls Try.prog 15 #[.agg #[.slice a n c], .int .i64 m] W (ownS.OwnTexts W (fwV t n m) (gamB t n 0 m)) := by
  obtain ⟨i0, hii, hz0, hz1, hz2⟩ := info_parts infoSt
  have G1 := Lib.hid (Gv.start hN)
  have L := Lib.hid hN.len
  have TT := hN.top
  have CC := hN.cap
  have hbx := G1.out.box
  have cX := Lib.hid (isGame_any t n c 0 m hn _ a (G1.out.nds.mono G1.out.bel.size))
  have HV : Hid (fwV t n m = if gamB t n 0 m = true then fwl t (psOf t) m.toNat t.length else []) := Lib.hid rfl
  obtain ⟨q, hq⟩ : ∃ q, gamB t n 0 m = q := ⟨_, rfl⟩
  rw [hq] at cX HV
  rw [HV.out, hq]
  clear hN HV
  cases q with
  | false =>
    rw [if_neg (by simp)]
    clear hq
    unfold ownS.OwnTexts
    go_enter Try.func15, Try.ntmps15
    go_wp2_with fail
    refine cX.out.mono ?_
    rintro e w3 ⟨rfl, hb3⟩
    have G3 := Lib.hid (G1.out.on hb3)
    clear hb3
    go_wp2_with fail
    go_ret2
    exact ⟨_, rfl, World.ownsRow_nil _ _ _ _, G3.out.bel⟩
  | true =>
    rw [if_pos rfl]
    obtain ⟨ps, i9, k0, hv, hps, hi0, hi, rfl, h1, h6⟩ := gam_yes hq
    have hpos : 0 < n := by omega
    have ek : ((k0 : Nat) : Int).toNat = k0 := by omega
    rw [hps, ek, L.out]
    have h481 := hv.size
    have cF0 : Hid (∀ k, k < n → ∀ V : World, Gv W V a n c t → Calls Try.prog 41 #[.agg #[.slice a n c, .int .i64 (k0 : Int)], .int .i64 (k : Int)] V fun e w' => e = .returned (.bool (fatB t ps k0 k)) ∧ Below V.heap.size V w') := Lib.hid (fun k h2 V hG => isFatal_any W.heap.size a n c k k0 t ps V (Nat.le_of_lt hG.lt) hG.nds hv h2 h6)
    have cO0 : Hid (∀ k, k < n → ∀ V : World, Gv W V a n c t → Calls Try.prog 42 #[.agg #[.slice a n c, .int .i64 (k0 : Int)], .int .i64 (k : Int)] V fun e w' => e = .returned (.bool (opn t ps k0 k)) ∧ Below V.heap.size V w') := Lib.hid (fun k h2 V hG => isOpen_any W.heap.size a n c k k0 t ps V (Nat.le_of_lt hG.lt) hG.nds hv h2 h1 h6)
    have cP0 : Hid (∀ k, k < n → ∀ V : World, Gv W V a n c t → Calls Try.prog 43 #[.agg #[.slice a n c], .int .i64 (k : Int)] V fun e w' => e = .returned (.string (bx (ps.getD k []))) ∧ Below V.heap.size V w') := Lib.hid (fun k h2 V hG => by
      obtain ⟨_, x, _, hx⟩ := hv.tells.at (show k < t.length by have := L.out; omega)
      have e : ps.getD k [] = x := by simp [List.getD, hx]
      rw [e]
      exact prefixAt_any W.heap.size a n c k t.length t ps x V (Nat.le_of_lt hG.lt) hG.nds hv.tells hx (hv.short x (List.mem_of_getElem? hx)))
    obtain ⟨X, hX⟩ : ∃ X, fwl t ps k0 n = X := ⟨_, rfl⟩
    rw [hX]
    have HX := Lib.hid hX
    have HSh : Hid (∀ k, (ps.getD k []).length ≤ 12) := Lib.hid (fun k => getD_short hv.short k)
    have HPar : Hid (∀ (k : Nat) (d : Nd), fatB t ps k0 k = true → t[k]? = some d → d.p = ((parN t k : Nat) : Int) ∧ parN t k < n) := Lib.hid (fun k d hf hd => by
      have hkl := (List.getElem?_eq_some_iff.1 hd).1
      have hk1 : 1 ≤ k := by
        rcases Nat.eq_zero_or_pos k with h | h
        · subst h
          rw [fatB_root hv.tells h1] at hf
          cases hf
        · exact h
      obtain ⟨j, x, c, hp, hj, _⟩ := hv.tells.step k d hk1 hkl hd
      have := L.out
      rw [parN_at hd, hp]
      exact ⟨by omega, by omega⟩)
    have HFl := Lib.hid (fun k => fwl_len t ps k0 k)
    clear hX hq hps hi0 hi ek hv
    unfold ownS.OwnTexts
    go_enter Try.func15, Try.ntmps15
    go_wp2_with fail
    refine cX.out.mono ?_
    rintro e w3 ⟨rfl, hb3⟩
    have G3 := Lib.hid (G1.out.on hb3)
    have hb4 := (Below.refl w3.heap.size w3).alloc (Nat.le_refl _) (.cells #[.slice a n c, .int .i64 (k0 : Int)] 69)
    have hs4 : (w3.alloc (.cells #[.slice a n c, .int .i64 (k0 : Int)] 69)).heap.size = w3.heap.size + 1 := by simp
    have hb5 := hb4.alloc (by rw [hs4]; omega) (.cells #[] 9)
    have G5 := Lib.hid (G3.out.on hb5)
    have HE5 : Hid (((w3.alloc (.cells #[.slice a n c, .int .i64 (k0 : Int)] 69)).alloc (.cells #[] 9)).heap[w3.heap.size]? = some (.cells #[.slice a n c, .int .i64 (k0 : Int)] 69)) := Lib.hid ((Below.heap_alloc _ _ _ (by rw [hs4]; omega)).trans (heap_alloc_new w3 _))
    have HO5 : Hid (((w3.alloc (.cells #[.slice a n c, .int .i64 (k0 : Int)] 69)).alloc (.cells #[] 9)).ownsRow (w3.heap.size + 1) 9 1 (.slice (some ⟨w3.heap.size + 1, 0, none⟩) 0 0) 0 []) := Lib.hid (by
      have := World.ownsRow_lit (base := w3.heap.size + 1) (e := 9) (size := 1) (w3.alloc (.cells #[.slice a n c, .int .i64 (k0 : Int)] 69)) #[] 0 (by rw [hs4]; omega) (by unfold maxLen; omega) rfl
      rw [hs4] at this
      simpa using this)
    have HS5 : Hid (((w3.alloc (.cells #[.slice a n c, .int .i64 (k0 : Int)] 69)).alloc (.cells #[] 9)).heap.size = w3.heap.size + 2 ∧ W.heap.size < w3.heap.size) := Lib.hid ⟨by simp, G3.out.lt⟩
    have hbx3 := G3.out.box
    have hbx5 := G5.out.box
    clear hb3 hb4 hb5 hs4 hbx
    go_wp2_with fail
    obtain ⟨w5, hw5⟩ : ∃ w5, (w3.alloc (.cells #[.slice a n c, .int .i64 (k0 : Int)] 69)).alloc (.cells #[] 9) = w5 := ⟨_, rfl⟩
    rw [hw5] at G5 HE5 HO5 HS5 hbx5 ⊢
    obtain ⟨e9, he9⟩ : ∃ e9, w3.heap.size = e9 := ⟨_, rfl⟩
    rw [he9] at HE5 HO5 HS5 ⊢
    have HZ5 : Hid (e9 + 1 ≤ w5.heap.size) := Lib.hid (by have := HS5.out; omega)
    clear hw5 he9 hbx3 hbx5 G3
    go_loopw [7, 21] (fun v q wr => ∃ (k : Nat) (v1 : Value), v1 = v ∧ q = .int .i64 (k : Int) ∧ k ≤ n ∧ Hid (wr.ownsRow (e9 + 1) 9 1 v1 (fwl t ps k0 k).length (txc (fwl t ps k0 k))) ∧ Hid (Below (e9 + 1) w5 wr)) (fun _ q _ => n - (intOf q).toNat)
    case atStart => exact ⟨0, _, rfl, rfl, Nat.zero_le _, HO5, Lib.hid (Below.refl _ _)⟩
    case round =>
      clear HO5
      obtain ⟨k, v1, rfl, rfl, hkn, HO, HBw⟩ := hrel
      have hgv : ∀ V, Below (e9 + 1) w5 V → Gv W V a n c t ∧ V.heap[e9]? = some (.cells #[.slice a n c, .int .i64 (k0 : Int)] 69) := fun V hV => ⟨G5.out.on2 (hV.mono (by have := HS5.out; omega)), (hV.block e9 (by omega)).trans HE5.out⟩
      have HGV := Lib.hid hgv
      clear hgv
      by_cases hlt : k < n
      · have GW := Lib.hid (HGV.out _ HBw.out).1
        obtain ⟨b, o, l, p, ee, ea, hbB, hd, hl, hp, hc1, hc2, hc3⟩ := GW.out.nds.elem k hlt
        have HD := Lib.hid hd
        have HBa := Lib.hid (HBw.out.alloc (Nat.le_trans HZ5.out HBw.out.size) (.cells #[.int .i64 l, .int .i64 p, .bool ee] 66))
        have HOa := Lib.hid (HO.out.alloc (.cells #[.int .i64 l, .int .i64 p, .bool ee] 66))
        obtain ⟨hbk0, hbk1⟩ := blk2 (HGV.out _ HBa.out).2
        have hzn := heap_alloc_new wr (.cells #[.int .i64 l, .int .i64 p, .bool ee] 66)
        have HZn := Lib.hid hzn
        have cF := Lib.hid (cF0.out k hlt _ (HGV.out _ HBa.out).1)
        have hsr : (wr.alloc (.cells #[.int .i64 l, .int .i64 p, .bool ee] 66)).heap.size = wr.heap.size + 1 := by simp
        have HSr := Lib.hid hsr
        subst ea
        have hi0 : (0 : Int) ≤ (k : Int) := by omega
        have hi1 : (k : Int) < (n : Int) := by omega
        have HST : Hid (fwl t ps k0 (k + 1) = fwl t ps k0 k ++ if fwB t ps k0 k = true then [ps.getD k []] else []) := Lib.hid rfl
        have HB : Hid (fwB t ps k0 k = (fatB t ps k0 k && opn t ps k0 (parN t k))) := Lib.hid rfl
        have HPr := fun h => HPar.out k _ h HD.out
        obtain ⟨f1, hf1⟩ : ∃ f1, fatB t ps k0 k = f1 := ⟨_, rfl⟩
        rw [hf1] at cF HB HPr
        clear hd hf1 hzn hsr
        cases f1 with
        | false =>
          have HN : Hid (fwl t ps k0 (k + 1) = fwl t ps k0 k) := Lib.hid (by rw [HST.out, HB.out]; simp)
          clear HPr
          go_wp2_with fail
          refine cF.out.mono ?_
          rintro e w6 ⟨rfl, hb6⟩
          have HO6 := Lib.hid (own_stay HOa.out hb6)
          have HB6 := Lib.hid (HBa.out.trans (hb6.mono (Nat.le_trans HZ5.out HBa.out.size)))
          clear hb6
          go_wp2_with fail
          go_roundw
          case rel => exact ⟨k + 1, _, rfl, by go_num, by omega, by rw [HN.out]; exact HO6, HB6⟩
          case measure => simp [intOf]; omega
        | true =>
          obtain ⟨hpe, hpn⟩ := HPr rfl
          simp only at hpe
          obtain ⟨pn, hpp⟩ : ∃ pn, parN t k = pn := ⟨_, rfl⟩
          rw [hpp] at hpe hpn HB
          subst hpe
          have cO := Lib.hid (cO0.out pn hpn)
          obtain ⟨f2, hf2⟩ : ∃ f2, opn t ps k0 pn = f2 := ⟨_, rfl⟩
          rw [hf2] at cO HB
          clear hf2 hpp HPr
          cases f2 with
          | false =>
            have HN : Hid (fwl t ps k0 (k + 1) = fwl t ps k0 k) := Lib.hid (by rw [HST.out, HB.out]; simp)
            go_wp2_with fail
            refine cF.out.mono ?_
            rintro e w6 ⟨rfl, hb6⟩
            have HO6 := Lib.hid (own_stay HOa.out hb6)
            have HB6 := Lib.hid (HBa.out.trans (hb6.mono (Nat.le_trans HZ5.out HBa.out.size)))
            obtain ⟨hbl0, hbl1⟩ := blk2 (HGV.out _ HB6.out).2
            have hcp : w6.cell? ⟨wr.heap.size, 1, none⟩ = some (.int .i64 (pn : Int)) := by
              have := (hb6.block wr.heap.size (by have := HSr.out; omega)).trans HZn.out
              simp [World.cell?, this]
            clear hb6 hbk0 hbk1
            go_wp2_with fail
            refine (cO.out _ (HGV.out _ HB6.out).1).mono ?_
            rintro e w7 ⟨rfl, hb7⟩
            have HO7 := Lib.hid (own_stay HO6.out hb7)
            have HB7 := Lib.hid (HB6.out.trans (hb7.mono (Nat.le_trans HZ5.out HB6.out.size)))
            clear hb7 hcp hbl0 hbl1
            go_wp2_with fail
            go_roundw
            case rel => exact ⟨k + 1, _, rfl, by go_num, by omega, by rw [HN.out]; exact HO7, HB7⟩
            case measure => simp [intOf]; omega
          | true =>
            have HN : Hid (fwl t ps k0 (k + 1) = fwl t ps k0 k ++ [ps.getD k []]) := Lib.hid (by rw [HST.out, HB.out]; rfl)
            have hfl := HFl.out k
            have hsh := HSh.out k
            obtain ⟨y, hy⟩ : ∃ y, ps.getD k [] = y := ⟨_, rfl⟩
            have cP := Lib.hid (cP0.out k hlt)
            rw [hy] at HN hsh cP
            obtain ⟨xs, hxs⟩ : ∃ xs, fwl t ps k0 k = xs := ⟨_, rfl⟩
            rw [hxs] at HN HOa hfl
            obtain ⟨mm, hmm⟩ : ∃ mm, xs.length = mm := ⟨_, rfl⟩
            have HMm := Lib.hid hmm
            rw [hmm] at HOa hfl
            clear hy hxs hmm HST
            go_wp2_with fail
            refine cF.out.mono ?_
            rintro e w6 ⟨rfl, hb6⟩
            have HO6 := Lib.hid (own_stay HOa.out hb6)
            have HB6 := Lib.hid (HBa.out.trans (hb6.mono (Nat.le_trans HZ5.out HBa.out.size)))
            obtain ⟨hbl0, hbl1⟩ := blk2 (HGV.out _ HB6.out).2
            have hcp : w6.cell? ⟨wr.heap.size, 1, none⟩ = some (.int .i64 (pn : Int)) := by
              have := (hb6.block wr.heap.size (by have := HSr.out; omega)).trans HZn.out
              simp [World.cell?, this]
            clear hb6 hbk0 hbk1
            go_wp2_with fail
            refine (cO.out _ (HGV.out _ HB6.out).1).mono ?_
            rintro e w7 ⟨rfl, hb7⟩
            have HO7 := Lib.hid (own_stay HO6.out hb7)
            have HB7 := Lib.hid (HB6.out.trans (hb7.mono (Nat.le_trans HZ5.out HB6.out.size)))
            have hx7 := (HGV.out _ HB7.out).1.box
            clear hb7 hcp hbl0 hbl1
            go_wp2_with fail
            refine (cP.out _ (HGV.out _ HB7.out).1).mono ?_
            rintro e w8 ⟨rfl, hb8⟩
            have HO8 := Lib.hid (own_stay HO7.out hb8)
            have HB8 := Lib.hid (HB7.out.trans (hb8.mono (Nat.le_trans HZ5.out HB7.out.size)))
            have hz8 : e9 + 1 ≤ w8.heap.size := by have := HB8.out.size; have := HS5.out; omega
            clear hb8 hx7
            go_wp2_with (at_builtin; refine wpList_append_own_at _ rfl _ _ 34 rfl (e9 + 1) 9 i0 (.string ByteArray.empty) 1 16 Try.underlying34 hii hz0 hz1 hz2 rfl (by decide) _ _ _ rfl (HO8.out.alloc _) ⟨_, 0, none⟩ 1 1 [.string (bx y)] rfl rfl (cell_one_new _ _ _) (by simp [Value.oneCell']) (by unfold maxLen; omega) (by omega) (by simp; omega) ?_; intro v' w9 hown' hgrow _ hat; have HO9 := Lib.hid hown'; have HB9 := Lib.hid (HB8.out.trans (((Below.refl (e9 + 1) w8).alloc hz8 (.cells #[.string (bx y)] 9)).trans (below_grown (HO8.out.alloc _) (Nat.le_refl _) (by simp; omega) hgrow))); clear hown' hgrow hat)
            go_roundw
            case rel => exact ⟨k + 1, v', rfl, by go_num, by omega, Lib.hid (by rw [HN.out, List.length_append, HMm.out]; unfold txc; rw [List.map_append]; exact HO9.out), HB9⟩
            case measure => simp [intOf]; omega
      · have e : k = n := by omega
        subst e
        have GW := Lib.hid (HGV.out _ HBw.out).1
        have hsz := HS5.out
        have HFin : Hid (wr.ownsRow W.heap.size 9 1 v1 X.length (txc X)) := Lib.hid (by rw [← HX.out]; exact own_down HO.out (by omega))
        clear hsz
        go_wp2_with fail
        go_ret2
        exact ⟨_, rfl, HFin.out, GW.out.bel⟩

theorem agreeFatalWords (t : List Nd) (n c : Nat) (x0 : Int) (hn : n ≤ 1048576) (hx0 : -9223372036854775808 ≤ x0 ∧ x0 ≤ 9223372036854775807) : ∃ (xs : List Txt) (ok : Bool), xs.length ≤ 1000 ∧ (∀ x ∈ xs, x.length ≤ 9223372036854775807) ∧
    (∀ (W : World) (a : Option Addr), Nds W.heap.size W a n c t → Calls Try.prog 14 #[.agg #[.slice a n c], .int .i64 x0] W fun e w' => ownS.OwnTexts W xs ok e w') ∧
    (∀ (W : World) (a : Option Addr), Nds W.heap.size W a n c t → Calls Try.prog 15 #[.agg #[.slice a n c], .int .i64 x0] W fun e w' => ownS.OwnTexts W xs ok e w') := by
  refine ⟨fwV t n x0, gamB t n 0 x0, ?_, ?_, fun W a hN => specFatalWords_any t n c x0 hn W a hN, fun W a hN => implFatalWords_any t n c x0 hn W a hN⟩
  · unfold fwV
    split
    · rename_i h
      obtain ⟨ps, i, k, hv, hps, _, hi, _⟩ := gam_yes h
      have h1 := fwl_len t (psOf t) x0.toNat t.length
      have h2 := hv.size
      omega
    · simp
  · unfold fwV
    split
    · rename_i h
      obtain ⟨ps, i, k, hv, hps, _⟩ := gam_yes h
      intro x hx
      rw [hps] at hx
      have := fwl_short hv.short t.length x hx
      omega
    · intro x hx; cases hx

end Go.Proofs.Ytfehfjnmkaifbab
