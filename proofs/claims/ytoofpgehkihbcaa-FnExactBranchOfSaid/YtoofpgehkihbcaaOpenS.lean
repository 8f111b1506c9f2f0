/-
  The reference's opening of a pressed tree.
-/
import Derived.Test.YtoofpgehkihbcaaOpenM
import Derived.Test.YtoofpgehkihbcaaL4Press
import Derived.Test.YtoofpgehkihbcaaL4Same
import Derived.Test.YtoofpgehkihbcaaReadWords
import Derived.Test.YtoofpgehkihbcaaLawNds
import Derived.Test.YtoofpgehkihbcaaPrFit
namespace Go.Proofs.Ytoofpgehkihbcaa
open Go.RowKit
set_option linter.unusedVariables false

/-- what stays while the words are gathered -/
structure OpW (w W : World) (a : Option Addr) (n c : Nat) (v : Value) (xs : List Txt) : Prop where
  bel : Below w.heap.size w W
  boxP : Boxed W w.heap.size 30 (.slice a n c)
  boxR : Boxed W (w.heap.size + 1) 44 (.slice none 0 0)
  own : W.ownsRow (w.heap.size + 2) 9 1 v xs.length (xs.map fun x => Value.string (bx x))

theorem OpW.keep {w W W' : World} {a : Option Addr} {n c : Nat} {v : Value} {xs : List Txt} (h : OpW w W a n c v xs) (hb : Below W.heap.size W W') : OpW w W' a n c v xs :=
  ⟨h.bel.trans (hb.mono h.bel.size), box_stay h.boxP hb, box_stay h.boxR hb, own_stay h.own hb⟩

theorem OpW.more {w W W' : World} {a : Option Addr} {n c : Nat} {v v' : Value} {xs : List Txt} {x : Txt} (h : OpW w W a n c v xs) (ho : W'.ownsRow (w.heap.size + 2) 9 1 v' (xs.length + 1) ((xs.map fun x => Value.string (bx x)) ++ [.string (bx x)])) (hg : W.grownBy W' (Value.ownBlock v)) : OpW w W' a n c v' (xs ++ [x]) := by
  refine ⟨?_, h.boxP.kept hg (h.boxP.not_row (by decide) h.own), h.boxR.kept hg (h.boxR.not_row (by decide) h.own), ?_⟩
  · exact h.bel.grown hg h.bel.size fun k hk => by
      have := (h.own.lt k hk).1
      omega
  · rw [List.length_append, List.map_append]
    exact ho

set_option maxRecDepth 1000000 in
set_option maxHeartbeats 4000000 in
theorem l4Open_any (B : Nat) (a : Option Addr) (n c : Nat) (p : List Br) (w : World) (hB : B ≤ w.heap.size) (h : Brs B w a n c p) (hn : n ≤ 1048576) :
    Calls Try.prog 27 #[.agg #[.slice a n c]] w (ReadRes w (pT p) (pOk p)) := by
  have L := Lib.hid h.len
  have C := h.cap
  have T := h.top
  have H := Lib.hid h
  have HB := Lib.hid hB
  clear h hB
  obtain ⟨ok, hok⟩ : ∃ ok, pOk p = ok := ⟨_, rfl⟩
  obtain ⟨tt, htt⟩ : ∃ tt, pT p = tt := ⟨_, rfl⟩
  have HOK := Lib.hid hok
  have HTn : Hid (ok = false → tt = []) := Lib.hid (fun h => by rw [← htt]; exact pT_no (hok.trans h))
  have HTy : Hid (ok = true → tt = made (pWds p)) := Lib.hid (fun h => by rw [← htt]; exact pT_yes (hok.trans h))
  rw [hok, htt]
  clear hok htt
  obtain ⟨i0, hii, hz0, hz1, hz2⟩ := info_parts infoS
  have HO0 : Hid (OpW w (((w.alloc (.cells #[.slice a n c] 30)).alloc (.cells #[.slice none 0 0] 44)).alloc (.cells #[] 9)) a n c (.slice (some ⟨w.heap.size + 1 + 1, 0, none⟩) 0 0) []) := Lib.hid (by
    have h1 := World.ownsRow_lit (base := w.heap.size + 2) (e := 9) (size := 1) ((w.alloc (.cells #[.slice a n c] 30)).alloc (.cells #[.slice none 0 0] 44)) #[] 0 (by first | (simp; done) | (simp; omega)) (by unfold maxLen; omega) rfl
    simp only [World.size_alloc] at h1
    have hb2 := Boxed.new (w.alloc (.cells #[.slice a n c] 30)) 44 (.slice none 0 0)
    simp only [World.size_alloc] at hb2
    exact ⟨((((Below.refl _ _).alloc (Nat.le_refl _) _).alloc (by simp) _).alloc (by first | (simp; done) | (simp; omega)) _), ((Boxed.new w _ _).alloc _).alloc _, hb2.alloc _, by simpa using h1⟩)
  by_cases hin : 1 ≤ n ∧ n ≤ 81
  · have cIn := Lib.hid (fun W => l1In_yes (x := (n : Int)) (a := 1) (b := 81) W (by omega))
    obtain ⟨hin1, hin2⟩ := hin
    go_enter Try.func27, Try.ntmps27
    go_wp2_with (go_at_call 50; refine (cIn.out _).mono ?_; rintro en w' ⟨rfl, rfl⟩)
    go_loopw [4, 5] (fun v i wr => ∃ (k : Nat) (v' : Value) (xs : List Txt), k ≤ n ∧ i = .int .i64 k ∧ v' = v ∧ xs.length ≤ k ∧ Hid (∀ x ∈ xs, x.length ≤ 24) ∧ Hid (∀ qs, TellsB p qs → xs = wdb (p.take k) (qs.take k)) ∧ Hid (OpW w wr a n c v' xs)) (fun _ i _ => n - (intOf i).toNat)
    case atStart => exact ⟨0, _, [], Nat.zero_le _, rfl, rfl, Nat.le_refl _, Lib.hid (by simp), Lib.hid (fun qs _ => by simp [wdb]), HO0⟩
    case round =>
      clear HO0
      obtain ⟨k, v', xs, hk, rfl, rfl, hxk, HX24, HRel, HO⟩ := hrel
      have hszB := HO.out.boxR.lt
      have hbox := HO.out.boxP.cell
      by_cases hlt : k < n
      · obtain ⟨b, o, l, q, e, rfl, hbB, hd, hl, hq, hc1, hc2, hc3⟩ := (H.out.keep (HO.out.bel.mono HB.out)).elem k hlt
        have HD := Lib.hid hd
        have hi0 : (0 : Int) ≤ (k : Int) := by omega
        have hi1 : (k : Int) < (n : Int) := by omega
        clear hd hc1 hc2
        cases e with
        | false =>
          have HRel2 : Hid (∀ qs, TellsB p qs → xs = wdb (p.take (k + 1)) (qs.take (k + 1))) := Lib.hid (fun qs hT => by
            have hql : k < qs.length := by rw [hT.1.len, L.out]; exact hlt
            rw [List.take_succ_eq_append_getElem hql, wdb_succ (by rw [List.length_take]; omega) HD.out, ← HRel.out qs hT]
            simp)
          go_wp2
          go_roundw
          case rel => exact ⟨k + 1, _, xs, by omega, by go_num, rfl, by omega, HX24, HRel2, HO⟩
          case measure => simp [intOf]; omega
        | true =>
          have cP := Lib.hid (l4Prefix_any wr.heap.size (some ⟨b, o, none⟩) n c k p wr (Nat.le_refl _) ((H.out.keep (HO.out.bel.mono HB.out)).mono (by have := HB.out; have := HO.out.bel.size; omega)) hn hlt)
          obtain ⟨aO, cO, rfl⟩ := own_slice HO.out.own
          obtain ⟨m, hm⟩ : ∃ m, xs.length = m := ⟨_, rfl⟩
          have hmk : m ≤ k := by rw [← hm]; exact hxk
          have HM := Lib.hid hm
          rw [hm]
          clear hm hxk
          go_wp2_with (first
            | (go_at_call 30; refine cP.out.mono ?_; rintro en w2 ⟨s, rfl, hs24, hPre, hb2⟩; have HS24 := Lib.hid hs24; have HPre := Lib.hid hPre; have HO2 := Lib.hid (HO.out.keep hb2); have hsz2 := HO2.out.boxR.lt; have HOr := Lib.hid HO2.out.own; rw [HM.out] at HOr; clear hs24 hPre hb2)
            | (at_builtin; refine wpList_append_own_at _ rfl _ _ 68 rfl (w.heap.size + 2) 9 i0 (.string ByteArray.empty) 1 16 Try.underlying68 hii hz0 hz1 hz2 rfl (by decide) _ _ _ rfl (HOr.out.alloc _) ⟨_, 0, none⟩ 1 1 [.string s] rfl rfl (cell_one_new _ _ _) (by simp [Value.oneCell']) (by unfold maxLen; omega) (by omega) (by first | omega | (simp; omega)) ?_; intro v3 w3 hO3 hG3 _ hat3; have HO3 := Lib.hid hO3; have hGr := Grew.app hG3 hat3; have HG3 : Hid (w2.grownBy w3 (Value.ownBlock (.slice aO m cO))) := Lib.hid hGr.grown; clear hO3 hG3 hat3 hGr)
            | fail)
          have HO4 : Hid (OpW w w3 (some ⟨b, o, none⟩) n c v3 (xs ++ [tx s])) := Lib.hid (HO2.out.more (by rw [bx_tx, HM.out]; exact HO3.out) (by rw [HM.out]; exact HG3.out))
          have HX4 : Hid (∀ x ∈ xs ++ [tx s], x.length ≤ 24) := Lib.hid (fun x hx => by
            rcases List.mem_append.1 hx with hx | hx
            · exact HX24.out x hx
            · rw [List.mem_singleton.1 hx, tx_len]; exact HS24.out)
          have HRel2 : Hid (∀ qs, TellsB p qs → xs ++ [tx s] = wdb (p.take (k + 1)) (qs.take (k + 1))) := Lib.hid (fun qs hT => by
            have hql : k < qs.length := by rw [hT.1.len, L.out]; exact hlt
            rw [List.take_succ_eq_append_getElem hql, wdb_succ (by rw [List.length_take]; omega) HD.out, ← HRel.out qs hT, HPre.out qs hT _ (List.getElem?_eq_getElem hql)]
            simp)
          go_roundw
          case rel => exact ⟨k + 1, v3, xs ++ [tx s], by omega, by go_num, rfl, by rw [List.length_append, HM.out]; simp; omega, HX4, HRel2, HO4⟩
          case measure => simp [intOf]; omega
      · have HY : Hid (∀ ws, IsPW p ws → xs = ws) := Lib.hid (fun ws hP => by
          have h1 := HRel.out _ hP.tells
          rw [List.take_of_length_le (by rw [L.out]; omega), List.take_of_length_le (by rw [hP.tells.1.len, L.out]; omega), hP.wdb] at h1
          exact h1)
        have HE := Lib.hid (pOk_of HY.out)
        rw [HOK.out] at HE
        obtain ⟨a9, c9, rfl, hWd⟩ := own_wds HO.out.own (fun x hx => by have := HX24.out x hx; omega)
        have HWd := Lib.hid hWd
        have cSet := Lib.hid (l2Set_any wr.heap.size a9 xs.length c9 xs wr (Nat.le_refl _) hWd (by omega))
        obtain ⟨m, hm⟩ : ∃ m, xs.length = m := ⟨_, rfl⟩
        rw [hm] at cSet ⊢
        clear hWd hm
        obtain ⟨r, hr⟩ : ∃ r, setOk xs = r := ⟨_, rfl⟩
        have HR := Lib.hid hr
        rw [hr] at cSet HE
        clear hr
        cases r with
        | false =>
          have hk := HE.out.1
          rw [Bool.false_and] at hk
          subst hk
          obtain rfl := HTn.out rfl
          go_wp2_with (go_at_call 51; refine cSet.out.mono ?_; rintro e w2 ⟨a2, n2, c2, rfl, _, hb2⟩; have HO2 := Lib.hid (HO.out.keep hb2); have hrc := HO2.out.boxR.cell; have hrf := HO2.out.boxR.frozen; clear hb2)
          refine bodyPost_ret (v := .tuple #[.agg #[.slice none 0 0], .bool false]) (by simp [results, Try.results27, go_sem, hrc]) rfl ⟨_, _, rfl, nds_nil _ _, HO2.out.bel.setCell (p := ⟨w.heap.size + 1, 0, none⟩) (by simp) _⟩
        | true =>
          have HIs := Lib.hid (setOk_words HR.out).1
          have H40 := Lib.hid (setOk_words HR.out).2
          have HV := Lib.hid (made_valid (setOf_asc xs) HIs.out H40.out)
          have HW := Lib.hid (made_wds_id (setOf_asc xs) HIs.out H40.out)
          have HPF := Lib.hid (prw_fits HIs.out H40.out)
          have HPL : Hid ((prw (setOf xs)).length ≤ 81) := Lib.hid (by have := prw_few (setOf xs); have := H40.out; omega)
          obtain ⟨f, hf⟩ : ∃ f, @decide (prw (setOf xs) = p) (Classical.propDecidable _) = f := ⟨_, rfl⟩
          have HF : Hid (f = true ↔ prw (setOf xs) = p) := Lib.hid (by rw [← hf]; exact @decide_eq_true_iff _ (Classical.propDecidable _))
          rw [hf, Bool.true_and] at HE
          obtain rfl : ok = f := HE.out.1
          clear hf
          go_wp2_with (first
            | (go_at_call 51; refine cSet.out.mono ?_; rintro e w2 ⟨a2, n2, c2, rfl, hW2, hb2⟩; have HW2 := Lib.hid (hW2 rfl); have hl2 : n2 ≤ 40 := (by have := HW2.out.len; have := H40.out; omega); have HO2 := Lib.hid (HO.out.keep hb2); clear hb2 hW2)
            | (go_at_call 52; refine (l2Of_any w2.heap.size a2 n2 c2 (setOf xs) w2 (Nat.le_refl _) HW2.out hl2 HIs.out).mono ?_; rintro e w3 ⟨a3, n3, c3, ps3, rfl, hN3, hP3, _, hb3⟩; rw [made_of hP3] at hN3; have HN3 := Lib.hid hN3; have HO3 := Lib.hid (HO2.out.keep hb3); clear hN3 hP3 hb3; have HBoxA := Lib.hid (Boxed.new w3 44 (.slice a3 n3 c3)); have hac := HBoxA.out.cell)
            | fail)
          clear hac
          have HO4 := Lib.hid (HO3.out.keep ((Below.refl _ _).alloc (Nat.le_refl _) (.cells #[.slice a3 n3 c3] 44)))
          have HN4 : Hid (Nds (w3.alloc (.cells #[.slice a3 n3 c3] 44)).heap.size (w3.alloc (.cells #[.slice a3 n3 c3] 44)) a3 n3 c3 (made (setOf xs))) := Lib.hid ((HN3.out.keep ((Below.refl _ _).alloc (Nat.le_refl _) _)).mono (by simp))
          obtain ⟨w4, hw4⟩ : ∃ w4, w3.alloc (.cells #[.slice a3 n3 c3] 44) = w4 := ⟨_, rfl⟩
          rw [hw4] at HBoxA HO4 HN4 ⊢
          clear hw4
          obtain ⟨B3, hB3⟩ : ∃ B3, w3.heap.size = B3 := ⟨_, rfl⟩
          rw [hB3] at HBoxA ⊢
          clear hB3
          obtain ⟨np, hnp⟩ : ∃ np, (prw (setOf xs)).length = np := ⟨_, rfl⟩
          have hnp81 : np ≤ 81 := by rw [← hnp]; exact HPL.out
          have cPress : Hid (∀ W, Below w4.heap.size w4 W → Calls Try.prog 39 #[.agg #[.slice a3 n3 c3]] W fun e w' => ∃ ap cp, e = .returned (.agg #[.slice ap np cp]) ∧ Brs w'.heap.size w' ap np cp (prw (setOf xs)) ∧ Below W.heap.size W w') := Lib.hid (fun W hW => by
            have h0 := l4Press_any a3 n3 c3 (made (setOf xs)) (pres (setOf xs)) W ((HN4.out.keep hW).mono hW.size) HV.out
            rw [HW.out] at h0
            refine h0.mono ?_
            rintro e w' ⟨v, rfl, hO, hb⟩
            obtain ⟨ap, cp, rfl⟩ := own_slice hO
            rw [hnp] at hO ⊢
            exact ⟨ap, cp, rfl, own_brs hO HPF.out, hb⟩)
          have cSame : Hid (∀ (W : World) (ap : Option Addr) (cp : Nat), Below w4.heap.size w4 W → Brs W.heap.size W ap np cp (prw (setOf xs)) → Calls Try.prog 53 #[.agg #[.slice ap np cp], .agg #[.slice a n c]] W fun e w' => e = .returned (.bool ok) ∧ Below W.heap.size W w') := Lib.hid (fun W ap cp hW hBr => l4Same_any W.heap.size ap a np cp n c (prw (setOf xs)) p W (Nat.le_refl _) hBr ((H.out.keep ((HO4.out.keep hW).bel.mono HB.out)).mono (by have := HB.out; have := (HO4.out.keep hW).bel.size; omega)) (by omega) hn ok HF.out)
          have HSx : Hid (∀ W, Below w4.heap.size w4 W → W.cell? ⟨B3, 0, none⟩ = some (.slice a3 n3 c3) ∧ W.cell? ⟨w.heap.size, 0, none⟩ = some (.slice a n c)) := Lib.hid (fun W hW => ⟨(box_stay HBoxA.out hW).cell, (HO4.out.keep hW).boxP.cell⟩)
          have HQd : Hid (Below w4.heap.size w4 w4.drew) := Lib.hid (Below.refl _ _).drew
          clear hnp hbox
          go_region_held3 (fun w' => w'.cell? ⟨B3, 0, none⟩ = some (.slice a3 n3 c3) ∧ w'.cell? ⟨w.heap.size, 0, none⟩ = some (.slice a n c))
            (first
              | exact HSx.out _ hq10
              | exact HSx.out _ hq9
              | exact HSx.out _ HQd.out)
            (first
              | (go_at_call 53; with_reducible refine (cSame.out _ _ _ hq9 hB9).mono ?_; rintro e10 w10 ⟨rfl, hb10⟩; have hq10 := hq9.trans (hb10.mono hq9.size); clear hb10)
              | (go_at_call 39; with_reducible refine (cPress.out _ HQd.out).mono ?_; rintro e9 w9 ⟨ap, cp, rfl, hB9, hb9⟩; have hq9 := HQd.out.trans (hb9.mono HQd.out.size); clear hb9))
          have HO10 := Lib.hid (HO4.out.keep hq10)
          have HN10 := Lib.hid ((HN4.out.keep hq10).mono hq10.size)
          have hac := (HSx.out _ hq10).1
          have hrc := HO10.out.boxR.cell
          have hrf := HO10.out.boxR.frozen
          have HM := Lib.hid HN4.out.len
          clear hq9 hq10 hB9 HSx HQd cPress cSame
          cases ok with
          | true =>
            obtain rfl := HTy.out rfl
            have he := HE.out.2 rfl
            rw [he]
            go_wp2
            refine bodyPost_ret (v := .tuple #[.agg #[.slice a3 n3 c3], .bool true]) (by simp [results, Try.results27, go_sem, hrc]) rfl ⟨_, _, by rw [HM.out], ?_, HO10.out.bel.setCell (p := ⟨w.heap.size + 1, 0, none⟩) (by simp) _⟩
            rw [HM.out]
            have := HN10.out.box HO10.out.boxR (.slice a3 n3 c3)
            simpa [World.setCell] using this
          | false =>
            obtain rfl := HTn.out rfl
            go_wp2
            refine bodyPost_ret (v := .tuple #[.agg #[.slice none 0 0], .bool false]) (by simp [results, Try.results27, go_sem, hrc]) rfl ⟨_, _, rfl, nds_nil _ _, HO10.out.bel.setCell (p := ⟨w.heap.size + 1, 0, none⟩) (by simp) _⟩
  · have cIn := Lib.hid (fun W => l1In_no (x := (n : Int)) (a := 1) (b := 81) W (by omega))
    have hk : ok = false := by
      rw [← HOK.out]
      apply pOk_no
      rintro ⟨ws, h1, h2, h3, h4⟩
      have := (IsPW.mk h1 h2 h3 h4).len
      rw [L.out] at this
      exact hin this
    subst hk
    obtain rfl := HTn.out rfl
    have hrc := HO0.out.boxR.cell
    have hrf := HO0.out.boxR.frozen
    have hbx := HO0.out.boxP.cell
    clear hin
    go_enter Try.func27, Try.ntmps27
    go_wp2_with (go_at_call 50; refine (cIn.out _).mono ?_; rintro en w' ⟨rfl, rfl⟩)
    refine bodyPost_ret (v := .tuple #[.agg #[.slice none 0 0], .bool false]) (by simp [results, Try.results27, go_sem, hrc]) rfl ⟨_, _, rfl, nds_nil _ _, ?_⟩
    first
      | exact HO0.out.bel
      | exact HO0.out.bel.setCell (p := ⟨w.heap.size + 1, 0, none⟩) (by simp) _

end Go.Proofs.Ytoofpgehkihbcaa
