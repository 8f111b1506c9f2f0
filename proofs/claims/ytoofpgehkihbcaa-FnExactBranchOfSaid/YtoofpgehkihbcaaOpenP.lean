/-
  The program's opening of a pressed tree.
-/
import Derived.Test.YtoofpgehkihbcaaOpenS
import Derived.Test.YtoofpgehkihbcaaTrieA
import Derived.Test.YtoofpgehkihbcaaLimbB
import Derived.Test.YtoofpgehkihbcaaEqualB
import Derived.Deep.RegionHeld3
namespace Go.Proofs.Ytoofpgehkihbcaa
open Go.RowKit
set_option linter.unusedVariables false

theorem pOk_len {p : List Br} (h : p.length = 0 ∨ 81 < p.length) : pOk p = false := by
  apply pOk_no
  rintro ⟨ws, h1, h2, h3, h4⟩
  have := (IsPW.mk h1 h2 h3 h4).len
  omega

/-- no texts are told: it is not valid -/
theorem pOk_untold {p : List Br} (h : ∀ qs, ToldB p p.length qs → p.length = 0 ∨ 81 < p.length) : pOk p = false := by
  cases e : pOk p with
  | false => rfl
  | true =>
    have hP := pWds_is e
    have := pOk_len (h _ hP.tells.1)
    rw [e] at this
    exact this

/-- the texts that are told are those of the tree -/
theorem told_words {p : List Br} {qs : List Txt} (h : ToldB p p.length qs) : ∀ ws, IsPW p ws → wdb p qs = ws := fun ws hP => by
  have e : qs = stl ws := by
    apply List.ext_getElem?
    intro i
    by_cases hi : i < p.length
    · exact told_uniq h hP.tells.1 i hi hi
    · rw [List.getElem?_eq_none (by rw [h.len]; omega), List.getElem?_eq_none (by rw [hP.tells.1.len]; omega)]
  rw [e]
  exact hP.wdb

/-- what stays -/
structure OpP (w W : World) (a : Option Addr) (n c : Nat) : Prop where
  bel : Below w.heap.size w W
  boxP : Boxed W w.heap.size 30 (.slice a n c)
  boxR : Boxed W (w.heap.size + 1) 44 (.slice none 0 0)

theorem OpP.keep {w W W' : World} {a : Option Addr} {n c : Nat} (h : OpP w W a n c) (hb : Below W.heap.size W W') : OpP w W' a n c :=
  ⟨h.bel.trans (hb.mono h.bel.size), box_stay h.boxP hb, box_stay h.boxR hb⟩

set_option maxRecDepth 1000000 in
theorem field_branches (ap : Option Addr) (np cp : Nat) (W : World) : (Instr.field 30 (.agg #[.slice ap np cp]) 0).run Try.prog W = .ok (.slice ap np cp) W := by
  kernel_rfl

set_option maxRecDepth 1000000 in
set_option maxHeartbeats 4000000 in
theorem implOpen_any (B : Nat) (a : Option Addr) (n c : Nat) (p : List Br) (w : World) (hB : B ≤ w.heap.size) (h : Brs B w a n c p) (hn : n ≤ 1048576) :
    Calls Try.prog 56 #[.agg #[.slice a n c]] w (TrieRes w (pT p) (pOk p)) := by
  have L := Lib.hid h.len
  have C := h.cap
  have T := h.top
  have H := Lib.hid h
  have HB := Lib.hid hB
  clear h hB
  obtain ⟨ok, hok⟩ : ∃ ok, pOk p = ok := ⟨_, rfl⟩
  obtain ⟨tt, htt⟩ : ∃ tt, pT p = tt := ⟨_, rfl⟩
  have HOK := Lib.hid hok
  have HTn : Hid (ok = false → tt = []) := Lib.hid (fun h => by rw [← htt]; exact pT_no (hok.trans h))
  have HTy : Hid (ok = true → tt = made (pWds p)) := Lib.hid (fun h => by rw [← htt]; exact pT_yes (hok.trans h))
  rw [hok, htt]
  clear hok htt
  have HO1 : Hid (OpP w ((w.alloc (.cells #[.slice a n c] 30)).alloc (.cells #[.slice none 0 0] 44)) a n c) := Lib.hid (by
    have hb2 := Boxed.new (w.alloc (.cells #[.slice a n c] 30)) 44 (.slice none 0 0)
    simp only [World.size_alloc] at hb2
    exact ⟨((Below.refl _ _).alloc (Nat.le_refl _) _).alloc (by simp) _, (Boxed.new w _ _).alloc _, hb2⟩)
  have hbx1 := HO1.out.boxP.cell
  go_enter Try.func56, Try.ntmps56
  go_upto_region 1 with fail
  obtain ⟨W1, hW1⟩ : ∃ W1, (w.alloc (.cells #[.slice a n c] 30)).alloc (.cells #[.slice none 0 0] 44) = W1 := ⟨_, rfl⟩
  rw [hW1] at HO1 hbx1 ⊢
  clear hW1
  have hBr1 := Lib.hid ((H.out.keep (HO1.out.bel.mono HB.out)).mono (by have := HB.out; have := HO1.out.bel.size; omega) : Brs W1.heap.size W1 a n c p)
  have cR := Lib.hid (readWords_any W1.heap.size a n c p W1 (Nat.le_refl _) hBr1.out hn)
  go_wp2_with fail
  refine cR.out.mono ?_
  rintro e w2 (⟨v, qs, rfl, hT, hl1, hl81, hO, h1000, hb⟩ | ⟨rfl, hbad, hb⟩)
  · have HT := Lib.hid hT
    have HO2 := Lib.hid (HO1.out.keep hb)
    obtain ⟨ys, hys⟩ : ∃ ys, wdb p qs = ys := ⟨_, rfl⟩
    have HYl : Hid (ys.length ≤ 81) := Lib.hid (by rw [← hys]; have := wdb_len p qs; omega)
    have HE := Lib.hid (pOk_of (told_words hT))
    rw [hys] at hO h1000 HE
    rw [HOK.out] at HE
    obtain ⟨a2, c2, rfl, hWd⟩ := own_wds hO (fun x hx => by have := h1000 x hx; omega)
    have HWd := Lib.hid hWd
    obtain ⟨m, hm⟩ : ∃ m, ys.length = m := ⟨_, rfl⟩
    rw [hm] at HWd HYl ⊢
    have hm81 : m ≤ 81 := HYl.out
    obtain ⟨r, hr⟩ : ∃ r, setOk ys = r := ⟨_, rfl⟩
    have HR := Lib.hid hr
    obtain ⟨tz, htz⟩ : ∃ tz, tofT ys = tz := ⟨_, rfl⟩
    have HTz := Lib.hid htz
    have cT := Lib.hid (implTrieOf_any w2.heap.size a2 m c2 ys w2 (Nat.le_refl _) HWd.out)
    rw [hr, htz] at cT
    rw [hr] at HE
    clear hT hys hO h1000 hWd hm hr htz hb hbx1 hl1 hl81
    obtain ⟨nz, hnz⟩ : ∃ nz, tz.length = nz := ⟨_, rfl⟩
    have HNz := Lib.hid hnz
    have cT2 : Hid (Calls Try.prog 77 #[.slice a2 m c2] w2 fun e w' => ∃ az cz, e = .returned (.tuple #[.agg #[.slice az nz cz], .bool r]) ∧ w'.ownsRow w2.heap.size 84 3 (.slice az nz cz) nz (ndc tz) ∧ Below w2.heap.size w2 w') := Lib.hid (by
      refine cT.out.mono ?_
      rintro e w' ⟨v, rfl, hO, hb⟩
      rw [hnz] at hO
      obtain ⟨az, cz, rfl⟩ := own_slice hO
      exact ⟨az, cz, rfl, hO, hb⟩)
    clear hnz cT
    cases r with
    | false =>
      have hk := HE.out.1
      rw [Bool.false_and] at hk
      subst hk
      obtain rfl := HTn.out rfl
      go_wp2_with (go_at_call 77; refine cT2.out.mono ?_; rintro e w3 ⟨az, cz, rfl, hO3, hb3⟩; have HO3 := Lib.hid (HO2.out.keep hb3); have HO4 := Lib.hid (HO3.out.keep ((Below.refl _ _).alloc (Nat.le_refl _) (.cells #[.slice az nz cz] 44))); have hrc := HO4.out.boxR.cell; have hrf := HO4.out.boxR.frozen; have hbx4 := HO4.out.boxP.cell; clear hO3 hb3)
      first
        | go_quiet (fail)
        | go_region_held3 (fun w' => True) (trivial) (fail)
      go_wp2
      refine bodyPost_ret (v := .tuple #[.agg #[.slice none 0 0], .bool false]) (by simp [results, Try.results56, go_sem, hrc]) rfl ⟨_, rfl, World.ownsRow_nil _ _ _ _, ?_⟩
      first
        | exact HO4.out.bel.setCell (p := ⟨w.heap.size + 1, 0, none⟩) (by simp) _
        | exact HO4.out.bel.drew.setCell (p := ⟨w.heap.size + 1, 0, none⟩) (by simp) _
        | exact (below_drewN HO4.out.bel _).setCell (p := ⟨w.heap.size + 1, 0, none⟩) (by simp) _
    | true =>
      have HIs := Lib.hid (setOk_words HR.out).1
      have H40 := Lib.hid (setOk_words HR.out).2
      have HPF := Lib.hid (prw_fits HIs.out H40.out)
      have HIy : Hid (∀ x ∈ ys, IsW x) := Lib.hid (fun x hx => HIs.out x (mem_setOf.2 hx))
      have HPS : Hid (prw ys = prw (setOf ys)) := Lib.hid (prw_same fun x => mem_setOf.symm)
      have HPL : Hid ((prw (setOf ys)).length ≤ 81) := Lib.hid (by have := prw_few (setOf ys); have := H40.out; omega)
      obtain ⟨f, hf⟩ : ∃ f, @decide (prw (setOf ys) = p) (Classical.propDecidable _) = f := ⟨_, rfl⟩
      have HF : Hid (f = true ↔ prw (setOf ys) = p) := Lib.hid (by rw [← hf]; exact @decide_eq_true_iff _ (Classical.propDecidable _))
      rw [hf, Bool.true_and] at HE
      obtain rfl : ok = f := HE.out.1
      clear hf
      go_wp2_with (go_at_call 77; refine cT2.out.mono ?_; rintro e w3 ⟨az, cz, rfl, hO3, hb3⟩; have HOz := Lib.hid hO3; have HB3 := Lib.hid hb3; have HO3 := Lib.hid (HO2.out.keep hb3); have HBoxA := Lib.hid (Boxed.new w3 44 (.slice az nz cz)); have hac := HBoxA.out.cell; clear hO3 hb3)
      clear hac
      have HB34 : Hid (Below w3.heap.size w3 (w3.alloc (.cells #[.slice az nz cz] 44))) := Lib.hid ((Below.refl _ _).alloc (Nat.le_refl _) _)
      have HO4 := Lib.hid (HO3.out.keep HB34.out)
      have HOz4 := Lib.hid (own_down (own_stay HOz.out HB34.out) HO2.out.bel.size)
      have HWd4 : Hid (Wds w2.heap.size (w3.alloc (.cells #[.slice az nz cz] 44)) a2 m c2 ys) := Lib.hid (HWd.out.keep (HB3.out.trans (HB34.out.mono HB3.out.size)))
      have hw24 : w2.heap.size ≤ (w3.alloc (.cells #[.slice az nz cz] 44)).heap.size := Nat.le_trans HB3.out.size HB34.out.size
      obtain ⟨w4, hw4⟩ : ∃ w4, w3.alloc (.cells #[.slice az nz cz] 44) = w4 := ⟨_, rfl⟩
      rw [hw4] at HBoxA HO4 HOz4 HWd4 hw24 ⊢
      clear hw4 HB34
      obtain ⟨B3, hB3⟩ : ∃ B3, w3.heap.size = B3 := ⟨_, rfl⟩
      rw [hB3] at HBoxA ⊢
      clear hB3
      obtain ⟨np, hnp⟩ : ∃ np, (prw (setOf ys)).length = np := ⟨_, rfl⟩
      have hnp81 : np ≤ 81 := by rw [← hnp]; exact HPL.out
      have cPress : Hid (∀ W, Below w4.heap.size w4 W → Calls Try.prog 79 #[.slice a2 m c2] W fun e w' => ∃ ap cp, e = .returned (.agg #[.slice ap np cp]) ∧ Brs w'.heap.size w' ap np cp (prw (setOf ys)) ∧ Below W.heap.size W w') := Lib.hid (fun W hW => by
        have h0 := pressWords_any w2.heap.size a2 m c2 ys W (Nat.le_trans hw24 hW.size) (HWd4.out.keep (hW.mono hw24)) (by omega) HIy.out
        rw [HPS.out] at h0
        refine h0.mono ?_
        rintro e w' ⟨v, rfl, hO, hb⟩
        obtain ⟨ap, cp, rfl⟩ := own_slice hO
        rw [hnp] at hO ⊢
        exact ⟨ap, cp, rfl, own_brs hO HPF.out, hb⟩)
      have cSame : Hid (∀ (W : World) (ap : Option Addr) (cp : Nat), Below w4.heap.size w4 W → Brs W.heap.size W ap np cp (prw (setOf ys)) → Calls Try.prog 78 #[.slice ap np cp, .slice a n c] W fun e w' => e = .returned (.bool ok) ∧ Below W.heap.size W w') := Lib.hid (fun W ap cp hW hBr => equalB_any W.heap.size ap a np cp n c (prw (setOf ys)) p W (Nat.le_refl _) hBr ((H.out.keep ((HO4.out.keep hW).bel.mono HB.out)).mono (by have := HB.out; have := (HO4.out.keep hW).bel.size; omega)) (by omega) hn ok HF.out)
      have HSx : Hid (∀ W, Below w4.heap.size w4 W → W.cell? ⟨w.heap.size, 0, none⟩ = some (.slice a n c)) := Lib.hid (fun W hW => (HO4.out.keep hW).boxP.cell)
      have HQd : Hid (Below w4.heap.size w4 w4.drew) := Lib.hid (Below.refl _ _).drew
      have hfld : ∀ (ap : Option Addr) (cp : Nat) (W : World), (Instr.field 30 (.agg #[.slice ap np cp]) 0).run Try.prog W = .ok (.slice ap np cp) W := fun ap cp W => field_branches ap np cp W
      clear hnp
      go_region_held3 (fun w' => w'.cell? ⟨w.heap.size, 0, none⟩ = some (.slice a n c))
        (first
          | exact HSx.out _ hq10
          | exact HSx.out _ hq9
          | exact HSx.out _ HQd.out)
        (first
          | (go_at_call 78; with_reducible refine (cSame.out _ _ _ hq9 hB9).mono ?_; rintro e10 w10 ⟨rfl, hb10⟩; have hq10 := hq9.trans (hb10.mono hq9.size); clear hb10)
          | (go_at_call 79; with_reducible refine (cPress.out _ HQd.out).mono ?_; rintro e9 w9 ⟨ap, cp, rfl, hB9, hb9⟩; have hq9 := HQd.out.trans (hb9.mono HQd.out.size); clear hb9))
      have HO10 := Lib.hid (HO4.out.keep hq10)
      have HOw := Lib.hid (own_stay HOz4.out hq10)
      have hac := (box_stay HBoxA.out hq10).cell
      have hrc := HO10.out.boxR.cell
      have hrf := HO10.out.boxR.frozen
      clear hq9 hq10 hB9 HSx HQd cPress cSame cT2
      cases ok with
      | true =>
        obtain rfl := HTy.out rfl
        have he := HE.out.2 rfl
        have hz : tz = made (pWds p) := by rw [he, ← HTz.out]; exact tofT_yes HR.out
        subst hz
        go_wp2
        refine bodyPost_ret (v := .tuple #[.agg #[.slice az nz cz], .bool true]) (by simp [results, Try.results56, go_sem, hrc]) rfl ⟨_, rfl, ?_, HO10.out.bel.setCell (p := ⟨w.heap.size + 1, 0, none⟩) (by simp) _⟩
        have h1 := HOw.out
        rw [he] at h1
        rw [show (made (setOf ys)).length = nz by rw [← he]; exact HNz.out]
        exact h1.kept (grownBy_setCell' w10 (w.heap.size + 1) _) (.inr (HO10.out.boxR.not_row (by decide) h1).symm)
      | false =>
        obtain rfl := HTn.out rfl
        go_wp2
        refine bodyPost_ret (v := .tuple #[.agg #[.slice none 0 0], .bool false]) (by simp [results, Try.results56, go_sem, hrc]) rfl ⟨_, rfl, World.ownsRow_nil _ _ _ _, HO10.out.bel.setCell (p := ⟨w.heap.size + 1, 0, none⟩) (by simp) _⟩
  · have hk : ok = false := by rw [← HOK.out]; exact pOk_untold hbad
    subst hk
    obtain rfl := HTn.out rfl
    have HO2 := Lib.hid (HO1.out.keep hb)
    have hrc := HO2.out.boxR.cell
    have hrf := HO2.out.boxR.frozen
    clear hbad hb hbx1
    go_wp2
    refine bodyPost_ret (v := .tuple #[.agg #[.slice none 0 0], .bool false]) (by simp [results, Try.results56, go_sem, hrc]) rfl ⟨_, rfl, World.ownsRow_nil _ _ _ _, HO2.out.bel.setCell (p := ⟨w.heap.size + 1, 0, none⟩) (by simp) _⟩

end Go.Proofs.Ytoofpgehkihbcaa
