/-
  How many branches are on the way to a word: both functions.
-/
import Derived.Test.YtoofpgehkihbcaaBranchOf
import Derived.Test.YtoofpgehkihbcaaBelB
namespace Go.Proofs.Ytoofpgehkihbcaa
open Go.RowKit
set_option linter.unusedVariables false

/-- a branch is below the one that it names -/
theorem kd_par {p : List Br} {ws : List Txt} (h : IsPW p ws) {k : Nat} {d : Br} (hk : 1 ≤ k) (hd : p[k]? = some d) : ∃ (j : Nat) (x y : Txt), d.p = (j : Int) ∧ (stl ws)[j]? = some x ∧ (stl ws)[k]? = some y ∧ Kd (stl ws) x y ∧ j < k := by
  have hs := stl_sta ws
  have h2 : p = prw ws := h.eq
  rw [h2] at hd
  have hl : k < (stl ws).length := by rw [← prw_len]; exact (List.getElem?_eq_some_iff.1 hd).1
  obtain ⟨y, hy⟩ : ∃ y, (stl ws)[k]? = some y := ⟨_, List.getElem?_eq_getElem hl⟩
  have h3 : (prw ws)[k]? = some (brOf (stl ws) (fun x => decide (x ∈ ws)) y) := brs_at hy
  rw [h3] at hd
  have hne : y ≠ [] := by
    rintro rfl
    have := asc_inj hs.asc hy hs.zero
    omega
  have hK := up_kd hs.root (at_mem hy) hne
  have hj := idx_at hK.1
  refine ⟨_, _, y, ?_, hj, hy, hK, asc_pos hs.asc hj hy (bef_pre hK.2.2.1 hK.2.2.2.1)⟩
  rw [← Option.some.inj hd]
  simp [brOf, hne]

theorem end_par {p : List Br} {ws : List Txt} (h : IsPW p ws) {k : Nat} {d : Br} {y : Txt} (hy : (stl ws)[k]? = some y) (hd : p[k]? = some d) : d.e = decide (y ∈ ws) := by
  have h2 : p = prw ws := h.eq
  rw [h2] at hd
  have h3 : (prw ws)[k]? = some (brOf (stl ws) (fun x => decide (x ∈ ws)) y) := brs_at hy
  rw [h3] at hd
  rw [← Option.some.inj hd]
  rfl

theorem fst_word {ws : List Txt} {w x : Txt} {i : Nat} (h : FstB (stl ws) w i x) (hw : w ∈ ws) : x = w := by
  have hs := stl_sta ws
  obtain ⟨j, hj⟩ := mem_at (hs.words hw)
  by_cases e : x = w
  · exact e
  · exfalso
    have hb := bef_pre h.pre (Ne.symm e)
    have hlt := asc_pos hs.asc hj h.at' hb
    exact h.none j w hlt hj (List.prefix_refl _)

/-- what StepsTo answers -/
structure StAns (p : List Br) (s : ByteArray) (v : Int) (ok : Bool) : Prop where
  yes : ok = true → ∃ ws, IsPW p ws ∧ tx s ∈ ws ∧ v = ((prl.beg (tx s) ((stl ws).drop 1) : Nat) : Int)
  no : ok = false → v = 0 ∧ ∀ ws, IsPW p ws → tx s ∉ ws

theorem stAns_ex (p : List Br) (s : ByteArray) : ∃ (v : Int) (ok : Bool), StAns p s v ok := by
  by_cases h : ∃ ws, IsPW p ws ∧ tx s ∈ ws
  · obtain ⟨ws, h1, h2⟩ := h
    exact ⟨_, true, ⟨fun _ => ⟨ws, h1, h2, rfl⟩, fun h => (by cases h)⟩⟩
  · exact ⟨0, false, ⟨fun h => (by cases h), fun _ => ⟨rfl, fun ws h1 h2 => h ⟨ws, h1, h2⟩⟩⟩⟩

theorem bool_ofS (p : Prop) : ∃ r : Bool, r = true ↔ p := by
  by_cases h : p
  · exact ⟨true, by simp [h]⟩
  · exact ⟨false, by simp [h]⟩

theorem pT_words {p : List Br} (h : pOk p = true) : IsT (pT p) ∧ wordsOf (pT p) = pWds p := by
  have hP := pWds_is h
  have hV := made_valid hP.asc hP.isW hP.few
  rw [← pT_yes h] at hV
  refine ⟨⟨_, hV⟩, ?_⟩
  rw [wordsOf_eq hV, pT_yes h]
  exact made_wds_id hP.asc hP.isW hP.few

set_option maxRecDepth 1000000 in
set_option maxHeartbeats 4000000 in
theorem implStepsTo_any (a : Option Addr) (n c : Nat) (p : List Br) (s : ByteArray) (W : World) (hN : Brs W.heap.size W a n c p) (hn : n ≤ 1048576) (hs : s.size ≤ 9223372036854775807) {v : Int} {ok : Bool} (hA : StAns p s v ok) :
    Calls Try.prog 25 #[.agg #[.slice a n c], .string s] W fun e w' => e = .returned (.tuple #[.int .i64 v, .bool ok]) ∧ Below W.heap.size W w' := by
  have G1 := Lib.hid (GvP.start hN)
  have hbx := G1.out.box
  have hl := hN.len
  have C := hN.cap
  have T := hN.top
  obtain ⟨u, u2, k0, hB⟩ := brAns_ex p s
  have cB := Lib.hid (fun (w : World) (G : GvP W w a n c p) => implBranchOf_ans a n c p s w (G.brs.mono G.size) hn hs hB)
  have HB := Lib.hid hB
  have HA := Lib.hid hA
  clear hN hB hA
  cases k0 with
  | false =>
    obtain rfl : ok = false := by
      cases ok with
      | false => rfl
      | true =>
        obtain ⟨ws, h1, h2, _⟩ := HA.out.yes rfl
        have hw := h1.isW _ h2
        exact absurd ((pres_pre ws).mem _ |>.2 (.inr ⟨_, h2, List.prefix_refl _⟩)) ((HB.out.no rfl).2.2 ws h1 (okW_iff.2 hw))
    obtain ⟨rfl, _⟩ := HA.out.no rfl
    clear hl
    go_enter Try.func25, Try.ntmps25
    go_wp2_with fail
    refine (cB.out _ G1.out).mono ?_
    rintro e w2 ⟨rfl, hb2⟩
    have G2 := Lib.hid (G1.out.on hb2)
    clear hbx hb2
    go_wp2_with fail
    go_ret2
    exact ⟨rfl, G2.out.bel⟩
  | true =>
    obtain ⟨ws, i, x, d, h1, hokw, hF, hd, hu, hu2⟩ := HB.out.yes rfl
    have hin : i < n := by rw [← hl]; exact (List.getElem?_eq_some_iff.1 hd).1
    have hE := end_par h1 hF.at' hd
    have hsx : s.size ≤ x.length := by rw [← tx_len]; exact hF.pre.length_le
    have hx12 : x.length ≤ 12 := h1.tells.2.2 x (at_mem hF.at')
    have hpass : ok = true ↔ d.e = true ∧ ¬ u2 < (d.l.length : Int) := by
      rw [hE, decide_eq_true_eq]
      constructor
      · intro h
        obtain ⟨us, g1, g2, _⟩ := HA.out.yes h
        have e := g1.uniq h1
        subst e
        have := fst_word hF g2
        subst this
        refine ⟨g2, ?_⟩
        rw [hu2, tx_len]
        omega
      · rintro ⟨h2, h3⟩
        have hl2 : x.length ≤ s.size := by rw [hu2] at h3; omega
        have hxs : tx s = x := hF.pre.eq_of_length_le (by rw [tx_len]; exact hl2)
        cases ok with
        | true => rfl
        | false => exact absurd (by rw [hxs]; exact h2) ((HA.out.no rfl).2 ws h1)
    have hdl : d.l.length ≤ 12 ∨ 12 < d.l.length := by omega
    obtain ⟨b, o, l1, q1, e1, rfl, hb1, hd1, hl1, hq1, hc1, hc2, hc3⟩ := G1.out.brs.elem i hin
    rw [hd] at hd1
    have hd2 := Option.some.inj hd1
    subst hd2
    have htl : ((tx l1).length : Int) = (l1.size : Int) := by rw [tx_len]
    simp only [htl] at hpass hu2
    have HPass := Lib.hid hpass
    have HU2 := Lib.hid hu2
    have HSee : Hid (∀ w, GvP W w (some ⟨b, o, none⟩) n c p → w.cell? ⟨b, o + i * 3, none⟩ = some (.string l1) ∧ w.cell? ⟨b, o + i * 3 + 2, none⟩ = some (.bool e1)) := Lib.hid (fun w G => by
      obtain ⟨b', o', l', q', e', h1', h2', h3', h4', h5', h6', h7', h8'⟩ := G.brs.elem i hin
      simp only [Option.some.injEq, Addr.mk.injEq, and_true] at h1'
      obtain ⟨rfl, rfl⟩ := h1'
      rw [hd] at h3'
      have := Option.some.inj h3'
      injection this with g1 g2 g3
      have := tx_inj g1
      subst this
      subst g3
      exact ⟨h6', h8'⟩)
    have hi0 : (0 : Int) ≤ (i : Int) := by omega
    have hi1 : (i : Int) < (n : Int) := by omega
    have hub : -100 ≤ u2 - (l1.size : Int) ∧ u2 ≤ (l1.size : Int) + 100 := by rw [hu2]; omega
    subst hu
    have hl1' : (l1.size : Int) ≤ 9223372036854775807 := by omega
    clear hpass hu2 hd1 hE hc1 hc2 hc3 hdl hq1 hsx hx12 htl
    cases ok with
    | false =>
      obtain ⟨rfl, _⟩ := HA.out.no rfl
      cases e1 with
      | false =>
        clear hl hd hF h1 hub
        go_enter Try.func25, Try.ntmps25
        go_wp2_with fail
        refine (cB.out _ G1.out).mono ?_
        rintro e w2 ⟨rfl, hb2⟩
        have G2 := Lib.hid (G1.out.on hb2)
        clear hbx hb2
        have hbx := G2.out.box
        obtain ⟨hc1, hc3⟩ := HSee.out _ G2.out
        go_wp2_with fail
        go_ret2
        exact ⟨rfl, G2.out.bel⟩
      | true =>
        have hlt : u2 < (l1.size : Int) := by
          rcases Classical.em (u2 < (l1.size : Int)) with h | h
          · exact h
          · exact absurd (HPass.out.2 ⟨rfl, h⟩) (by simp)
        clear hl hd hF h1 hub
        go_enter Try.func25, Try.ntmps25
        go_wp2_with fail
        refine (cB.out _ G1.out).mono ?_
        rintro e w2 ⟨rfl, hb2⟩
        have G2 := Lib.hid (G1.out.on hb2)
        clear hbx hb2
        have hbx := G2.out.box
        obtain ⟨hc1, hc3⟩ := HSee.out _ G2.out
        go_wp2_with fail
        go_ret2
        exact ⟨rfl, G2.out.bel⟩
    | true =>
      obtain ⟨he, hge⟩ := HPass.out.1 rfl
      obtain rfl : e1 = true := he
      obtain ⟨us, g1, g2, hv⟩ := HA.out.yes rfl
      have e := g1.uniq h1
      subst e
      have hxs := fst_word hF g2
      subst hxs
      have h81 := h1.len.2
      rw [hl] at h81
      have HPW := Lib.hid h1
      obtain ⟨qs, hqs⟩ : ∃ qs, stl us = qs := ⟨_, rfl⟩
      have HKd : Hid (∀ (k : Nat) (d : Br), 1 ≤ k → p[k]? = some d → ∃ (j : Nat) (x y : Txt), d.p = (j : Int) ∧ qs[j]? = some x ∧ qs[k]? = some y ∧ Kd qs x y ∧ j < k) := Lib.hid (fun k d hk hd => by rw [← hqs]; exact kd_par h1 hk hd)
      have HAsc : Hid (Asc qs ∧ qs[0]? = some []) := Lib.hid (by rw [← hqs]; exact ⟨(stl_sta us).asc, (stl_sta us).zero⟩)
      have HI : Hid (qs[i]? = some (tx s)) := Lib.hid (by rw [← hqs]; exact hF.at')
      rw [hqs] at hv
      have hqn : qs.length = n := by rw [← hqs, h1.tells.1.len, hl]
      obtain ⟨z, hz⟩ : ∃ z, prl.beg (tx s) (qs.drop 1) = z := ⟨_, rfl⟩
      have hz81 : z ≤ 81 := by
        have := prl.beg_le (tx s) (qs.drop 1)
        rw [hz, List.length_drop, hqn] at this
        omega
      rw [hz] at hv
      have HZ := Lib.hid hz
      subst hv
      clear hl hd hF h1 hqs hub hz g1 g2 HPass HB HA hqn
      go_enter Try.func25, Try.ntmps25
      go_wp2_with fail
      refine (cB.out _ G1.out).mono ?_
      rintro e w2 ⟨rfl, hb2⟩
      have G2 := Lib.hid (G1.out.on hb2)
      clear hbx hb2
      have hbx := G2.out.box
      obtain ⟨hc1, hc3⟩ := HSee.out _ G2.out
      go_wp2
      clear hc1 hc3
      go_loop [6, 9] (fun q r => ∃ (k m : Nat) (y : Txt), k < n ∧ q = .int .i64 k ∧ r = .int .i64 m ∧ m ≤ z ∧ Hid (qs[k]? = some y) ∧ Hid (m + prl.beg y (qs.drop 1) = z)) (fun q _ => (intOf q).toNat)
      case atStart => exact ⟨i, 0, tx s, hin, rfl, rfl, Nat.zero_le _, HI, Lib.hid (by rw [HZ.out]; omega)⟩
      case round =>
        obtain ⟨k, m, y, hk, rfl, rfl, hm, HY, HM⟩ := hrel
        by_cases hk0 : k = 0
        · have hne : ((k : Int) != 0) = false := by simp [hk0]
          have HF : Hid (m = z) := Lib.hid (by
            have h2 := HY.out
            rw [hk0, HAsc.out.2] at h2
            have h3 := HM.out
            rw [← Option.some.inj h2, prl.beg_nil HAsc.out.1 HAsc.out.2] at h3
            omega)
          clear hk0
          go_wp2
          go_ret2
          exact ⟨ret_ib (by rw [HF.out]) rfl, G2.out.bel⟩
        · have hne : ((k : Int) != 0) = true := by simp [hk0]
          obtain ⟨b', o', l', q', e', hab, _, hd', _, _, _, hcp, _⟩ := G2.out.brs.elem k hk
          simp only [Option.some.injEq, Addr.mk.injEq, and_true] at hab
          obtain ⟨rfl, rfl⟩ := hab
          obtain ⟨j, x, y', e3, hx, hy', hK, hjk⟩ := HKd.out k _ (by omega) hd'
          have e4 : q' = (j : Int) := e3
          subst e4
          have hyy : y' = y := Option.some.inj (hy'.symm.trans HY.out)
          subst hyy
          have HX := Lib.hid hx
          have HM2 : Hid (m + 1 + prl.beg x (qs.drop 1) = z) := Lib.hid (by
            have h2 := prl.beg_kd HAsc.out.1 hK
            have h3 := HM.out
            omega)
          have hm2 : m + 1 ≤ z := by have := HM2.out; omega
          have hk1 : (0 : Int) ≤ (k : Int) := by omega
          have hk2 : (k : Int) < (n : Int) := by omega
          have hj0 : (0 : Int) ≤ (j : Int) := by omega
          clear hk0 hd' e3 hx hy' hK
          go_wp2
          go_round
          case rel => exact ⟨j, m + 1, x, by omega, rfl, by go_num, hm2, HX, HM2⟩
          case measure => simp [intOf]; omega

set_option maxRecDepth 1000000 in
set_option maxHeartbeats 4000000 in
theorem specStepsTo_any (a : Option Addr) (n c : Nat) (p : List Br) (s : ByteArray) (W : World) (hN : Brs W.heap.size W a n c p) (hn : n ≤ 1048576) (hs : s.size ≤ 9223372036854775807) {v : Int} {ok : Bool} (hA : StAns p s v ok) :
    Calls Try.prog 24 #[.agg #[.slice a n c], .string s] W fun e w' => e = .returned (.tuple #[.int .i64 v, .bool ok]) ∧ Below W.heap.size W w' := by
  have cO := Lib.hid (fun (w : World) (G : GvP W w a n c p) => l4Open_g G hn)
  obtain ⟨q, hq⟩ : ∃ q, pOk p = q := ⟨_, rfl⟩
  obtain ⟨m, hm⟩ : ∃ m, (pT p).length = m := ⟨_, rfl⟩
  have HQ := Lib.hid hq
  have HM := Lib.hid hm
  rw [hq, hm] at cO
  clear hq hm
  have G1 := Lib.hid (GvP.start hN)
  have hbx := G1.out.box
  have hl := hN.len
  have C := hN.cap
  have T := hN.top
  have HA := Lib.hid hA
  clear hN hA
  cases q with
  | false =>
    obtain rfl : ok = false := by
      cases ok with
      | false => rfl
      | true => obtain ⟨ws, h1, _⟩ := HA.out.yes rfl; rw [h1.ok] at HQ; exact absurd HQ.out (by simp)
    obtain ⟨rfl, _⟩ := HA.out.no rfl
    clear hl
    go_enter Try.func24, Try.ntmps24
    go_wp2_with fail
    refine (cO.out _ G1.out).mono ?_
    rintro e w2 ⟨a2, c2, rfl, _, hb2⟩
    have G2 := Lib.hid ((G1.out.on hb2).on ((Below.refl _ _).alloc (Nat.le_refl _) (.cells #[.slice a2 m c2] 44)))
    clear hbx hb2
    go_wp2_with fail
    go_ret2
    exact ⟨rfl, G2.out.bel⟩
  | true =>
    have hP := pWds_is HQ.out
    have hp81 := hP.len.2
    rw [hl] at hp81
    obtain ⟨hT, hwd⟩ := pT_words HQ.out
    have hm481 := (isT_size hT).2
    rw [HM.out] at hm481
    have cW : Hid (∀ (w : World) (a2 : Option Addr) (c2 : Nat), Nds w.heap.size w a2 m c2 (pT p) → Calls Try.prog 48 #[.agg #[.slice a2 m c2]] w fun e w' => ∃ a' c', e = .returned (.slice a' (pWds p).length c') ∧ Wds w'.heap.size w' a' (pWds p).length c' (pWds p) ∧ Below w.heap.size w w') := Lib.hid (fun w a2 c2 h => by
      have := specWords_read w.heap.size a2 m c2 (pT p) w (Nat.le_refl _) h (by omega) hT
      rwa [hwd] at this)
    have cH : Hid (∀ (w : World) (a2 : Option Addr) (k c2 : Nat), Wds w.heap.size w a2 k c2 (pWds p) → Calls Try.prog 47 #[.slice a2 k c2, .string s] w fun e w' => e = .returned (.bool ok) ∧ w = w') := Lib.hid (fun w a2 k c2 h => by
      have h0 := l2Has_any w.heap.size a2 k c2 (pWds p) s w (Nat.le_refl _) h hs
      have e : decide (tx s ∈ pWds p) = ok := by
        cases ok with
        | false => exact decide_eq_false ((HA.out.no rfl).2 _ hP)
        | true =>
          obtain ⟨ws, h1, h2, _⟩ := HA.out.yes rfl
          rw [h1.wds]
          exact decide_eq_true h2
      rwa [e] at h0)
    have HT := Lib.hid hP.tells
    have HP := Lib.hid hP
    have HL := Lib.hid hl
    have hqn : (stl (pWds p)).length = n := by rw [hP.tells.1.len, hl]
    obtain ⟨mw, hmw⟩ : ∃ mw, (pWds p).length = mw := ⟨_, rfl⟩
    rw [hmw] at cW
    clear hT hwd hl hP hmw
    cases ok with
    | false =>
      obtain ⟨rfl, _⟩ := HA.out.no rfl
      clear hqn
      go_enter Try.func24, Try.ntmps24
      go_wp2_with fail
      refine (cO.out _ G1.out).mono ?_
      rintro e w2 ⟨a2, c2, rfl, hN2, hb2⟩
      have G2 := Lib.hid ((G1.out.on hb2).on ((Below.refl _ _).alloc (Nat.le_refl _) (.cells #[.slice a2 m c2] 44)))
      have cW2 := Lib.hid (cW.out (w2.alloc (.cells #[.slice a2 m c2] 44)) a2 c2 ((hN2.keep ((Below.refl _ _).alloc (Nat.le_refl _) _)).mono (by simp)))
      clear hbx hb2 hN2
      go_wp2_with (first
        | (go_at_call 48; refine cW2.out.mono ?_; rintro e w3 ⟨a3, c3, rfl, hW3, hb3⟩; have G3 := Lib.hid (G2.out.on hb3); have HW3 := Lib.hid hW3; clear hb3 hW3)
        | (go_at_call 47; refine (cH.out _ _ _ _ HW3.out).mono ?_; rintro e w4 ⟨rfl, rfl⟩))
      go_ret2
      exact ⟨rfl, G3.out.bel⟩
    | true =>
      obtain ⟨ws, h1, h2, hv⟩ := HA.out.yes rfl
      obtain rfl : pWds p = ws := h1.wds
      have hs12 : s.size ≤ 12 := by have := (h1.isW _ h2).1; rwa [tx_len] at this
      obtain ⟨qs, hqs⟩ : ∃ qs, stl (pWds p) = qs := ⟨_, rfl⟩
      rw [hqs] at HT hqn hv
      have h0n := h1.len.1
      rw [HL.out] at h0n
      have HQn := Lib.hid hqn
      have HV := Lib.hid hv
      clear h1 h2 hqs hqn hv
      go_enter Try.func24, Try.ntmps24
      go_wp2_with fail
      refine (cO.out _ G1.out).mono ?_
      rintro e w2 ⟨a2, c2, rfl, hN2, hb2⟩
      have G2 := Lib.hid ((G1.out.on hb2).on ((Below.refl _ _).alloc (Nat.le_refl _) (.cells #[.slice a2 m c2] 44)))
      have cW2 := Lib.hid (cW.out (w2.alloc (.cells #[.slice a2 m c2] 44)) a2 c2 ((hN2.keep ((Below.refl _ _).alloc (Nat.le_refl _) _)).mono (by simp)))
      clear hbx hb2 hN2
      go_wp2_with (first
        | (go_at_call 48; refine cW2.out.mono ?_; rintro e w3 ⟨a3, c3, rfl, hW3, hb3⟩; have G3 := Lib.hid (G2.out.on hb3); have HW3 := Lib.hid hW3; clear hb3 hW3)
        | (go_at_call 47; refine (cH.out _ _ _ _ HW3.out).mono ?_; rintro e w4 ⟨rfl, rfl⟩))
      go_loopw [8, 9] (fun r q wr => ∃ (k z : Nat), k < n ∧ q = .int .i64 ((k : Int) + 1) ∧ r = .int .i64 z ∧ z ≤ k ∧ Hid (prl.beg (tx s) ((qs.drop 1).take k) = z) ∧ Hid (GvP W wr a n c p)) (fun _ q _ => n - (intOf q).toNat)
      case atStart => exact ⟨0, 0, by omega, rfl, rfl, Nat.le_refl _, Lib.hid (by simp [prl.beg]), G3⟩
      case round =>
        obtain ⟨k, z, hk, rfl, rfl, hz, HZ, HG⟩ := hrel
        have hbx := HG.out.box
        by_cases hlt : k + 1 < n
        · have cP := Lib.hid (l4Prefix_any W.heap.size a n c (k + 1) p wr HG.out.size HG.out.brs hn hlt)
          obtain ⟨y, hy⟩ : ∃ y, qs[k + 1]? = some y := ⟨_, List.getElem?_eq_getElem (by rw [HQn.out]; exact hlt)⟩
          have hyd : (qs.drop 1)[k]? = some y := by rw [List.getElem?_drop, Nat.add_comm]; exact hy
          have hy12 : y.length ≤ 12 := HT.out.2.2 y (at_mem hy)
          have HY := Lib.hid hy
          have HYd := Lib.hid hyd
          have hi0 : (0 : Int) ≤ (k : Int) + 1 := by omega
          have hi1 : (k : Int) + 1 < (n : Int) := by omega
          have ek : ((k + 1 : Nat) : Int) = (k : Int) + 1 := by omega
          rw [ek] at cP
          obtain ⟨r, hr⟩ := bool_ofS (y <+: tx s)
          have cC := Lib.hid (fun (u : ByteArray) (hu : tx u = y) w => l2Begins_any s u r (by rw [hu]; exact hr) w (by omega) (by rw [← tx_len, hu]; omega))
          have HR := Lib.hid hr
          clear hy hyd hr ek
          cases r with
          | true =>
            have HS : Hid (prl.beg (tx s) ((qs.drop 1).take (k + 1)) = z + 1) := Lib.hid (by rw [prl.beg_hit HYd.out (HR.out.1 rfl), HZ.out])
            go_wp2_with (first
              | (go_at_call 30; refine cP.out.mono ?_; rintro e w4 ⟨u, rfl, hu24, hpr, hb4⟩; have HU := Lib.hid (hpr qs HT.out _ HY.out); have HG4 := Lib.hid (HG.out.on hb4); clear hpr hb4)
              | (go_at_call 31; refine (cC.out u HU.out _).mono ?_; rintro e w5 ⟨rfl, rfl⟩))
            go_roundw
            case rel => exact ⟨k + 1, z + 1, by omega, by go_num, by go_num, by omega, HS, HG4⟩
            case measure => simp [intOf]; omega
          | false =>
            have HS : Hid (prl.beg (tx s) ((qs.drop 1).take (k + 1)) = z) := Lib.hid (by rw [prl.beg_miss HYd.out (fun h => by have := HR.out.2 h; cases this), HZ.out])
            go_wp2_with (first
              | (go_at_call 30; refine cP.out.mono ?_; rintro e w4 ⟨u, rfl, hu24, hpr, hb4⟩; have HU := Lib.hid (hpr qs HT.out _ HY.out); have HG4 := Lib.hid (HG.out.on hb4); clear hpr hb4)
              | (go_at_call 31; refine (cC.out u HU.out _).mono ?_; rintro e w5 ⟨rfl, rfl⟩))
            go_roundw
            case rel => exact ⟨k + 1, z, by omega, by go_num, rfl, by omega, HS, HG4⟩
            case measure => simp [intOf]; omega
        · have HF : Hid ((z : Int) = v) := Lib.hid (by
            rw [HV.out, ← HZ.out, List.take_of_length_le (by rw [List.length_drop, HQn.out]; omega)])
          have hi1 : ¬ (k : Int) + 1 < (n : Int) := by omega
          go_wp2
          go_ret2
          exact ⟨ret_ib HF.out rfl, HG.out.bel⟩

theorem agreeStepsTo (t : List Br) (n : Nat) (x0 : ByteArray) (hn : n ≤ 1048576) (hx0 : x0.size ≤ 9223372036854775807) : ∃ (v : Int) (ok : Bool),
    (∀ (W : World) (a : Option Addr), Brs W.heap.size W a n n t → Calls Try.prog 24 #[.agg #[.slice a n n], .string x0] W fun e w' => e = .returned (.tuple #[.int .i64 v, .bool ok]) ∧ Below W.heap.size W w') ∧
    (∀ (W : World) (a : Option Addr), Brs W.heap.size W a n n t → Calls Try.prog 25 #[.agg #[.slice a n n], .string x0] W fun e w' => e = .returned (.tuple #[.int .i64 v, .bool ok]) ∧ Below W.heap.size W w') := by
  obtain ⟨v, ok, hA⟩ := stAns_ex t x0
  exact ⟨v, ok, fun W a hN => specStepsTo_any a n n t x0 W hN hn hx0 hA, fun W a hN => implStepsTo_any a n n t x0 W hN hn hx0 hA⟩

end Go.Proofs.Ytoofpgehkihbcaa
