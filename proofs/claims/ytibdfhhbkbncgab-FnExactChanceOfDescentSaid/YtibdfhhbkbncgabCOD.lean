import Derived.Test.YtibdfhhbkbncgabDrawn
import Derived.Test.YtibdfhhbkbncgabDscS
import Derived.Test.YtibdfhhbkbncgabGf
import Derived.Test.YtibdfhhbkbncgabPot
import Derived.Test.YtibdfhhbkbncgabStopC
import Derived.Test.YtibdfhhbkbncgabPlaceC
import Derived.Test.YtibdfhhbkbncgabWord

/-
  The chance that a descent comes to a word: the reference.
-/
namespace Go.Proofs.Ytibdfhhbkbncgab
open Go.RowKit
set_option linter.unusedVariables false
set_option linter.unusedSimpArgs false

set_option maxRecDepth 1000000 in
set_option maxHeartbeats 2000000 in
theorem specChanceOfDescent_any (t : List Nd) (n c : Nat) (s : ByteArray) (hn : n ≤ 1048576) (hs : s.size ≤ 9223372036854775807) (x : Nat × Nat) (ok : Bool) (hok : ok = (potB t && okW s)) (hx : ok = true → ∀ ps, Valid t ps → DscIs t ps (tx s) x) (h0 : ok = false → x = (0, 0)) (W : World) (a : Option Addr) (h : Nds W.heap.size W a n c t) :
    Calls Try.prog 9 #[.agg #[.slice a n c], .string s] W fun e w' => e = .returned (.tuple #[fv x, .bool ok]) ∧ Below W.heap.size W w' := by
  have G0 := Lib.hid (Gf.start 26 h)
  have cD := Lib.hid (fun W' (G : Gf 26 1 W W' a n c t) => l9Drawn_any W.heap.size a n c t W' (Nat.le_of_lt G.size) G.nds hn)
  have cI := Lib.hid (fun W' => l2Word_any s W' hs)
  have cL : Hid (∀ (ps : List Txt), Valid t ps → 0 < (wds t ps).length → okW s = true → DscIs t ps (tx s) x → ∀ W', Gf 26 1 W W' a n c t → Calls Try.prog 25 #[.agg #[.slice a n c], .string s] W' fun e w' => e = .returned (fv x) ∧ Below W'.heap.size W' w') := Lib.hid (fun ps hv hw ho hd W' G => l9Descent_any t ps n c s hv hw ho x hd W' a (G.nds.mono (Nat.le_of_lt G.size)))
  have HY : Hid (potB t = true → ∃ ps, Valid t ps ∧ 0 < (wds t ps).length) := Lib.hid (fun hp => by
    obtain ⟨⟨ps, hv⟩, hm⟩ := potB_yes hp
    exact ⟨ps, hv, by rw [← wordsOf_eq hv]; exact hm⟩)
  obtain ⟨q, hq⟩ : ∃ q, potB t = q := ⟨_, rfl⟩
  obtain ⟨r, hr⟩ : ∃ r, okW s = r := ⟨_, rfl⟩
  rw [hq] at cD HY hok
  rw [hr] at cI cL hok
  have HOk := Lib.hid hok
  obtain ⟨x1, x2⟩ := x
  simp only [fv_mk] at cL
  have HXx := Lib.hid hx
  have HX0 := Lib.hid h0
  have hbx := G0.out.box
  clear hq hr hok hx h0 h
  go_enter Try.func9, Try.ntmps9
  go_wp2_with fail
  obtain ⟨W1, hW1⟩ : ∃ W1, (W.alloc (.cells #[.slice a n c] 31)).alloc (.cells #[.int .i64 0, .int .i64 0] 26) = W1 := ⟨_, rfl⟩
  rw [hW1] at G0 ⊢
  clear hW1 hbx
  refine (cD.out _ G0.out).mono ?_
  rintro e w2 ⟨rfl, hb2⟩
  have G2 := Lib.hid (G0.out.on hb2)
  have hbx := G2.out.box
  clear hb2
  cases q with
  | false =>
    obtain rfl : ok = false := by rw [HOk.out]; rfl
    obtain ⟨f1, f2, f3, f4⟩ := G2.out.open
    obtain ⟨hE, hB9⟩ := G2.out.end' (.int .i64 0) (.int .i64 0)
    have HE := Lib.hid hE
    have HB9 := Lib.hid hB9
    clear hE hB9
    go_wp2_with fail
    generalize ((w2.setCell ⟨W.heap.size + 1, 0, none⟩ (.int .i64 0)).setCell ⟨W.heap.size + 1, 1, none⟩ (.int .i64 0)) = W9 at *
    obtain ⟨hc0, hc1⟩ := HE.out
    exact bodyPost_ret (v := .tuple #[fv (0, 0), .bool false]) (by simp [results, Try.results9, go_sem, hc0, hc1, fv]) rfl ⟨by rw [HX0.out (by trivial)], HB9.out⟩
  | true =>
    go_wp2_with fail
    refine (cI.out _).mono ?_
    rintro e w3 ⟨rfl, hw3⟩
    have G3 : Hid (Gf 26 1 W w3 a n c t) := Lib.hid (by first | (obtain ⟨nn, rfl⟩ := hw3; exact G2.out.drewN nn) | (subst hw3; exact G2.out) | exact G2.out.on hw3)
    have hbx3 := G3.out.box
    clear hw3 hbx
    cases r with
    | false =>
      obtain rfl : ok = false := by rw [HOk.out]; rfl
      obtain ⟨f1, f2, f3, f4⟩ := G3.out.open
      obtain ⟨hE, hB9⟩ := G3.out.end' (.int .i64 0) (.int .i64 0)
      have HE := Lib.hid hE
      have HB9 := Lib.hid hB9
      clear hE hB9
      go_wp2_with fail
      generalize ((w3.setCell ⟨W.heap.size + 1, 0, none⟩ (.int .i64 0)).setCell ⟨W.heap.size + 1, 1, none⟩ (.int .i64 0)) = W9 at *
      obtain ⟨hc0, hc1⟩ := HE.out
      exact bodyPost_ret (v := .tuple #[fv (0, 0), .bool false]) (by simp [results, Try.results9, go_sem, hc0, hc1, fv]) rfl ⟨by rw [HX0.out (by trivial)], HB9.out⟩
    | true =>
      obtain rfl : ok = true := by rw [HOk.out]; rfl
      obtain ⟨ps, hv, hw⟩ := HY.out (by trivial)
      have CL := Lib.hid (cL.out ps hv hw (by trivial) (HXx.out (by trivial) ps hv))
      clear hv hw
      go_wp2_with fail
      refine (CL.out _ G3.out).mono ?_
      rintro e w4 ⟨rfl, hb4⟩
      have G4 := Lib.hid (G3.out.on hb4)
      clear hb4
      obtain ⟨f1, f2, f3, f4⟩ := G4.out.open
      obtain ⟨hE, hB9⟩ := G4.out.end' (.int .i64 (x1 : Int)) (.int .i64 (x2 : Int))
      have HE := Lib.hid hE
      have HB9 := Lib.hid hB9
      clear hE hB9
      go_wp2_with fail
      generalize ((w4.setCell ⟨W.heap.size + 1, 0, none⟩ (.int .i64 (x1 : Int))).setCell ⟨W.heap.size + 1, 1, none⟩ (.int .i64 (x2 : Int))) = W9 at *
      obtain ⟨hc0, hc1⟩ := HE.out
      exact bodyPost_ret (v := .tuple #[fv (x1, x2), .bool true]) (by simp [results, Try.results9, go_sem, hc0, hc1, fv]) rfl ⟨rfl, HB9.out⟩

end Go.Proofs.Ytibdfhhbkbncgab

/-
  The chance that a descent comes to a word: the reference and the program answer the same.
-/
namespace Go.Proofs.Ytibdfhhbkbncgab
open Go.RowKit
set_option linter.unusedVariables false
set_option linter.unusedSimpArgs false

set_option maxRecDepth 1000000 in
set_option maxHeartbeats 2000000 in
theorem implChanceOfDescent_any (t : List Nd) (n c : Nat) (s : ByteArray) (hs : s.size ≤ 9223372036854775807) (x : Nat × Nat) (ok : Bool) (hok : ok = (potB t && okW s)) (hx : ok = true → ∀ ps, Valid t ps → DscIs t ps (tx s) x) (h0 : ok = false → x = (0, 0)) (W : World) (a : Option Addr) (h : Nds W.heap.size W a n c t) :
    Calls Try.prog 11 #[.agg #[.slice a n c], .string s] W fun e w' => e = .returned (.tuple #[fv x, .bool ok]) ∧ Below W.heap.size W w' := by
  have G0 := Lib.hid (Gf.start 26 h)
  have cD := Lib.hid (fun W' (G : Gf 26 1 W W' a n c t) => potOf_any W.heap.size a n c t W' (Nat.le_of_lt G.size) G.nds)
  have cI := Lib.hid (fun W' => implIsWord_any s W' hs)
  have cP : Hid (∀ (ps : List Txt), Valid t ps → okW s = true → ∀ W', Gf 26 1 W W' a n c t → Calls Try.prog 29 #[.agg #[.slice a n c], .string s] W' (cap.PlacePost ps (tx s) W')) := Lib.hid (fun ps hv ho W' G => cap.placeOf_any W.heap.size a n c t ps s W' (Nat.le_of_lt G.size) G.nds hv ho)
  have cS : Hid (∀ (ps : List Txt), Valid t ps → 0 < (wds t ps).length → ∀ (j : Nat), j < n → ∀ W', Gf 26 1 W W' a n c t → Calls Try.prog 31 #[.agg #[.slice a n c], .int .i64 (j : Int)] W' fun e w' => e = .returned (fv (1, wqi t (j : Int))) ∧ Below W'.heap.size W' w') := Lib.hid (fun ps hv hw j hj W' G => stopChance_any t ps n c j hv hw hj W' a (G.nds.mono (Nat.le_of_lt G.size)))
  have cW := Lib.hid (fun W' => whole_any 0 W')
  have HL := Lib.hid h.len
  have C := h.cap
  have HY : Hid (potB t = true → ∃ ps, Valid t ps ∧ 0 < (wds t ps).length) := Lib.hid (fun hp => by
    obtain ⟨⟨ps, hv⟩, hm⟩ := potB_yes hp
    exact ⟨ps, hv, by rw [← wordsOf_eq hv]; exact hm⟩)
  obtain ⟨q, hq⟩ : ∃ q, potB t = q := ⟨_, rfl⟩
  obtain ⟨r, hr⟩ : ∃ r, okW s = r := ⟨_, rfl⟩
  rw [hq] at cD HY hok
  rw [hr] at cI cP hok
  have HOk := Lib.hid hok
  obtain ⟨x1, x2⟩ := x
  simp only [fv_mk] at cS cW
  have HXx := Lib.hid hx
  have HX0 := Lib.hid h0
  have hbx := G0.out.box
  clear hq hr hok hx h0 h
  go_enter Try.func11, Try.ntmps11
  go_wp2_with fail
  obtain ⟨W1, hW1⟩ : ∃ W1, (W.alloc (.cells #[.slice a n c] 31)).alloc (.cells #[.int .i64 0, .int .i64 0] 26) = W1 := ⟨_, rfl⟩
  rw [hW1] at G0 ⊢
  clear hW1 hbx
  refine (cD.out _ G0.out).mono ?_
  rintro e w2' ⟨aw, cw, rfl, hO2, hb2⟩
  have G2' := Lib.hid (G0.out.on hb2)
  obtain ⟨m, hm⟩ : ∃ m, (wordsOf t).length = m := ⟨_, rfl⟩
  rw [hm] at hO2 ⊢
  obtain ⟨w2, hw2⟩ : ∃ w2, w2'.alloc (.cells #[.slice a n c, .slice aw m cw] 49) = w2 := ⟨_, rfl⟩
  have G2 : Hid (Gf 26 1 W w2 a n c t) := Lib.hid (by rw [← hw2]; exact G2'.out.on ((Below.refl _ _).alloc (Nat.le_refl _) _))
  have hbx := G2.out.box
  clear hb2 hO2 hm
  cases q with
  | false =>
    obtain rfl : ok = false := by rw [HOk.out]; rfl
    obtain ⟨f1, f2, f3, f4⟩ := G2.out.open
    obtain ⟨hE, hB9⟩ := G2.out.end' (.int .i64 0) (.int .i64 0)
    have HE := Lib.hid hE
    have HB9 := Lib.hid hB9
    clear hE hB9
    subst hw2
    go_wp2_with fail
    generalize (((w2'.alloc (.cells #[.slice a n c, .slice aw m cw] 49)).setCell ⟨W.heap.size + 1, 0, none⟩ (.int .i64 0)).setCell ⟨W.heap.size + 1, 1, none⟩ (.int .i64 0)) = W9 at *
    obtain ⟨hc0, hc1⟩ := HE.out
    exact bodyPost_ret (v := .tuple #[fv (0, 0), .bool false]) (by simp [results, Try.results11, go_sem, hc0, hc1, fv]) rfl ⟨by rw [HX0.out (by trivial)], HB9.out⟩
  | true =>
    go_wp2_with fail
    try rw [hw2]
    clear hw2
    refine (cI.out _).mono ?_
    rintro e w3 ⟨rfl, hw3⟩
    have G3 : Hid (Gf 26 1 W w3 a n c t) := Lib.hid (by first | (obtain ⟨nn, rfl⟩ := hw3; exact G2.out.drewN nn) | (subst hw3; exact G2.out) | exact G2.out.on hw3)
    have hbx3 := G3.out.box
    clear hw3 hbx
    cases r with
    | false =>
      obtain rfl : ok = false := by rw [HOk.out]; rfl
      obtain ⟨f1, f2, f3, f4⟩ := G3.out.open
      obtain ⟨hE, hB9⟩ := G3.out.end' (.int .i64 0) (.int .i64 0)
      have HE := Lib.hid hE
      have HB9 := Lib.hid hB9
      clear hE hB9
      go_wp2_with fail
      generalize ((w3.setCell ⟨W.heap.size + 1, 0, none⟩ (.int .i64 0)).setCell ⟨W.heap.size + 1, 1, none⟩ (.int .i64 0)) = W9 at *
      obtain ⟨hc0, hc1⟩ := HE.out
      exact bodyPost_ret (v := .tuple #[fv (0, 0), .bool false]) (by simp [results, Try.results11, go_sem, hc0, hc1, fv]) rfl ⟨by rw [HX0.out (by trivial)], HB9.out⟩
    | true =>
      obtain rfl : ok = true := by rw [HOk.out]; rfl
      obtain ⟨ps, hv, hw⟩ := HY.out (by trivial)
      have HV := Lib.hid hv
      have CP := Lib.hid (cP.out ps hv (by trivial))
      have CS := Lib.hid (cS.out ps hv hw)
      have HXs := Lib.hid (HXx.out (by trivial) ps hv)
      clear hv hw
      go_wp2_with fail
      refine (CP.out _ G3.out).mono ?_
      rintro e w4 ⟨j, fnd, rfl, hp1, hp2, hb4⟩
      have G4 := Lib.hid (G3.out.on hb4)
      have hbx4 := G4.out.box
      clear hb4 hbx3
      cases fnd with
      | false =>
        have HXz : Hid ((x1, x2) = (0, 1)) := Lib.hid (HXs.out.2 fun k hk => absurd (List.mem_of_getElem? hk) (hp2 (by trivial)).2)
        clear hp1 hp2
        go_wp2_with fail
        refine (cW.out _).mono ?_
        rintro e w5 ⟨rfl, hb5⟩
        have G5 := Lib.hid (G4.out.on hb5)
        clear hb5
        obtain ⟨f1, f2, f3, f4⟩ := G5.out.open
        obtain ⟨hE, hB9⟩ := G5.out.end' (.int .i64 0) (.int .i64 1)
        have HE := Lib.hid hE
        have HB9 := Lib.hid hB9
        clear hE hB9
        go_wp2_with fail
        generalize ((w5.setCell ⟨W.heap.size + 1, 0, none⟩ (.int .i64 0)).setCell ⟨W.heap.size + 1, 1, none⟩ (.int .i64 1)) = W9 at *
        obtain ⟨hc0, hc1⟩ := HE.out
        exact bodyPost_ret (v := .tuple #[fv (0, 1), .bool true]) (by simp [results, Try.results11, go_sem, hc0, hc1, fv]) rfl ⟨by rw [HXz.out], HB9.out⟩
      | true =>
        have hj := hp1 (by trivial)
        have hjn : j < n := by have h1 := (List.getElem?_eq_some_iff.1 hj).1; rw [HV.out.lenEq, HL.out] at h1; exact h1
        obtain ⟨b, o, l, p, e1, rfl, hb1, hd1, hl1, hpp1, hc1, hc2, hc3⟩ := G4.out.nds.elem j hjn
        have HE1 : Hid (enI t j = e1) := Lib.hid (enI_at hd1)
        have HJ := Lib.hid hj
        have hi0 : (0 : Int) ≤ (j : Int) := by omega
        have hi1 : (j : Int) < (n : Int) := by omega
        clear hd1 hj hp1 hp2
        cases e1 with
        | false =>
          have HXz : Hid ((x1, x2) = (0, 1)) := Lib.hid (HXs.out.2 fun k hk => by rw [asc_inj HV.out.tells.asc hk HJ.out]; exact HE1.out)
          go_wp2_with fail
          refine (cW.out _).mono ?_
          rintro e w5 ⟨rfl, hb5⟩
          have G5 := Lib.hid (G4.out.on hb5)
          clear hb5
          obtain ⟨f1, f2, f3, f4⟩ := G5.out.open
          obtain ⟨hE, hB9⟩ := G5.out.end' (.int .i64 0) (.int .i64 1)
          have HE := Lib.hid hE
          have HB9 := Lib.hid hB9
          clear hE hB9
          go_wp2_with fail
          generalize ((w5.setCell ⟨W.heap.size + 1, 0, none⟩ (.int .i64 0)).setCell ⟨W.heap.size + 1, 1, none⟩ (.int .i64 1)) = W9 at *
          obtain ⟨hc0, hc1⟩ := HE.out
          exact bodyPost_ret (v := .tuple #[fv (0, 1), .bool true]) (by simp [results, Try.results11, go_sem, hc0, hc1, fv]) rfl ⟨by rw [HXz.out], HB9.out⟩
        | true =>
          have hXz := HXs.out.1 j HJ.out HE1.out
          injection hXz with hX1 hX2
          have CS1 := CS.out j hjn
          rw [← hX2] at CS1
          have CSj := Lib.hid CS1
          have HX1 : Hid ((x1, x2) = (1, x2)) := Lib.hid (by rw [hX1])
          clear hX1 hX2 CS1
          go_wp2_with fail
          refine (CSj.out _ G4.out).mono ?_
          rintro e w5 ⟨rfl, hb5⟩
          have G5 := Lib.hid (G4.out.on hb5)
          clear hb5 hc1 hc2 hc3 hbx4
          obtain ⟨f1, f2, f3, f4⟩ := G5.out.open
          obtain ⟨hE, hB9⟩ := G5.out.end' (.int .i64 1) (.int .i64 (x2 : Int))
          have HE := Lib.hid hE
          have HB9 := Lib.hid hB9
          clear hE hB9
          go_wp2_with fail
          generalize ((w5.setCell ⟨W.heap.size + 1, 0, none⟩ (.int .i64 1)).setCell ⟨W.heap.size + 1, 1, none⟩ (.int .i64 (x2 : Int))) = W9 at *
          obtain ⟨hc0, hc1⟩ := HE.out
          exact bodyPost_ret (v := .tuple #[fv (1, x2), .bool true]) (by simp [results, Try.results11, go_sem, hc0, hc1, fv]) rfl ⟨by rw [HX1.out], HB9.out⟩

theorem agreeChanceOfDescent (t : List Nd) (n c : Nat) (s : ByteArray) (hn : n ≤ 1048576) (hs : s.size ≤ 9223372036854775807) : ∃ (x : Nat × Nat) (ok : Bool),
    (∀ (W : World) (a : Option Addr), Nds W.heap.size W a n c t → Calls Try.prog 9 #[.agg #[.slice a n c], .string s] W fun e w' => e = .returned (.tuple #[fv x, .bool ok]) ∧ Below W.heap.size W w') ∧
    (∀ (W : World) (a : Option Addr), Nds W.heap.size W a n c t → Calls Try.prog 11 #[.agg #[.slice a n c], .string s] W fun e w' => e = .returned (.tuple #[fv x, .bool ok]) ∧ Below W.heap.size W w') := by
  have : ∃ (x : Nat × Nat), ((potB t && okW s) = true → ∀ ps, Valid t ps → DscIs t ps (tx s) x) ∧ ((potB t && okW s) = false → x = (0, 0)) := by
    cases hp : (potB t && okW s) with
    | false => exact ⟨(0, 0), fun e => (by cases e), fun _ => rfl⟩
    | true =>
      simp only [Bool.and_eq_true] at hp
      obtain ⟨⟨ps, hv⟩, _⟩ := potB_yes hp.1
      obtain ⟨x, hx⟩ := dsc_ex hv (tx s)
      exact ⟨x, fun _ ps' hv' => by rw [valid_uniq hv' hv]; exact hx, fun e => (by cases e)⟩
  obtain ⟨x, h1, h2⟩ := this
  exact ⟨x, _, fun W a h => specChanceOfDescent_any t n c s hn hs x _ rfl h1 h2 W a h, fun W a h => implChanceOfDescent_any t n c s hs x _ rfl h1 h2 W a h⟩

end Go.Proofs.Ytibdfhhbkbncgab
