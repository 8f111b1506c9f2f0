/-
  The chance that two words have the same start: the program.
-/
import Derived.Test.YtibdfhhbkbncgaaDrawn
import Derived.Test.YtibdfhhbkbncgaaMnSame
import Derived.Test.YtibdfhhbkbncgaaSst
import Derived.Test.YtibdfhhbkbncgaaBelC
import Derived.Test.YtibdfhhbkbncgaaGf
import Derived.Deep.RegionHeld3
namespace Go.Proofs.Ytibdfhhbkbncgaa
open Go.RowKit
set_option linter.unusedVariables false
set_option linter.unusedSimpArgs false

/-- what stays while the program works: as Gf, and the box of the number -/
structure Gn (ty : TypeId) (x0 : Int) (W w : World) (a : Option Addr) (n c : Nat) (t : List Nd) : Prop where
  gf : Gf ty 2 W w a n c t
  num : w.cell? ⟨W.heap.size + 1, 0, none⟩ = some (.int .i64 x0)
theorem Gn.on {ty : TypeId} {x0 : Int} {W w w' : World} {a : Option Addr} {n c : Nat} {t : List Nd} (h : Gn ty x0 W w a n c t) (hb : Below w.heap.size w w') : Gn ty x0 W w' a n c t :=
  ⟨h.gf.on hb, (hb.cell (p := ⟨W.heap.size + 1, 0, none⟩) (show W.heap.size + 1 < w.heap.size by have := h.gf.lt; omega)).trans h.num⟩
theorem Gn.start {W : World} {a : Option Addr} {n c : Nat} {t : List Nd} (ty : TypeId) (x0 : Int) (h : Nds W.heap.size W a n c t) : Gn ty x0 W (((W.alloc (.cells #[.slice a n c] 31)).alloc (.cells #[.int .i64 x0] 3)).alloc (.cells #[.int .i64 0, .int .i64 0] ty)) a n c t := by
  have hb : Below W.heap.size W (((W.alloc (.cells #[.slice a n c] 31)).alloc (.cells #[.int .i64 x0] 3)).alloc (.cells #[.int .i64 0, .int .i64 0] ty)) := (((Below.refl _ _).alloc (Nat.le_refl _) _).alloc (by simp) _).alloc (by simp; omega) _
  refine ⟨⟨?_, ?_, by omega, by simp, hb, h.keep hb⟩, ?_⟩
  · rw [World.cell?_alloc_lt _ _ _ (by simp; omega), World.cell?_alloc_lt _ _ _ (by simp)]
    simp
  · have := heap_alloc_new ((W.alloc (.cells #[.slice a n c] 31)).alloc (.cells #[.int .i64 x0] 3)) (.cells #[.int .i64 0, .int .i64 0] ty)
    simpa using this
  · rw [World.cell?_alloc_lt _ _ _ (by simp)]
    simp

set_option maxRecDepth 1000000 in
set_option maxHeartbeats 2000000 in
theorem sameTell (t : List Nd) (ps : List Txt) (n c n0 q1 q2 B : Nat) (hv : Valid t ps) (x : Txt) (hx : x ∈ wds t ps) (W : World) (a : Option Addr) (hB : B ≤ W.heap.size) (h : Nds B W a n c t) (h1 : W.cell? ⟨q1, 0, none⟩ = some (.int .i64 (n0 : Int))) (h2 : W.cell? ⟨q2, 0, none⟩ = some (.slice a n c)) (hq1 : q1 < W.heap.size) (hq2 : q2 < W.heap.size) :
    Calls Try.prog 41 #[.string (bx x), .pointer (some ⟨q1, 0, none⟩), .pointer (some ⟨q2, 0, none⟩)] W fun e w' => e = .returned (.int .i64 (sst (wds t ps) n0 x : Int)) ∧ Below W.heap.size W w' := by
  have hzx : (bx x).size = x.length := by rw [← tx_len, tx_bx]
  have hxp : x ∈ ps := (wds_sub t ps).subset hx
  have hxW := hv.wordsW x hx
  have hx12 := hxW.1
  have HPc : Hid (∀ k, x.take k ∈ ps) := Lib.hid (fun k => cap.pre_closed hv hxp (List.take_prefix _ _))
  obtain ⟨s, hs⟩ : ∃ s, bx x = s := ⟨_, rfl⟩
  have HTx : Hid (tx s = x) := Lib.hid (by rw [← hs, tx_bx])
  rw [hs] at hzx ⊢
  have HN := Lib.hid h
  have HBs := Lib.hid hB
  have hnL : Hid (t.length = n) := Lib.hid h.len
  clear hs h hB
  by_cases hl : n0 ≤ x.length
  · have HOk : Hid (okW (s.extract 0 n0) = true) := Lib.hid (okW_iff.2 (by
      rw [show (s.extract 0 n0).data.toList = tx (s.extract 0 n0) from rfl, tx_extract, HTx.out]
      exact ⟨by rw [List.length_take]; omega, fun c hc => hxW.2 c (List.mem_of_mem_take hc)⟩))
    have cPl : Hid (∀ W', Below W.heap.size W W' → Calls Try.prog 42 #[.agg #[.slice a n c], .string (s.extract 0 n0)] W' fun e w' => ∃ j : Nat, e = .returned (.tuple #[.int .i64 (j : Int), .bool true]) ∧ ps[j]? = some (x.take n0) ∧ Below W'.heap.size W' w') := Lib.hid (fun W' hb => (cap.placeOf_any B a n c t ps (s.extract 0 n0) W' (Nat.le_trans HBs.out hb.size) (HN.out.keep (hb.mono HBs.out)) hv HOk.out).mono fun e w' ⟨j, ok, e1, e2, e3, e4⟩ => by
      rw [tx_extract, HTx.out] at e2 e3
      cases ok with
      | true => exact ⟨j, e1, e2 rfl, e4⟩
      | false => exact absurd (HPc.out n0) (e3 rfl).2)
    have cC : Hid (∀ (j : Nat) W', Below W.heap.size W W' → ps[j]? = some (x.take n0) → Calls Try.prog 43 #[.agg #[.slice a n c], .int .i64 (j : Int)] W' fun e w' => e = .returned (.int .i64 (sst (wds t ps) n0 x : Int)) ∧ Below W'.heap.size W' w') := Lib.hid (fun j W' hb hj => (countBelow_any B a n c j t ps W' (Nat.le_trans HBs.out hb.size) (HN.out.keep (hb.mono HBs.out)) hv (by have := (List.getElem?_eq_some_iff.1 hj).1; have := hv.lenEq; have := hnL.out; omega)).mono fun e w' ⟨b, e1, e2, e3⟩ => by
      rw [e1, undr_ends hv e2 hj]
      unfold sst
      rw [if_pos hl]
      exact ⟨rfl, e3⟩)
    obtain ⟨r, hr⟩ : ∃ r, sst (wds t ps) n0 x = r := ⟨_, rfl⟩
    rw [hr] at cC ⊢
    have h0 : (0 : Int) ≤ (n0 : Int) := by omega
    have h1s : (n0 : Int) ≤ (s.size : Int) := by omega
    have hd : decide ((s.size : Int) < (n0 : Int)) = false := decide_eq_false (by omega)
    have hd2 : ¬ (s.size : Int) < (n0 : Int) := by omega
    have HL1 : Hid (Below W.heap.size W W) := Lib.hid (Below.refl _ _)
    clear hr hv hx hxp hxW
    go_enter Try.func41, Try.ntmps41
    go_wp2_with fail
    go_region_held3 (fun w' => w'.cell? ⟨q1, 0, none⟩ = some (.int .i64 (n0 : Int)) ∧ w'.cell? ⟨q2, 0, none⟩ = some (.slice a n c))
      (first
        | exact ⟨(hb5.cell (p := ⟨q1, 0, none⟩) hq1).trans h1, (hb5.cell (p := ⟨q2, 0, none⟩) hq2).trans h2⟩
        | exact ⟨h1, h2⟩)
      (first
        | (go_at_call 42; refine (cPl.out _ (by first | exact (Below.refl _ _).drew | exact Below.refl _ _)).mono ?_; rintro e w5 ⟨j5, rfl, hj5, hb5⟩))
    have HB5 := Lib.hid ((Below.refl W.heap.size W).drew.trans hb5)
    have HJ5 := Lib.hid hj5
    have hbx := (hb5.cell (p := ⟨q2, 0, none⟩) hq2).trans h2
    clear hb5 hj5
    go_wp2_with fail
    refine (cC.out j5 _ HB5.out HJ5.out).mono ?_
    rintro e w6 ⟨rfl, hb6⟩
    go_wp2_with fail
    go_ret
    exact ⟨rfl, HB5.out.trans (hb6.mono HB5.out.size)⟩
  · have HR : Hid (sst (wds t ps) n0 x = 0) := Lib.hid (by unfold sst; rw [if_neg hl])
    have hd : decide ((s.size : Int) < (n0 : Int)) = true := decide_eq_true (by omega)
    have hd2 : (s.size : Int) < (n0 : Int) := by omega
    clear hv hx hxp hxW
    go_enter Try.func41, Try.ntmps41
    go_wp2
    go_ret
    exact ⟨ret_num (by rw [HR.out]; rfl), Below.refl _ _⟩

set_option maxRecDepth 1000000 in
set_option maxHeartbeats 4000000 in
theorem implSame_any (t : List Nd) (n c : Nat) (x0 : Int) (x : Nat × Nat) (ok : Bool) (hok : ok = true ↔ (potB t = true ∧ 0 ≤ x0 ∧ x0 ≤ 12)) (hx : ok = true → x = fra (tsum (sst (wordsOf t) x0.toNat) (wordsOf t)) ((wordsOf t).length * (wordsOf t).length)) (h0 : ok = false → x = (0, 0)) (W : World) (a : Option Addr) (h : Nds W.heap.size W a n c t) :
    Calls Try.prog 18 #[.agg #[.slice a n c], .int .i64 x0] W fun e w' => e = .returned (.tuple #[fv x, .bool ok]) ∧ Below W.heap.size W w' := by
  have G0 := Lib.hid (Gn.start 26 x0 h)
  have cD := Lib.hid (fun W' (G : Gn 26 x0 W W' a n c t) => potOf_any W.heap.size a n c t W' (Nat.le_of_lt G.gf.size) G.gf.nds)
  have hm40 := wordsOf_size t
  have HSh := Lib.hid (wordsOf_short t)
  have HY := Lib.hid (potB_yes (t := t))
  have HWs : Hid (∀ ps, Valid t ps → wordsOf t = wds t ps) := Lib.hid (fun ps hv => wordsOf_eq hv)
  obtain ⟨ws, hws⟩ : ∃ ws, wordsOf t = ws := ⟨_, rfl⟩
  obtain ⟨m, hm⟩ : ∃ m, ws.length = m := ⟨_, rfl⟩
  obtain ⟨q, hq⟩ : ∃ q, potB t = q := ⟨_, rfl⟩
  rw [hws] at cD HSh hm40 hx HY HWs
  rw [hm] at cD hm40 hx HY
  rw [hq] at cD HY hok
  have HM := Lib.hid hm
  obtain ⟨x1, x2⟩ := x
  have HXx := Lib.hid hx
  have HX0 := Lib.hid h0
  have HOk := Lib.hid hok
  have hbx := G0.out.gf.box
  have hbn := G0.out.num
  clear hws hm hq h hx h0 hok
  go_enter Try.func18, Try.ntmps18
  go_wp2_with fail
  obtain ⟨W1, hW1⟩ : ∃ W1, ((W.alloc (.cells #[.slice a n c] 31)).alloc (.cells #[.int .i64 x0] 3)).alloc (.cells #[.int .i64 0, .int .i64 0] 26) = W1 := ⟨_, rfl⟩
  rw [hW1] at G0 ⊢
  clear hW1 hbx hbn
  refine (cD.out _ G0.out).mono ?_
  rintro e w2 ⟨aw, cw, rfl, hO2, hb2⟩
  have G2 := Lib.hid (G0.out.on hb2)
  have hO3 := own_stay hO2 ((Below.refl w2.heap.size w2).alloc (Nat.le_refl _) (.cells #[.slice a n c, .slice aw m cw] 56))
  have HG3 : Hid (Below w2.heap.size w2 (w2.alloc (.cells #[.slice a n c, .slice aw m cw] 56))) := Lib.hid ((Below.refl _ _).alloc (Nat.le_refl _) _)
  have G3 := Lib.hid (G2.out.on HG3.out)
  have hpz : w2.heap.size < (w2.alloc (.cells #[.slice a n c, .slice aw m cw] 56)).heap.size := by simp
  obtain ⟨u1, u2⟩ := pair_cells w2 (.slice a n c) (.slice aw m cw) 56
  have hbn := G3.out.num
  have hW3 := wds_of_own HM.out hO3 HSh.out
  have HW3 := Lib.hid hW3
  clear hb2 hO2 hO3 hW3
  by_cases hok : ok = true
  · subst hok
    obtain ⟨hqq, h01, h02⟩ := HOk.out.1 (by trivial)
    subst hqq
    obtain ⟨⟨ps, hv⟩, hm0⟩ := HY.out (by trivial)
    obtain ⟨n0, rfl⟩ : ∃ n0 : Nat, x0 = (n0 : Int) := ⟨x0.toNat, by omega⟩
    have hXe := HXx.out (by trivial)
    rw [Int.toNat_natCast] at hXe
    have HWe := Lib.hid (HWs.out ps hv)
    obtain ⟨W3, hW3⟩ : ∃ W3, w2.alloc (.cells #[.slice a n c, .slice aw m cw] 56) = W3 := ⟨_, rfl⟩
    rw [hW3] at HG3 G3 HW3 u1 u2 hpz hbn
    have hsz3 : W.heap.size + 2 < W3.heap.size := G3.out.gf.lt
    have cM : Hid (∀ W', Below W3.heap.size W3 W' → Calls Try.prog 38 #[.agg #[.slice a n c, .slice aw m cw], .func (.func 41) #[] #[.pointer (some ⟨W.heap.size + 1, 0, none⟩), .pointer (some ⟨W.heap.size, 0, none⟩)]] W' fun e w' => e = .returned (fv (fra (tsum (sst ws n0) ws) m)) ∧ Below W'.heap.size W' w') := Lib.hid (fun W' hb => mnSame.mean_any (W.heap.size + 1) W.heap.size a aw n c m cw ws (sst ws n0) W' ((HW3.out.keep hb).mono hb.size) hm0 (by omega) HSh.out (fun x hx => by have h1 := sst_le ws n0 x; rw [HM.out] at h1; omega) (fun W2 x hx hb2 => by
      have G9 := (G3.out.on hb).on hb2
      have := sameTell t ps n c n0 (W.heap.size + 1) W.heap.size W.heap.size hv x (by rw [← HWe.out]; exact hx) W2 a (Nat.le_of_lt G9.gf.size) G9.gf.nds G9.num G9.gf.box (by have := G9.gf.lt; omega) G9.gf.size
      rwa [← HWe.out] at this))
    obtain ⟨p1, hp1⟩ : ∃ p1, fra (tsum (sst ws n0) ws) m = p1 := ⟨_, rfl⟩
    have hby := fra_by (a := tsum (sst ws n0) ws) hm0 hm0
    rw [← hXe] at hby
    have hle1 := fra_le1 (tsum (sst ws n0) ws) m
    have hle2 := fra_le2 (tsum (sst ws n0) ws) m
    have hpos := fra_den_pos (a := tsum (sst ws n0) ws) hm0
    have hts := tsum_le (sst ws n0) 40 (xs := ws) (fun x _ => Nat.le_trans (sst_le _ _ _) (by rw [HM.out]; exact hm40))
    rw [HM.out] at hts
    rw [hp1] at cM hby hle1 hle2 hpos
    have hmul : p1.2 * m ≤ 40 * 40 := Nat.mul_le_mul (by omega) (by omega)
    have cDv := Lib.hid (fun W' => dividedBy_any p1 m W' (by omega) (by omega) hpos hm0)
    rw [hby, fv_mk] at cDv
    obtain ⟨p1a, p1b⟩ := p1
    simp only [fv_mk] at cM cDv
    have hfar : w2.heap.size ≠ W.heap.size + 2 := by have := G2.out.gf.lt; omega
    clear hle1 hle2 hpos hts hmul hby hp1 hXe hv
    go_wp2_with fail
    go_region_held3 (fun w' => w'.cell? ⟨w2.heap.size, 0, none⟩ = some (.slice a n c) ∧ w'.cell? ⟨w2.heap.size, 1, none⟩ = some (.slice aw m cw))
      (first
        | exact ⟨(hb6.cell (p := ⟨w2.heap.size, 0, none⟩) (Nat.lt_of_lt_of_le hpz hb5.size)).trans ((hb5.cell (p := ⟨w2.heap.size, 0, none⟩) hpz).trans u1), (hb6.cell (p := ⟨w2.heap.size, 1, none⟩) (Nat.lt_of_lt_of_le hpz hb5.size)).trans ((hb5.cell (p := ⟨w2.heap.size, 1, none⟩) hpz).trans u2)⟩
        | exact ⟨(hb5.cell (p := ⟨w2.heap.size, 0, none⟩) hpz).trans u1, (hb5.cell (p := ⟨w2.heap.size, 1, none⟩) hpz).trans u2⟩
        | exact ⟨u1, u2⟩
        | exact ⟨(far2 hfar).trans ((hb6.cell (p := ⟨w2.heap.size, 0, none⟩) (Nat.lt_of_lt_of_le hpz hb5.size)).trans ((hb5.cell (p := ⟨w2.heap.size, 0, none⟩) hpz).trans u1)), (far2 hfar).trans ((hb6.cell (p := ⟨w2.heap.size, 1, none⟩) (Nat.lt_of_lt_of_le hpz hb5.size)).trans ((hb5.cell (p := ⟨w2.heap.size, 1, none⟩) hpz).trans u2))⟩)
      (first
        | (go_at_call 38; refine (cM.out _ (by first | exact (Below.refl _ _).drew | exact Below.refl _ _)).mono ?_; rintro e w5 ⟨rfl, hb5⟩)
        | (go_at_call 44; refine (cDv.out _).mono ?_; rintro e w6 ⟨rfl, hb6⟩; have G6 := Lib.hid ((G3.out.on (by exact (Below.refl _ _).drew.trans (hb5.mono (Nat.le_refl _)))).gf.on hb6); obtain ⟨f1, f2, f3, f4⟩ := G6.out.open))
    obtain ⟨hE, hB9⟩ := G6.out.end' (.int .i64 (x1 : Int)) (.int .i64 (x2 : Int))
    have HE := Lib.hid hE
    have HB9 := Lib.hid hB9
    clear hE hB9
    go_wp2_with fail
    generalize ((w6.setCell ⟨W.heap.size + 2, 0, none⟩ (.int .i64 (x1 : Int))).setCell ⟨W.heap.size + 2, 1, none⟩ (.int .i64 (x2 : Int))) = W9 at *
    obtain ⟨hc0, hc1⟩ := HE.out
    exact bodyPost_ret (v := .tuple #[fv (x1, x2), .bool true]) (by simp [results, Try.results18, go_sem, hc0, hc1, fv]) rfl ⟨rfl, HB9.out⟩
  · obtain rfl : ok = false := by simpa using hok
    have G3f := Lib.hid G3.out.gf
    obtain ⟨f1, f2, f3, f4⟩ := G3f.out.open
    obtain ⟨hE, hB9⟩ := G3f.out.end' (.int .i64 0) (.int .i64 0)
    have HE := Lib.hid hE
    have HB9 := Lib.hid hB9
    have HNo : Hid (¬ (q = true ∧ 0 ≤ x0 ∧ x0 ≤ 12)) := Lib.hid (fun h => hok (HOk.out.2 h))
    clear hE hB9 hok
    cases q with
    | false =>
      go_wp2_with fail
      generalize (((w2.alloc (.cells #[.slice a n c, .slice aw m cw] 56)).setCell ⟨W.heap.size + 2, 0, none⟩ (.int .i64 0)).setCell ⟨W.heap.size + 2, 1, none⟩ (.int .i64 0)) = W9 at *
      obtain ⟨hc0, hc1⟩ := HE.out
      exact bodyPost_ret (v := .tuple #[fv (0, 0), .bool false]) (by simp [results, Try.results18, go_sem, hc0, hc1, fv]) rfl ⟨by rw [HX0.out (by trivial)], HB9.out⟩
    | true =>
      by_cases h1 : x0 < 0
      · have hd : decide (x0 < 0) = true := decide_eq_true h1
        go_wp2_with fail
        generalize (((w2.alloc (.cells #[.slice a n c, .slice aw m cw] 56)).setCell ⟨W.heap.size + 2, 0, none⟩ (.int .i64 0)).setCell ⟨W.heap.size + 2, 1, none⟩ (.int .i64 0)) = W9 at *
        obtain ⟨hc0, hc1⟩ := HE.out
        exact bodyPost_ret (v := .tuple #[fv (0, 0), .bool false]) (by simp [results, Try.results18, go_sem, hc0, hc1, fv]) rfl ⟨by rw [HX0.out (by trivial)], HB9.out⟩
      · have h2 : 12 < x0 := Int.not_le.1 fun h => HNo.out ⟨by trivial, by omega, h⟩
        have hd : decide (x0 < 0) = false := decide_eq_false h1
        have hd2 : decide (12 < x0) = true := decide_eq_true h2
        go_wp2_with fail
        generalize (((w2.alloc (.cells #[.slice a n c, .slice aw m cw] 56)).setCell ⟨W.heap.size + 2, 0, none⟩ (.int .i64 0)).setCell ⟨W.heap.size + 2, 1, none⟩ (.int .i64 0)) = W9 at *
        obtain ⟨hc0, hc1⟩ := HE.out
        exact bodyPost_ret (v := .tuple #[fv (0, 0), .bool false]) (by simp [results, Try.results18, go_sem, hc0, hc1, fv]) rfl ⟨by rw [HX0.out (by trivial)], HB9.out⟩

end Go.Proofs.Ytibdfhhbkbncgaa
