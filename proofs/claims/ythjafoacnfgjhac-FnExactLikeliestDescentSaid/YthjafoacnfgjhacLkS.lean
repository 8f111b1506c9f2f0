/-
  The likeliest word of a descent: what it is, and the reference.
-/
import Derived.Test.YthjafoacnfgjhacDscS
import Derived.Test.YthjafoacnfgjhacGD
namespace Go.Proofs.Ythjafoacnfgjhac
open Go.RowKit
set_option linter.unusedVariables false
set_option linter.unusedSimpArgs false

/-- the denominator of the chance to stop at a text's node -/
noncomputable def dOf (t : List Nd) (ps : List Txt) (x : Txt) : Nat := wqi t ((ps.idxOf x : Nat) : Int)
theorem dOf_at {t : List Nd} {ps : List Txt} (hv : Valid t ps) {j : Nat} {x : Txt} (h : ps[j]? = some x) : dOf t ps x = wqi t (j : Int) := by
  have h1 : ps[ps.idxOf x]? = some x := by
    have hlt : ps.idxOf x < ps.length := List.idxOf_lt_length_of_mem (List.mem_of_getElem? h)
    rw [List.getElem?_eq_getElem hlt, List.getElem_idxOf hlt]
  unfold dOf
  rw [asc_inj hv.tells.asc h1 h]

/-- the first place of the least number -/
structure LkAt (dl : List Nat) (r D : Nat) : Prop where
  at' : dl[r]? = some D
  least : ∀ (j x : Nat), dl[j]? = some x → D ≤ x
  first : ∀ (j x : Nat), j < r → dl[j]? = some x → D < x
theorem LkAt.uniq {dl : List Nat} {r D r' D' : Nat} (h : LkAt dl r D) (k : LkAt dl r' D') : r = r' ∧ D = D' := by
  have h1 := h.least _ _ k.at'
  have h2 := k.least _ _ h.at'
  have e : D = D' := by omega
  refine ⟨?_, e⟩
  rcases Nat.lt_trichotomy r r' with c | c | c
  · have := k.first _ _ c h.at'; omega
  · exact c
  · have := h.first _ _ c k.at'; omega
theorem LkAt.one (d : Nat) : LkAt [d] 0 d := ⟨rfl, fun j x h => by cases j with | zero => (simp at h; omega) | succ j => simp at h, fun j x h => by omega⟩
theorem LkAt.snoc {dl : List Nat} {r D : Nat} (h : LkAt dl r D) (d : Nat) : LkAt (dl ++ [d]) (if d < D then dl.length else r) (if d < D then d else D) := by
  have hr : r < dl.length := (List.getElem?_eq_some_iff.1 h.at').1
  have key : ∀ (j x : Nat), (dl ++ [d])[j]? = some x → (j < dl.length ∧ dl[j]? = some x) ∨ (j = dl.length ∧ x = d) := fun j x hj => by
    rcases Nat.lt_or_ge j dl.length with c | c
    · rw [List.getElem?_append_left c] at hj
      exact .inl ⟨c, hj⟩
    · rw [List.getElem?_append_right c] at hj
      have h0 : j - dl.length = 0 := by have := (List.getElem?_eq_some_iff.1 hj).1; simp at this; omega
      rw [h0] at hj
      simp at hj
      exact .inr ⟨by omega, hj.symm⟩
  split
  next hlt =>
    refine ⟨by simp, fun j x hj => ?_, fun j x hl hj => ?_⟩
    · rcases key j x hj with ⟨_, h1⟩ | ⟨_, rfl⟩
      · have := h.least j x h1; omega
      · exact Nat.le_refl _
    · rcases key j x hj with ⟨_, h1⟩ | ⟨h1, _⟩
      · have := h.least j x h1; omega
      · omega
  next hge =>
    refine ⟨by rw [List.getElem?_append_left hr]; exact h.at', fun j x hj => ?_, fun j x hl hj => ?_⟩
    · rcases key j x hj with ⟨_, h1⟩ | ⟨_, rfl⟩
      · exact h.least j x h1
      · omega
    · rcases key j x hj with ⟨_, h1⟩ | ⟨h1, _⟩
      · exact h.first j x hl h1
      · omega
theorem LkAt.ex : ∀ (dl : List Nat), 0 < dl.length → ∃ r D, LkAt dl r D := by
  intro dl h
  suffices hs : ∀ (m : Nat), 0 < m → m ≤ dl.length → ∃ r D, LkAt (dl.take m) r D by
    obtain ⟨r, D, hr⟩ := hs dl.length h (Nat.le_refl _)
    exact ⟨r, D, by rwa [List.take_length] at hr⟩
  intro m
  induction m with
  | zero => intro h; omega
  | succ m ih =>
    intro _ hm
    obtain ⟨d, hd⟩ : ∃ d, dl[m]? = some d := ⟨_, List.getElem?_eq_getElem (by omega)⟩
    have ht : dl.take (m + 1) = dl.take m ++ [d] := by rw [List.take_add_one, hd]; rfl
    rw [ht]
    rcases Nat.eq_zero_or_pos m with rfl | hm0
    · exact ⟨0, d, by simpa using LkAt.one d⟩
    · obtain ⟨r, D, hr⟩ := ih hm0 (by omega)
      exact ⟨_, _, hr.snoc d⟩

/-- the likeliest word and the denominator of its chance -/
def LkIs (t : List Nd) (ps : List Txt) (x : Txt) (D : Nat) : Prop := ∃ r, (wds t ps)[r]? = some x ∧ LkAt ((wds t ps).map (dOf t ps)) r D

theorem pair_heapL {W : World} {s : Nat} {a b a' b' : Value} {e : TypeId} (h : W.heap[s]? = some (.cells #[a, b] e)) :
    ((W.setCell ⟨s, 0, none⟩ a').setCell ⟨s, 1, none⟩ b').heap[s]? = some (.cells #[a', b'] e) := by
  simp [World.setCell, Array.getElem?_modify, h]
theorem heap_lt {W : World} {s : Nat} {o : Obj} (h : W.heap[s]? = some o) : s < W.heap.size := (Array.getElem?_eq_some_iff.1 h).1

set_option maxRecDepth 1000000 in
set_option maxHeartbeats 2000000 in
theorem specLikeliest_any (t : List Nd) (n c : Nat) (hn : n ≤ 1048576) (s : ByteArray) (x : Nat × Nat) (hy : potB t = true → ∀ ps, Valid t ps → 0 < (wds t ps).length → ∃ D, x = (1, D) ∧ LkIs t ps (tx s) D) (h0 : potB t = false → s = ByteArray.empty ∧ x = (0, 0)) (W : World) (a : Option Addr) (h : Nds W.heap.size W a n c t) :
    Calls Try.prog 14 #[.agg #[.slice a n c]] W fun e w' => e = .returned (.tuple #[.string s, fv x, .bool (potB t)]) ∧ Below W.heap.size W w' := by
  have G0 := Lib.hid (Gf.start 33 h)
  have cD := Lib.hid (fun W' (G : Gf 33 1 W W' a n c t) => l9Drawn_any W.heap.size a n c t W' (Nat.le_of_lt G.size) G.nds hn)
  have cW := Lib.hid (fun (ht : IsT t) W' (G : Gf 33 1 W W' a n c t) => drawnWords_own W.heap.size a n c t W' (Nat.le_of_lt G.size) G.nds hn ht)
  have cL : Hid (∀ (ps : List Txt), Valid t ps → 0 < (wds t ps).length → ∀ y : Txt, y ∈ wds t ps → ∀ W', Gf 33 1 W W' a n c t → Calls Try.prog 33 #[.agg #[.slice a n c], .string (bx y)] W' fun e w' => e = .returned (fv (1, dOf t ps y)) ∧ Below W'.heap.size W' w') := Lib.hid (fun ps hv hw y hy W' G => by
    obtain ⟨i, d, h1, h2, h3⟩ := mem_wds.1 hy
    refine l9Descent_any t ps n c (bx y) hv hw (okW_iff.2 (by show IsW (tx (bx y)); rw [tx_bx]; exact hv.isW y (at_mem h2))) (1, dOf t ps y) ?_ W' a (G.nds.mono (Nat.le_of_lt G.size))
    refine ⟨fun j hj he => ?_, fun hj => ?_⟩
    · rw [tx_bx] at hj
      rw [dOf_at hv hj]
    · have := hj i (by rw [tx_bx]; exact h2)
      rw [enI_at h1, h3] at this
      cases this)
  have HY : Hid (potB t = true → ∃ ps, Valid t ps ∧ 0 < (wds t ps).length ∧ wordsOf t = wds t ps) := Lib.hid (fun hp => by
    obtain ⟨⟨ps, hv⟩, hm⟩ := potB_yes hp
    exact ⟨ps, hv, by rw [← wordsOf_eq hv]; exact hm, wordsOf_eq hv⟩)
  obtain ⟨q, hq⟩ : ∃ q, potB t = q := ⟨_, rfl⟩
  rw [hq] at cD HY hy h0 ⊢
  obtain ⟨x1, x2⟩ := x
  have HXx := Lib.hid hy
  have HX0 := Lib.hid h0
  have hbx := G0.out.box
  clear hq hy h0 h
  go_enter Try.func14, Try.ntmps14
  go_wp2_with fail
  obtain ⟨W1, hW1⟩ : ∃ W1, (W.alloc (.cells #[.slice a n c] 38)).alloc (.cells #[.int .i64 0, .int .i64 0] 33) = W1 := ⟨_, rfl⟩
  rw [hW1] at G0 ⊢
  clear hW1 hbx
  refine (cD.out _ G0.out).mono ?_
  rintro e w2 ⟨rfl, hb2⟩
  have G2 := Lib.hid (G0.out.on hb2)
  have hbx := G2.out.box
  clear hb2
  cases q with
  | false =>
    obtain ⟨rfl, e0⟩ := HX0.out (by trivial)
    injection e0 with e1 e2
    subst e1 e2
    obtain ⟨f1, f2, f3, f4⟩ := G2.out.open
    obtain ⟨hE, hB9⟩ := G2.out.end' (.int .i64 0) (.int .i64 0)
    have HE := Lib.hid hE
    have HB9 := Lib.hid hB9
    clear hE hB9
    go_wp2_with fail
    generalize ((w2.setCell ⟨W.heap.size + 1, 0, none⟩ (.int .i64 0)).setCell ⟨W.heap.size + 1, 1, none⟩ (.int .i64 0)) = W9 at *
    obtain ⟨hc0, hc1⟩ := HE.out
    exact bodyPost_ret (v := .tuple #[.string ByteArray.empty, fv (0, 0), .bool false]) (by simp [results, Try.results14, go_sem, hc0, hc1, fv]; rfl) rfl ⟨rfl, HB9.out⟩
  | true =>
    obtain ⟨ps, hv, hw, hwo⟩ := HY.out (by trivial)
    obtain ⟨D, e0, hLk⟩ := HXx.out (by trivial) ps hv hw
    injection e0 with e1 e2
    subst e1 e2
    have CL := Lib.hid (cL.out ps hv hw)
    have CW := Lib.hid (cW.out ⟨ps, hv⟩)
    have h40 := wordsOf_size t
    rw [hwo] at CW h40
    obtain ⟨ws, hws⟩ : ∃ ws, wds t ps = ws := ⟨_, rfl⟩
    obtain ⟨m, hm⟩ : ∃ m, ws.length = m := ⟨_, rfl⟩
    have HLk := Lib.hid hLk
    unfold LkIs at HLk
    rw [hws] at CL CW HLk hw h40
    rw [hm] at CW hw h40
    have HM := Lib.hid hm
    obtain ⟨F, hF⟩ : ∃ F, dOf t ps = F := ⟨_, rfl⟩
    rw [hF] at HLk
    have CL2 : Hid (∀ y : Txt, y ∈ ws → ∀ W', Gf 33 1 W W' a n c t → Calls Try.prog 33 #[.agg #[.slice a n c], .string (bx y)] W' fun e w' => e = .returned (.agg #[.int .i64 1, .int .i64 (F y : Nat)]) ∧ Below W'.heap.size W' w') := Lib.hid (by
      rw [← hF]; exact CL.out)
    clear hv hwo hLk hws hm hF CL cL cW
    go_wp2_with fail
    refine (CW.out _ G2.out).mono ?_
    rintro e w3 ⟨aw, cw, rfl, hWd, hb3⟩
    have G3 := Lib.hid (G2.out.on hb3)
    have HWd := Lib.hid hWd
    have hbx3 := G3.out.box
    clear hWd hb3 hbx
    have HC : Hid (∀ W', Gf 33 1 W W' a n c t → Below w3.heap.size w3 W' → ∀ k, k < m → ∃ b o y, aw = some ⟨b, o, none⟩ ∧ ws[k]? = some (tx y) ∧ W'.cell? ⟨b, o + k, none⟩ = some (.string y) ∧ W'.cell? ⟨W.heap.size, 0, none⟩ = some (.slice a n c)) := Lib.hid (fun W' G hb k hk => by
      obtain ⟨b, o, y, h1, h2, h3, h4, h5⟩ := HWd.out.elem k hk
      exact ⟨b, o, y, h1, h3, (hb.cell (p := ⟨b, o + k, none⟩) h2).trans h5, G.box⟩)
    obtain ⟨b, o, y0, rfl, hy0, hc0, _⟩ := HC.out w3 G3.out (Below.refl _ _) 0 hw
    have c0 := Lib.hid (CL2.out (tx y0) (List.mem_of_getElem? hy0))
    rw [bx_tx] at c0
    have hm0 : (0 : Int) < (m : Int) := by omega
    have HB3 : Hid (Below w3.heap.size w3 w3) := Lib.hid (Below.refl _ _)
    have HS : Hid (∀ W', Below w3.heap.size w3 W' → W'.cell? ⟨W.heap.size, 0, none⟩ = some (.slice a n c) ∧ W'.cell? ⟨b, o, none⟩ = some (.string y0)) := Lib.hid (fun W' hb => by
      obtain ⟨b', o', y', e1, e2, e3, e4⟩ := HC.out W' (G3.out.on hb) (HB3.out.trans (hb.mono HB3.out.size)) 0 hw
      injection e1 with e1
      injection e1 with e1 e5
      subst e1 e5
      rw [hy0] at e2
      have e6 := tx_inj (Option.some.inj e2)
      subst e6
      exact ⟨e4, e3⟩)
    have HBd : Hid (Below w3.heap.size w3 w3.drew) := Lib.hid (Below.refl _ _).drew
    have hszd : w3.heap.size ≤ w3.drew.heap.size := Nat.le_refl _
    have HGd := Lib.hid (G3.out.on HBd.out)
    have HBa : Hid (Below w3.heap.size w3 (w3.alloc (.cells #[.int .i64 0, .int .i64 0] 33)).drew) := Lib.hid (((Below.refl _ _).alloc (Nat.le_refl _) _).drew)
    have HGa := Lib.hid (G3.out.on HBa.out)
    have hsza : w3.heap.size < (w3.alloc (.cells #[.int .i64 0, .int .i64 0] 33)).drew.heap.size := by show w3.heap.size < (w3.alloc (.cells #[.int .i64 0, .int .i64 0] 33)).heap.size; simp
    have HAn : Hid ((w3.alloc (.cells #[.int .i64 0, .int .i64 0] 33)).drew.heap[w3.heap.size]? = some (.cells #[.int .i64 0, .int .i64 0] 33)) := Lib.hid (new_drewN w3 _ 1)
    clear hc0 hbx3
    go_wp2_with fail
    go_region_held3 (fun w' => w'.cell? ⟨W.heap.size, 0, none⟩ = some (.slice a n c) ∧ w'.cell? ⟨b, o, none⟩ = some (.string y0))
      (first | exact HS.out _ HBd.out | exact HS.out _ HB5.out | exact HS.out _ (HB5.out.alloc HB5.out.size _) | exact HS.out _ HBa.out | exact HS.out _ (pair_below HB5.out (Nat.le_refl _)))
      (first
        | (go_at_call 33; refine (c0.out _ HGd.out).mono ?_; rintro e w5 ⟨rfl, hb5⟩; have HB5 := Lib.hid (HBd.out.trans hb5); have HA5 := True.intro)
        | (go_at_call 33; refine (c0.out _ HGa.out).mono ?_; rintro e w5 ⟨rfl, hb5⟩; have HB5 := Lib.hid (HBa.out.trans (hb5.mono (Nat.le_of_lt hsza))); have HA5 := Lib.hid ((hb5.block w3.heap.size hsza).trans HAn.out); obtain ⟨gg1, gg2, ff1, ff2⟩ := frozen_new2 HA5.out))
    all_goals
      first
        | (obtain ⟨W5, hW5⟩ : ∃ W5, (w5.setCell ⟨w3.heap.size, 0, none⟩ (.int .i64 1)).setCell ⟨w3.heap.size, 1, none⟩ (.int .i64 (F (tx y0) : Nat)) = W5 := ⟨_, rfl⟩
           rw [hW5]
           obtain ⟨E, hE⟩ : ∃ E, w3.heap.size = E := ⟨_, rfl⟩
           have HJ : Hid (W5.heap[E]? = some (.cells #[.int .i64 1, .int .i64 (F (tx y0) : Nat)] 33) ∧ E < W5.heap.size ∧ w3.heap.size ≤ E ∧ Below w3.heap.size w3 W5) := Lib.hid (by
             rw [← hW5, ← hE]
             exact ⟨pair_heapL HA5.out, by rw [World.size_setCell, World.size_setCell]; exact heap_lt HA5.out, Nat.le_refl _, pair_below HB5.out (Nat.le_refl _)⟩)
           rw [hE]
           clear hW5 hE)
        | (obtain ⟨W5, hW5⟩ : ∃ W5, w5.alloc (.cells #[.int .i64 1, .int .i64 (F (tx y0) : Nat)] 33) = W5 := ⟨_, rfl⟩
           rw [hW5]
           obtain ⟨E, hE⟩ : ∃ E, w5.heap.size = E := ⟨_, rfl⟩
           have HJ : Hid (W5.heap[E]? = some (.cells #[.int .i64 1, .int .i64 (F (tx y0) : Nat)] 33) ∧ E < W5.heap.size ∧ w3.heap.size ≤ E ∧ Below w3.heap.size w3 W5) := Lib.hid (by
             rw [← hW5, ← hE]
             exact ⟨heap_alloc_new _ _, by simp, HB5.out.size, HB5.out.alloc HB5.out.size _⟩)
           rw [hE]
           clear hW5 hE)
      clear HA5 HB5 HS HBd HGd HBa HGa hsza HAn hszd c0
      try clear gg1 gg2 ff1 ff2
      have hEi := HJ.out
      have HK0 : Hid (LkAt ((ws.take 1).map F) 0 (F (tx y0))) := Lib.hid (by
        have h1 : ws.take 1 = [tx y0] := by rw [show (1 : Nat) = 0 + 1 from rfl, List.take_add_one, hy0]; rfl
        rw [h1]
        exact LkAt.one _)
      have HY0 := Lib.hid hy0
      obtain ⟨d0, hd0⟩ : ∃ d0, F (tx y0) = d0 := ⟨_, rfl⟩
      rw [hd0] at HJ HK0 ⊢
      clear hd0 hEi
      go_wp2_with fail
      go_loopw [6, 8, 9] (fun p6 p8 p9 wr => ∃ (k r D : Nat) (y : ByteArray), p6 = .string y ∧ p8 = .int .i64 (k : Int) ∧ (∃ z : Value, p9 = z) ∧ 1 ≤ k ∧ k ≤ m ∧ Hid (ws[r]? = some (tx y)) ∧ Hid (LkAt ((ws.take k).map F) r D) ∧ E < wr.heap.size ∧ Hid (wr.heap[E]? = some (.cells #[.int .i64 1, .int .i64 (D : Int)] 33)) ∧ Hid (Below w3.heap.size w3 wr)) (fun _ p8 _ _ => m - (intOf p8).toNat)
      case atStart => exact ⟨1, 0, d0, y0, rfl, rfl, ⟨_, rfl⟩, by omega, by omega, HY0, HK0, HJ.out.2.1, Lib.hid HJ.out.1, Lib.hid HJ.out.2.2.2⟩
      case round =>
        have HE3 := Lib.hid HJ.out.2.2.1
        clear HJ HK0 HY0
        obtain ⟨k, r, D, y, rfl, rfl, ⟨z, rfl⟩, hk1, hkle, HY, HK, hEr, HEr, HBr⟩ := hrel
        rename World => wr
        have Gr := Lib.hid (G3.out.on HBr.out)
        have hk0 : (0 : Int) ≤ (k : Int) := by omega
        by_cases hkm : k < m
        · obtain ⟨yk, hyk⟩ : ∃ yk, ws[k]? = some (tx yk) := by
            obtain ⟨_, _, yk, _, h, _, _⟩ := HC.out wr Gr.out HBr.out k hkm
            exact ⟨yk, h⟩
          have hkmI : (k : Int) < (m : Int) := by omega
          have c0r := Lib.hid (CL2.out (tx yk) (List.mem_of_getElem? hyk))
          rw [bx_tx] at c0r
          have HSr : Hid (∀ W', Below wr.heap.size wr W' → W'.cell? ⟨W.heap.size, 0, none⟩ = some (.slice a n c) ∧ W'.cell? ⟨b, o + k, none⟩ = some (.string yk)) := Lib.hid (fun W' hb => by
            obtain ⟨b', o', y', e1, e2, e3, e4⟩ := HC.out W' (Gr.out.on hb) (HBr.out.trans (hb.mono HBr.out.size)) k hkm
            injection e1 with e1
            injection e1 with e1 e5
            subst e1 e5
            rw [hyk] at e2
            have e6 := tx_inj (Option.some.inj e2)
            subst e6
            exact ⟨e4, e3⟩)
          have HBdr : Hid (Below wr.heap.size wr wr.drew) := Lib.hid (Below.refl _ _).drew
          have HGdr := Lib.hid (Gr.out.on HBdr.out)
          have HBar : Hid (Below wr.heap.size wr (wr.alloc (.cells #[.int .i64 0, .int .i64 0] 33)).drew) := Lib.hid (((Below.refl _ _).alloc (Nat.le_refl _) _).drew)
          have HGar := Lib.hid (Gr.out.on HBar.out)
          have hszar : wr.heap.size < (wr.alloc (.cells #[.int .i64 0, .int .i64 0] 33)).drew.heap.size := by show wr.heap.size < (wr.alloc (.cells #[.int .i64 0, .int .i64 0] 33)).heap.size; simp
          have HAnr : Hid ((wr.alloc (.cells #[.int .i64 0, .int .i64 0] 33)).drew.heap[wr.heap.size]? = some (.cells #[.int .i64 0, .int .i64 0] 33)) := Lib.hid (new_drewN wr _ 1)
          have HYk := Lib.hid hyk
          have HKn := Lib.hid (HK.out.snoc (F (tx yk)))
          have HTk : Hid (((ws.take k).map F ++ [F (tx yk)]) = (ws.take (k + 1)).map F ∧ ((ws.take k).map F).length = k) := Lib.hid (by
            have h1 : ws.take (k + 1) = ws.take k ++ [tx yk] := by rw [List.take_add_one, HYk.out]; rfl
            refine ⟨by rw [h1, List.map_append]; rfl, ?_⟩
            rw [List.length_map, List.length_take, HM.out]
            omega)
          rw [HTk.out.1, HTk.out.2] at HKn
          obtain ⟨dk, hdk⟩ : ∃ dk, F (tx yk) = dk := ⟨_, rfl⟩
          rw [hdk] at c0r HKn
          clear hyk hdk
          go_wp2_with fail
          go_region_held3 (fun w' => w'.cell? ⟨W.heap.size, 0, none⟩ = some (.slice a n c) ∧ w'.cell? ⟨b, o + k, none⟩ = some (.string yk))
            (first | exact HSr.out _ HBdr.out | exact HSr.out _ HB5r.out | exact HSr.out _ (HB5r.out.alloc HB5r.out.size _) | exact HSr.out _ HBar.out | exact HSr.out _ (pair_below HB5r.out (Nat.le_refl _)))
            (first
              | (go_at_call 33; refine (c0r.out _ HGdr.out).mono ?_; rintro e w5r ⟨rfl, hb5⟩; have HB5r := Lib.hid (HBdr.out.trans hb5); have HA5r := True.intro)
              | (go_at_call 33; refine (c0r.out _ HGar.out).mono ?_; rintro e w5r ⟨rfl, hb5⟩; have HB5r := Lib.hid (HBar.out.trans (hb5.mono (Nat.le_of_lt hszar))); have HA5r := Lib.hid ((hb5.block wr.heap.size hszar).trans HAnr.out); obtain ⟨gg1, gg2, ff1, ff2⟩ := frozen_new2 HA5r.out))
          all_goals
            first
              | (obtain ⟨W6, hW5⟩ : ∃ W5, (w5r.setCell ⟨wr.heap.size, 0, none⟩ (.int .i64 1)).setCell ⟨wr.heap.size, 1, none⟩ (.int .i64 (dk : Nat)) = W5 := ⟨_, rfl⟩
                 rw [hW5]
                 obtain ⟨E2, hE⟩ : ∃ E, wr.heap.size = E := ⟨_, rfl⟩
                 have HJr : Hid (W6.heap[E2]? = some (.cells #[.int .i64 1, .int .i64 (dk : Nat)] 33) ∧ E2 < W6.heap.size ∧ wr.heap.size ≤ E2 ∧ Below wr.heap.size wr W6) := Lib.hid (by
                   rw [← hW5, ← hE]
                   exact ⟨pair_heapL HA5r.out, by rw [World.size_setCell, World.size_setCell]; exact heap_lt HA5r.out, Nat.le_refl _, pair_below HB5r.out (Nat.le_refl _)⟩)
                 rw [hE]
                 clear hW5 hE)
              | (obtain ⟨W6, hW5⟩ : ∃ W5, w5r.alloc (.cells #[.int .i64 1, .int .i64 (dk : Nat)] 33) = W5 := ⟨_, rfl⟩
                 rw [hW5]
                 obtain ⟨E2, hE⟩ : ∃ E, w5r.heap.size = E := ⟨_, rfl⟩
                 have HJr : Hid (W6.heap[E2]? = some (.cells #[.int .i64 1, .int .i64 (dk : Nat)] 33) ∧ E2 < W6.heap.size ∧ wr.heap.size ≤ E2 ∧ Below wr.heap.size wr W6) := Lib.hid (by
                   rw [← hW5, ← hE]
                   exact ⟨heap_alloc_new _ _, by simp, HB5r.out.size, HB5r.out.alloc HB5r.out.size _⟩)
                 rw [hE]
                 clear hW5 hE)
            clear HA5r HB5r HSr HBdr HGdr HBar HGar hszar HAnr c0r
            try clear gg1 gg2 ff1 ff2
            obtain ⟨e1, e2, _, _⟩ := frozen_new2 HJr.out.1
            obtain ⟨e3, e4, f3, f4⟩ := frozen_new2 ((HJr.out.2.2.2.block E hEr).trans HEr.out)
            have HB6 := Lib.hid (HBr.out.trans (HJr.out.2.2.2.mono HBr.out.size))
            by_cases hlt : dk < D
            · have hltI : (dk : Int) < (D : Int) := by omega
              rw [if_pos hlt, if_pos hlt] at HKn
              obtain ⟨b9, o9, y9, q1, q2, q3, _⟩ := HC.out W6 (G3.out.on HB6.out) HB6.out k hkm
              injection q1 with q1
              injection q1 with q1 q5
              subst q1 q5
              rw [HYk.out] at q2
              have q6 := tx_inj (Option.some.inj q2)
              subst q6
              have HE9 := Lib.hid (pair_heapL (a' := .int .i64 1) (b' := .int .i64 (dk : Int)) ((HJr.out.2.2.2.block E hEr).trans HEr.out))
              have HB9 := Lib.hid (pair_below (v1 := .int .i64 1) (v2 := .int .i64 (dk : Int)) HB6.out HE3.out)
              have hz9 : E < ((W6.setCell ⟨E, 0, none⟩ (.int .i64 1)).setCell ⟨E, 1, none⟩ (.int .i64 (dk : Int))).heap.size := heap_lt HE9.out
              go_wp2_with fail
              go_roundw
              case rel => exact ⟨k + 1, k, dk, yk, rfl, by go_num, ⟨_, rfl⟩, by omega, by omega, HYk, HKn, hz9, HE9, HB9⟩
              case measure => simp [intOf]; omega
            · have hltI : ¬ (dk : Int) < (D : Int) := by omega
              rw [if_neg hlt, if_neg hlt] at HKn
              go_wp2_with fail
              go_roundw
              case rel => exact ⟨k + 1, r, D, y, rfl, by go_num, ⟨_, rfl⟩, by omega, by omega, HY, HKn, Nat.lt_of_lt_of_le hEr HJr.out.2.2.2.size, Lib.hid ((HJr.out.2.2.2.block E hEr).trans HEr.out), HB6⟩
              case measure => simp [intOf]; omega
        · have hkM : ¬ (k : Int) < (m : Int) := by omega
          have HSo : Hid (s = y ∧ x2 = D) := Lib.hid (by
            obtain ⟨r', h1, h2⟩ := HLk.out
            have hk : HK.out = HK.out := rfl
            have h3 := HK.out
            rw [show k = ws.length by rw [HM.out]; omega, List.take_length] at h3
            obtain ⟨e1, e2⟩ := h2.uniq h3
            subst e1 e2
            rw [HY.out] at h1
            exact ⟨(tx_inj (Option.some.inj h1)).symm, rfl⟩)
          obtain ⟨e1, e2, _, _⟩ := frozen_new2 HEr.out
          obtain ⟨f1, f2, f3, f4⟩ := Gr.out.open
          obtain ⟨hE9, hB9⟩ := Gr.out.end' (.int .i64 1) (.int .i64 (D : Int))
          have HE9 := Lib.hid hE9
          have HB9 := Lib.hid hB9
          clear hE9 hB9
          go_wp2_with fail
          go_region
          go_wp2_with fail
          generalize ((wr.setCell ⟨W.heap.size + 1, 0, none⟩ (.int .i64 1)).setCell ⟨W.heap.size + 1, 1, none⟩ (.int .i64 (D : Int))) = W9 at *
          have hc0 : W9.drew.cell? ⟨W.heap.size + 1, 0, none⟩ = some (.int .i64 1) := HE9.out.1
          have hc1 : W9.drew.cell? ⟨W.heap.size + 1, 1, none⟩ = some (.int .i64 (D : Int)) := HE9.out.2
          have hb9 : Below W.heap.size W W9.drew := HB9.out.trans ⟨rfl, rfl, rfl, Nat.le_refl _, fun _ _ => rfl⟩
          generalize W9.drew = W8 at *
          obtain ⟨rfl, rfl⟩ := HSo.out
          exact bodyPost_ret (v := .tuple #[.string s, fv (1, x2), .bool true]) (by simp [results, Try.results14, go_sem, hc0, hc1, fv]) rfl ⟨rfl, hb9⟩

end Go.Proofs.Ythjafoacnfgjhac
