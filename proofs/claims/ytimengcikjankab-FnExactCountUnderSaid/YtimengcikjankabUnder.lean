/-
  How many words are under a node: the reference and the program count the same.
-/
import Derived.Test.YtimengcikjankabKidsWalk
import Derived.Test.YtimengcikjankabWordAt
import Derived.Test.YtimengcikjankabBel
import Derived.Test.YtimengcikjankabWordsOwn
import Derived.Test.YtimengcikjankabBegins
namespace Go.Proofs.Ytimengcikjankab
open Go.RowKit
set_option linter.unusedVariables false

/-- how many of some texts begin with one -/
noncomputable def cnt (x : Txt) : List Txt → Nat
  | [] => 0
  | y :: r => cnt x r + (open Classical in if x <+: y then 1 else 0)

theorem cnt_app (x : Txt) : ∀ a b : List Txt, cnt x (a ++ b) = cnt x a + cnt x b
  | [], b => by simp [cnt]
  | y :: a, b => by simp only [List.cons_append, cnt]; rw [cnt_app x a b]; omega
theorem cnt_hit {x : Txt} {xs : List Txt} {k : Nat} {y : Txt} (h : xs[k]? = some y) (hp : x <+: y) : cnt x (xs.take (k + 1)) = cnt x (xs.take k) + 1 := by
  obtain ⟨hk, e⟩ := List.getElem?_eq_some_iff.1 h
  rw [List.take_succ_eq_append_getElem hk, cnt_app, e]
  simp [cnt, hp]
theorem cnt_miss {x : Txt} {xs : List Txt} {k : Nat} {y : Txt} (h : xs[k]? = some y) (hp : ¬ x <+: y) : cnt x (xs.take (k + 1)) = cnt x (xs.take k) := by
  obtain ⟨hk, e⟩ := List.getElem?_eq_some_iff.1 h
  rw [List.take_succ_eq_append_getElem hk, cnt_app, e]
  simp [cnt, hp]
theorem cnt_le (x : Txt) : ∀ xs : List Txt, cnt x xs ≤ xs.length
  | [] => Nat.le_refl _
  | y :: r => by have := cnt_le x r; simp only [cnt, List.length_cons]; split <;> omega

theorem ends_one (d : Nd) : ends [d] = if d.e then 1 else 0 := by simp [ends]

/-- the words under a node are those of the nodes side by side -/
theorem cnt_ends {t : List Nd} {ps : List Txt} (h : Tells t t.length ps) {i b : Nat} (hb : Behind t ps i b) {x : Txt} (hx : ps[i]? = some x) : ∀ k, k ≤ t.length → cnt x (wds (t.take k) (ps.take k)) = ends ((t.take (min k b)).drop i)
  | 0, _ => by simp [wds, cnt, ends]
  | k + 1, hk => by
    have ih := cnt_ends h hb hx k (by omega)
    obtain ⟨d, y, hd, hy⟩ := h.at (show k < t.length by omega)
    rw [wds_succ h.len hd hy, cnt_app, ih]
    have hi := hb.iff h hx hy
    by_cases hkb : k < b
    · have e1 : min (k + 1) b = k + 1 := by omega
      have e2 : min k b = k := by omega
      rw [e1, e2, take_mk hd]
      by_cases hik : i ≤ k
      · have hp : x <+: y := hi.2 ⟨hik, hkb⟩
        rw [List.drop_append_of_le_length (by rw [List.length_take]; omega), ends_app, ends_one]
        cases d.e <;> simp [cnt, hp]
      · have hp : ¬ x <+: y := fun hh => hik (hi.1 hh).1
        rw [List.drop_eq_nil_of_le (by rw [List.length_take]; omega), List.drop_eq_nil_of_le (by rw [List.length_append, List.length_take]; simp; omega)]
        cases d.e <;> simp [cnt, hp]
    · have e1 : min (k + 1) b = b := by omega
      have e2 : min k b = b := by omega
      have hp : ¬ x <+: y := fun hh => hkb (hi.1 hh).2
      rw [e1, e2]
      cases d.e <;> simp [cnt, hp]

theorem cnt_under {t : List Nd} {ps : List Txt} (hv : Valid t ps) {i b : Nat} (hb : Behind t ps i b) {x : Txt} (hx : ps[i]? = some x) : cnt x (wds t ps) = ends ((t.take b).drop i) := by
  have := cnt_ends hv.tells hb hx t.length (Nat.le_refl _)
  have e : min t.length b = b := by have := hb.le; omega
  rw [e, List.take_of_length_le (Nat.le_refl _), List.take_of_length_le (by rw [hv.lenEq]; exact Nat.le_refl _)] at this
  exact this

set_option maxHeartbeats 2000000 in
theorem l2Under_any (B : Nat) (a : Option Addr) (n i : Nat) (t : List Nd) (ps : List Txt) (x : Txt) (w : World) (hB : B ≤ w.heap.size) (h : Nds B w a n n t) (hv : Valid t ps) (hx : ps[i]? = some x) :
    Calls Try.prog 32 #[.agg #[.slice a n n], .int .i64 (i : Int)] w fun e w' => ∃ a' c', e = .returned (.slice a' (cnt x (wds t ps)) c') ∧ Below w.heap.size w w' := by
  have L := Lib.hid h.len
  have hn : n ≤ 481 := by have := hv.size; have := h.len; omega
  have hin : i < n := by have := (List.getElem?_eq_some_iff.1 hx).1; have := hv.lenEq; have := h.len; omega
  have ht : IsT t := ⟨ps, hv⟩
  have HV := Lib.hid hv
  have HXx := Lib.hid hx
  have H := Lib.hid h
  have HB := Lib.hid hB
  have HWo := Lib.hid (wordsOf_eq hv)
  have hm40 := wordsOf_size t
  have HSh := Lib.hid (wordsOf_short t)
  rw [HWo.out] at hm40
  have hx12 := hv.short x (at_mem hx)
  obtain ⟨i0, hii, hz0, hz1, hz2⟩ := info_parts infoS
  clear h hB hv hx
  have cW : Hid (∀ W, Below w.heap.size w W → Calls Try.prog 35 #[.agg #[.slice a n n]] W fun e w' => ∃ v, e = .returned v ∧ w'.ownsRow W.heap.size 9 1 v (wds t ps).length ((wds t ps).map (fun x => Value.string (bx x))) ∧ Below W.heap.size W w') := Lib.hid (fun W hW => (l2Words_own B a n n t W (Nat.le_trans HB.out hW.size) (H.out.keep (hW.mono HB.out)) (by omega)).mono fun e w' ⟨v, rs, h1, h2, h3, h4⟩ => by have e1 := h3 ps HV.out; subst e1; exact ⟨v, h1, h2, h4⟩)
  have cP : Hid (∀ W, Below w.heap.size w W → Calls Try.prog 52 #[.agg #[.slice a n n], .int .i64 (i : Int)] W fun e w' => e = .returned (.string (bx x)) ∧ Below W.heap.size W w') := Lib.hid (fun W hW => (l2Prefix_any B a n n i t W (Nat.le_trans HB.out hW.size) (H.out.keep (hW.mono HB.out)) hin).mono fun e w' ⟨s, h1, _, h2, h3⟩ => by
    have := h2 ps HV.out.tells HV.out.short x HXx.out
    rw [h1, ← this, bx_tx]
    exact ⟨rfl, h3⟩)
  clear ht
  have HB1 : Hid (Below w.heap.size w (w.alloc (.cells #[.slice a n n] 30))) := Lib.hid ((Below.refl _ _).alloc (Nat.le_refl _) _)
  have hbx : (w.alloc (.cells #[.slice a n n] 30)).cell? ⟨w.heap.size, 0, none⟩ = some (.slice a n n) := by simp
  have hlt : w.heap.size < (w.alloc (.cells #[.slice a n n] 30)).heap.size := by simp
  go_enter Try.func32, Try.ntmps32
  go_wp2_with fail
  obtain ⟨W1, hW1⟩ : ∃ W1, w.alloc (.cells #[.slice a n n] 30) = W1 := ⟨_, rfl⟩
  rw [hW1] at HB1 hbx hlt ⊢
  clear hW1
  have HBX := Lib.hid hbx
  have cW1 := Lib.hid (fun W (hW : Below W1.heap.size W1 W) => cW.out W (HB1.out.trans (hW.mono HB1.out.size)))
  have cP1 := Lib.hid (fun W (hW : Below W1.heap.size W1 W) => cP.out W (HB1.out.trans (hW.mono HB1.out.size)))
  obtain ⟨ws, hws⟩ : ∃ ws, wds t ps = ws := ⟨_, rfl⟩
  have HWs := Lib.hid hws
  rw [hws] at cW1 hm40
  clear hws cW cP
  obtain ⟨mA, hmA⟩ : ∃ mA, ws.length = mA := ⟨_, rfl⟩
  have HMA := Lib.hid hmA
  rw [hmA] at cW1 hm40
  clear hmA
  go_region_held3 (fun w' => w'.cell? ⟨w.heap.size, 0, none⟩ = some (.slice a n n))
    (first
      | exact hbx
      | exact (World.cell?_alloc_lt _ _ _ hlt).trans hbx
      | exact (HBP.out.cell (p := ⟨w.heap.size, 0, none⟩) hlt).trans hbx
      | exact ((HBP.out.alloc HBP.out.size _).cell (p := ⟨w.heap.size, 0, none⟩) hlt).trans hbx
      | exact (HBA.out.cell (p := ⟨w.heap.size, 0, none⟩) hlt).trans hbx
      | exact ((HBA.out.alloc HBA.out.size _).cell (p := ⟨w.heap.size, 0, none⟩) hlt).trans hbx)
    (first
      | (go_at_call 35; refine (cW1.out _ (by first | exact (Below.refl _ _).drew | exact ((Below.refl _ _).drew).alloc (Nat.le_refl _) _)).mono ?_; rintro e wA ⟨vA, rfl, hOA, hbA⟩; obtain ⟨aA, cA, rfl⟩ := own_slice hOA; have HBA : Hid (Below W1.heap.size W1 wA) := Lib.hid (by first | exact (Below.refl _ _).drew.trans hbA | exact (((Below.refl _ _).drew).alloc (Nat.le_refl _) _).trans (hbA.mono (by simp))))
      | (go_at_call 52; refine (cP1.out _ (by first | exact HBA.out | exact HBA.out.alloc HBA.out.size _)).mono ?_; rintro e wP ⟨rfl, hbP⟩; have HBP : Hid (Below W1.heap.size W1 wP) := Lib.hid (by first | exact HBA.out.trans (hbP.mono HBA.out.size) | exact (HBA.out.alloc HBA.out.size _).trans (hbP.mono (by have := HBA.out.size; simp; omega)))))
  all_goals
    have hge := fun g (hg : (Value.slice aA mA cA).ownBlock = some g) => own_ge hOA hg
    have hzA := HBA.out.size
    have hzP := hbP.size
    go_wp2_with fail
    go_loopw [5, 8] (fun o q wr => ∃ (k m : Nat) (v : Value), k ≤ mA ∧ m ≤ k ∧ q = .int .i64 k ∧ v = o ∧ Hid (cnt x (ws.take k) = m) ∧ Hid (∃ xs, wr.ownsRow W1.heap.size 9 1 v m xs) ∧ Hid (wr.ownsRow W1.heap.size 9 1 (.slice aA mA cA) mA (ws.map (fun x => Value.string (bx x)))) ∧ Hid ((Value.slice aA mA cA).ownBlock ≠ v.ownBlock) ∧ Hid (Below w.heap.size w wr) ∧ W1.heap.size ≤ wr.heap.size) (fun _ q _ => mA - (intOf q).toNat)
    case atStart =>
      refine ⟨0, 0, _, Nat.zero_le _, Nat.le_refl _, rfl, rfl, Lib.hid rfl, Lib.hid ⟨[], ?_⟩, Lib.hid ?_, Lib.hid ?_, Lib.hid ?_, ?_⟩
      · first
          | exact own_stay (own_stay (World.ownsRow_lit (base := W1.heap.size) (e := 9) (size := 1) W1.drew #[] 0 (Nat.le_refl _) (by unfold maxLen; omega) rfl) hbA) hbP
          | exact own_stay (World.ownsRow_lit (base := W1.heap.size) (e := 9) (size := 1) wA #[] 0 hzA (by unfold maxLen; omega) rfl) hbP
          | exact World.ownsRow_lit (base := W1.heap.size) (e := 9) (size := 1) wP #[] 0 HBP.out.size (by unfold maxLen; omega) rfl
      · first
          | exact own_down (own_stay hOA hbP) (by first | exact Nat.le_refl _ | simp)
          | exact own_down (own_stay hOA (((Below.refl _ _).alloc (Nat.le_refl _) _).trans (hbP.mono (by simp)))) (by first | exact Nat.le_refl _ | simp)
          | exact own_down ((own_stay hOA hbP).alloc _) (by first | exact Nat.le_refl _ | simp)
      · intro e
        have h := hge _ (e.trans rfl)
        simp at h hzP <;> omega
      · first
          | exact HB1.out.trans (HBP.out.mono HB1.out.size)
          | exact (HB1.out.trans (HBP.out.mono HB1.out.size)).alloc (by have := HB1.out.size; have := HBP.out.size; omega) _
      · first
          | exact HBP.out.size
          | (have := HBP.out.size; simp; omega)
    case round =>
      clear hge hzA hzP
      obtain ⟨k, m, v, hk, hmk, rfl, rfl, HM, HO, HA, HD, HBw, hsz⟩ := hrel
      have HSl := Lib.hid (Sl.of_own HA.out)
      have CA := HSl.out.cap
      have TA := HSl.out.top
      by_cases hlk : k < mA
      · obtain ⟨y, hy⟩ : ∃ y, ws[k]? = some y := ⟨_, List.getElem?_eq_getElem (by rw [HMA.out]; exact hlk)⟩
        have hy12 : (bx y).size ≤ 100 := by
          rw [bx_size]
          have := HSh.out y (by rw [HWo.out, HWs.out]; exact at_mem hy)
          omega
        have hx100 : (bx x).size ≤ 100 := by rw [bx_size]; omega
        obtain ⟨b9, o9, e9, _, hc⟩ := HSl.out.spot k (.string (bx y)) (by rw [List.getElem?_map, hy]; rfl)
        subst e9
        obtain ⟨r, hr⟩ := bool_of (x <+: y)
        have cB := Lib.hid (fun w => l2Begins_any (bx y) (bx x) r (by rw [tx_bx, tx_bx]; exact hr) w hy12 hx100)
        have HRr := Lib.hid hr
        have HY := Lib.hid hy
        clear hr hy
        obtain ⟨sy, hsy⟩ : ∃ sy, bx y = sy := ⟨_, rfl⟩
        obtain ⟨sx, hsx⟩ : ∃ sx, bx x = sx := ⟨_, rfl⟩
        rw [hsy] at hc cB
        rw [hsx] at cB ⊢
        clear hsy hsx hy12 hx100
        cases r with
        | false =>
          have HM2 : Hid (cnt x (ws.take (k + 1)) = m) := Lib.hid (by rw [cnt_miss HY.out (fun h => by have := HRr.out.2 h; cases this)]; exact HM.out)
          go_wp2_with (first | (go_at_call 53; refine (cB.out _).mono ?_; rintro en w3 ⟨rfl, rfl⟩))
          go_roundw
          case rel => exact ⟨k + 1, m, _, by omega, by omega, by go_num, rfl, HM2, HO, HA, HD, HBw, hsz⟩
          case measure => simp [intOf]; omega
        | true =>
          have HM2 : Hid (cnt x (ws.take (k + 1)) = m + 1) := Lib.hid (by rw [cnt_hit HY.out (HRr.out.1 rfl), HM.out])
          obtain ⟨xs, hO⟩ := HO.out
          have HOx := Lib.hid hO
          clear hO
          have hbs := HBw.out.size
          have hw1 : w.heap.size ≤ W1.heap.size := HB1.out.size
          go_wp2_with (first
            | (go_at_call 53; refine (cB.out _).mono ?_; rintro en w3 ⟨rfl, rfl⟩)
            | (at_builtin; refine wpList_append_own_at _ rfl _ _ 48 rfl W1.heap.size 9 i0 (.string ByteArray.empty) 1 16 Try.underlying48 hii hz0 hz1 hz2 rfl (by decide) _ _ _ rfl (HOx.out.alloc _) ⟨wr.heap.size, 0, none⟩ 1 1 [.string sy] rfl rfl (cell_one_new _ _ _) (by simp [Value.oneCell']) (by unfold maxLen; omega) (by omega) (by simp; omega) ?_; intro v2 w2 hO2 hG2 _ hat; have HO2 := Lib.hid hO2; have HA2 := Lib.hid ((HA.out.alloc (.cells #[.string sy] 9)).kept hG2 (.inr HD.out)); have HB2 : Hid (Below w.heap.size w w2) := Lib.hid (HBw.out.trans (((Below.refl _ wr).alloc hbs _).trans (below_grown (HOx.out.alloc _) hw1 (by simp; omega) hG2))); have hsz2 := hG2.size; simp only [World.size_alloc] at hsz2; have HD2 : Hid ((Value.slice (some ⟨b9, o9, none⟩) mA cA).ownBlock ≠ v2.ownBlock) := Lib.hid (by rcases hat with h | h; (rw [h]; exact HD.out); (intro e; have h2 := (own_ge HA.out (e.trans h)).2; simp only [World.size_alloc] at h2; omega)); clear hO2 hG2 hat))
          go_roundw
          case rel => exact ⟨k + 1, m + 1, v2, by omega, by omega, by go_num, rfl, HM2, Lib.hid ⟨_, HO2.out⟩, HA2, HD2, HB2, by omega⟩
          case measure => simp [intOf]; omega
      · have HF : Hid (cnt x (wds t ps) = m) := Lib.hid (by rw [HWs.out, ← HM.out, List.take_of_length_le (by rw [HMA.out]; omega)])
        obtain ⟨xs, hO⟩ := HO.out
        obtain ⟨a9, c9, rfl⟩ := own_slice hO
        clear hO
        go_wp2
        go_ret
        exact ⟨a9, c9, by rw [HF.out]; rfl, HBw.out⟩

end Go.Proofs.Ytimengcikjankab
