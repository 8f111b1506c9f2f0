/-
  All words of a trie that are near: the program, and both together.
-/
import Derived.Test.YtipkdoplgjgkpacNearS
import Derived.Test.YtipkdoplgjgkpacNearS1
import Derived.Test.YtipkdoplgjgkpacPrefixAt
import Derived.Test.YtipkdoplgjgkpacStepA
import Derived.RangeFuncBox
import Derived.RangeFuncNested
import Derived.Maps.AppendAt
import Derived.Deep.RegionLaw
import Derived.Deep.RegionHeld3
namespace Go.Proofs.Ytipkdoplgjgkpac.cap
open Go.RowKit
set_option linter.unusedVariables false

/-- the words told so far, in a variable; the closure's own variables -/
def JW (base P q0 q1 q4 : Nat) (a : Option Addr) (n c : Nat) (z : Int) (ws : List Txt) (W : World) : Prop :=
  (∃ v, Boxed W P 39 v ∧ W.ownsRow base 9 1 v ws.length (ws.map fun x => Value.string (bx x)) ∧ v.ownBlock ≠ some q4) ∧ Boxed W q0 30 (.slice a n c) ∧ Boxed W q1 3 (.int .i64 z)
def EP (P : Nat) (W : World) (b : Nat) : Prop := b = P ∨ ∃ v, Boxed W P 39 v ∧ v.ownBlock = some b

theorem boxed_uniq {W : World} {B : Nat} {t : TypeId} {v v' : Value} (h : Boxed W B t v) (h' : Boxed W B t v') : v = v' := by
  have h9 : some _ = some _ := Eq.trans (Eq.symm h) h'
  simpa using h9

theorem opsW {base P q0 q1 q4 : Nat} {a : Option Addr} {n c : Nat} {z : Int} (h1 : P ≠ q4) (h2 : q0 ≠ q4) (h3 : q1 ≠ q4) : Ops q4 (JW base P q0 q1 q4 a n c z) (EP P) where
  lt := by
    rintro ws W b ⟨⟨v, hv, hO, _⟩, _⟩ (rfl | ⟨v', hv', e⟩)
    · exact hv.lt
    · obtain rfl := boxed_uniq hv hv'
      exact (own_ge hO e).2
  below := by
    rintro ws W W' ⟨⟨v, hv, hO, hne⟩, hq, hr⟩ hb
    refine ⟨⟨⟨v, box_stay hv hb, own_stay hO hb, hne⟩, box_stay hq hb, box_stay hr hb⟩, ?_⟩
    rintro b (rfl | ⟨v', hv', e⟩)
    · exact .inl rfl
    · obtain rfl := boxed_uniq (box_stay hv hb) hv'
      exact .inr ⟨v, hv, e⟩
  far := by
    rintro ws W x ⟨⟨v, hv, hO, hne⟩, hq, hr⟩
    refine ⟨⟨⟨v, hv.other h1 _, hO.kept (grownBy_setCell' W q4 x) (.inr (fun e => hne (by first | exact e | exact e.symm))), hne⟩, hq.other h2 _, hr.other h3 _⟩, ?_⟩
    rintro b (rfl | ⟨v', hv', e⟩)
    · exact .inl rfl
    · obtain rfl := boxed_uniq (hv.other h1 x) hv'
      exact .inr ⟨v, hv, e⟩

theorem nearKX {B0 P q4 : Nat} {W w4 w3 : World} {o : Obj} {v v' : Value} {m : Nat} {xs : List Value} (hB : B0 ≤ W.heap.size) (hbP : Boxed W P 39 v) (hO : W.ownsRow B0 9 1 v m xs) (hne : v.ownBlock ≠ some q4) (h1 : P ≠ q4) (hq4 : q4 < W.heap.size) (hb4 : Below W.heap.size W w4) (hG3 : (w4.alloc o).grownBy w3 v.ownBlock) (hat : v'.ownBlock = v.ownBlock ∨ v'.ownBlock = some (w4.alloc o).heap.size)
    (hv2 : Boxed (w3.setCell ⟨P, 0, none⟩ v') P 39 v') (hb2 : Below B0 w4 (w3.setCell ⟨P, 0, none⟩ v')) : KX B0 q4 (EP P) W (w3.setCell ⟨P, 0, none⟩ v') ∧ (w3.setCell ⟨P, 0, none⟩ v').heap[q4]? = W.heap[q4]? ∧ v'.ownBlock ≠ some q4 := by
  have hz : (w4.alloc o).heap.size = w4.heap.size + 1 := by simp
  have hz4 := hb4.size
  have hz3 := hG3.size
  have keep : ∀ b, b < W.heap.size → b ≠ P → v.ownBlock ≠ some b → (w3.setCell ⟨P, 0, none⟩ v').heap[b]? = W.heap[b]? := by
    intro b hb h2 h3
    rw [Below.heap_setCell _ _ _ _ h2, hG3.block b (by omega) (by first | exact h3 | exact h3.symm), Below.heap_alloc _ _ _ (by omega)]
    exact hb4.block b hb
  refine ⟨⟨(hb4.mono hB).trans hb2, by rw [World.size_setCell]; omega, fun b hb _ hE => keep b hb (fun e => hE (.inl e)) (fun e => hE (.inr ⟨v, hbP, e⟩)), ?_⟩, keep q4 hq4 h1.symm hne, ?_⟩
  · rintro b (rfl | ⟨v'', hv'', e⟩)
    · exact .inl (.inl rfl)
    · obtain rfl := boxed_uniq hv2 hv''
      rcases hat with e' | e'
      · exact .inl (.inr ⟨v, hbP, e'.symm.trans e⟩)
      · rw [e] at e'
        have : b = (w4.alloc o).heap.size := by simpa using e'
        exact .inr (by omega)
  · intro e
    rcases hat with e' | e'
    · exact hne (e'.symm.trans e)
    · rw [e] at e'
      have : q4 = (w4.alloc o).heap.size := by simpa using e'
      omega

set_option maxRecDepth 1000000 in
set_option maxHeartbeats 2000000 in
theorem nearClo_any (B0 P q0 q1 q4 : Nat) (a : Option Addr) (n c : Nat) (t : List Nd) (ps : List Txt) (hv : Valid t ps) (z d : Int) (ws : List Txt) (i : Nat) (x : Txt) (W : World) (hB : B0 ≤ W.heap.size) (hN : Nds B0 W a n c t) (hx : ps[i]? = some x) (hw : ws.length ≤ 481)
    (h1 : P ≠ q4) (h2 : q0 ≠ P) (h3 : q1 ≠ P) (hP : B0 ≤ P) (hq4 : q4 < W.heap.size) (hJ : JW B0 P q0 q1 q4 a n c z ws W) :
    Calls Try.prog 52 #[.int .i64 (i : Int), .int .i64 d, .pointer (some ⟨P, 0, none⟩), .pointer (some ⟨q0, 0, none⟩), .pointer (some ⟨q1, 0, none⟩)] W fun e W' => e = .returned (.int .i64 z) ∧ JW B0 P q0 q1 q4 a n c z (ws ++ [x]) W' ∧ KX B0 q4 (EP P) W W' ∧ W'.heap[q4]? = W.heap[q4]? := by
  obtain ⟨⟨v, hbP, hO, hne⟩, hb0, hb1⟩ := hJ
  have hx12 := hv.short x (at_mem hx)
  have cP := Lib.hid (prefixAt_any B0 a n c i t.length t ps x W.drew hB (hN.keep (Below.refl _ _).drew) hv.tells hx hx12)
  obtain ⟨i0, hii, hz0, hz1, hz2⟩ := info_parts infoS
  obtain ⟨m, hm⟩ : ∃ m, ws.length = m := ⟨_, rfl⟩
  have HM := Lib.hid hm
  rw [hm] at hO hw
  have hcP := hbP.cell
  have hc0 := hb0.cell
  have hc1 := hb1.cell
  have HBP : Hid (Boxed W.drew P 39 v) := Lib.hid hbP
  have HB0 : Hid (Boxed W.drew q0 30 (.slice a n c)) := Lib.hid hb0
  have HB1 : Hid (Boxed W.drew q1 3 (.int .i64 z)) := Lib.hid hb1
  have HO : Hid (W.drew.ownsRow B0 9 1 v m (ws.map fun x => Value.string (bx x))) := Lib.hid hO.drew
  have HNe := Lib.hid hne
  have HO0 := Lib.hid hO
  have HP0 := Lib.hid hbP
  clear hv hN hx hm hbP hO hne hb0 hb1
  go_enter Try.func52, Try.ntmps52
  go_wp2_with fail
  go_region_law
    (first
      | (refine step_append_row (by rfl) _ _ 39 (by rfl) B0 9 i0 (.string ByteArray.empty) 1 16 Try.underlying39 hii hz0 hz1 hz2 (by rfl) (by decide) v m (ws.map fun x => Value.string (bx x)) (by rfl) (by exact hO4.alloc _) ⟨_, 0, none⟩ 1 1 [.string (bx x)] (by rfl) (by rfl) (by exact cell_one_new _ _ _) (by simp [Value.oneCell']) (by unfold maxLen; omega) (by omega) (by simp; omega) ?_; intro v3 w3 hO3 hG3 hat3; obtain ⟨g3, cap3, rfl⟩ := own_succ hO3; obtain ⟨hv1, hv2, hr2, hk2, hb2⟩ := hP4.appended (by decide) hO4 hs4 hP hO3 hG3; have hc1' := hv1.cell; have hf1' := hv1.frozen; have hq1' := ((hb14.alloc (.cells #[.string (bx x)] 9)).kept hG3 (hb14.not_row (by decide) hO4)).other h3 (.slice (some ⟨g3, 0, none⟩) (m + 1) cap3); have hq0' := ((hb04.alloc (.cells #[.string (bx x)] 9)).kept hG3 (hb04.not_row (by decide) hO4)).other h2 (.slice (some ⟨g3, 0, none⟩) (m + 1) cap3); have hcz := hq1'.cell)
      | (go_simp; go_at_call 53; refine cP.out.mono ?_; rintro e w4 ⟨rfl, hb4⟩; have hP4 := box_stay HBP.out hb4; have hO4 := own_stay HO.out hb4; have hb04 := box_stay HB0.out hb4; have hb14 := box_stay HB1.out hb4; have hcP4 := hP4.cell; have hcP5 := (hP4.alloc (.cells #[.string (bx x)] 9)).cell; have hs4 : B0 ≤ w4.heap.size := Nat.le_trans hB hb4.size))
  all_goals
    have hb4' : Below W.heap.size W w4 := (Below.refl _ _).drew.trans hb4
    have HK := Lib.hid (nearKX hB HP0.out HO0.out HNe.out h1 hq4 hb4' hG3 hat3 hv2 hb2)
    have HJn : Hid (JW B0 P q0 q1 q4 a n c z (ws ++ [x]) (w3.setCell ⟨P, 0, none⟩ (.slice (some ⟨g3, 0, none⟩) (m + 1) cap3))) := Lib.hid ⟨⟨_, hv2, by rw [List.length_append, HM.out, List.map_append]; exact hr2, HK.out.2.2⟩, hq0', hq1'⟩
    go_wp2
    go_ret
    exact ⟨rfl, HJn.out, HK.out.1, HK.out.2.1⟩

theorem near_fold (t : List Nd) (ps : List Txt) (hl : ps.length = t.length) (s : ByteArray) (z : Int) : ∀ k, k ≤ t.length → vfold t (nearWords.dst s.data.toList ps) (fun (ws : List Txt) (i d : Nat) => ws ++ [preA ps i]) (fun _ => z) [] 0 k = (mid t ps 0 k).filter (nearB s z)
  | 0, _ => by rw [vfold_same, mid_same]; rfl
  | k + 1, h => by
    obtain ⟨x, hx⟩ : ∃ x, ps[k]? = some x := ⟨_, List.getElem?_eq_getElem (by omega)⟩
    have ih := near_fold t ps hl s z k (by omega)
    have hd : nearB s z x = decide ((nearWords.dst s.data.toList ps k : Int) ≤ z) := by
      unfold nearB nearWords.dst
      rw [preA_at hx, lev_swap s.data.toList]
      simp
    rw [← vfold_app t _ _ _ [] (Nat.zero_le k) (Nat.le_succ k), ih, vfold_one, mid_succ (Nat.zero_le k) hx, List.filter_append]
    unfold vis
    by_cases he : (ndA t k).e = true
    · by_cases hz : (nearWords.dst s.data.toList ps k : Int) ≤ z
      · rw [if_pos ⟨he, hz⟩, if_pos he]
        show (mid t ps 0 k).filter (nearB s z) ++ [preA ps k] = _
        rw [preA_at hx]
        simp [hd, hz]
      · rw [if_neg (fun h => hz h.2), if_pos he]
        simp [hd, hz]
    · rw [if_neg (fun h => he h.1), if_neg he]
      simp

set_option maxRecDepth 1000000 in
set_option maxHeartbeats 4000000 in
theorem implNear (t : List Nd) (n c : Nat) (s : ByteArray) (z : Int) (hn : n ≤ 1048576) (hs : s.size ≤ 1048576) (xs : List Txt) (ok : Bool) (hok : ok = (trieB t && okW s && farB z)) (hy : ok = true → xs = nearL t s z) (hno : ok = false → xs = []) (W : World) (a : Option Addr) (hN : Nds W.heap.size W a n c t) :
    Calls Try.prog 22 #[.agg #[.slice a n c], .string s, .int .i64 z] W (ownS.OwnTexts W xs ok) := by
  have G1 := Lib.hid (Gv.start hN)
  have cT := Lib.hid (fun W w a (G : Gv W w a n c t) => isTrie_any W.heap.size a n c t w G.bel.size G.nds)
  have cP := Lib.hid (fun w => implIsWord_any s w (by omega))
  have cF := Lib.hid (fun w => isFar_any z w)
  have HOk := Lib.hid hok
  have HY := Lib.hid hy
  have HNo := Lib.hid hno
  have hbq0 := Boxed.new (W.alloc (.cells #[.slice a n c] 30)) 3 (.int .i64 z)
  have hbp0 := (Boxed.new W 30 (.slice a n c)).alloc (.cells #[.int .i64 z] 3)
  simp only [World.size_alloc] at hbq0
  have HBq := Lib.hid (And.intro hbp0 hbq0)
  have G1' : Hid (Gv W ((W.alloc (.cells #[.slice a n c] 30)).alloc (.cells #[.int .i64 z] 3)) a n c t) := Lib.hid (G1.out.on ((Below.refl _ _).alloc (Nat.le_refl _) _))
  have hsz1 : ((W.alloc (.cells #[.slice a n c] 30)).alloc (.cells #[.int .i64 z] 3)).heap.size = W.heap.size + 2 := by simp
  have HSz := Lib.hid hsz1
  have hbx := G1'.out.box
  obtain ⟨W1, hW1⟩ : ∃ W1, (W.alloc (.cells #[.slice a n c] 30)).alloc (.cells #[.int .i64 z] 3) = W1 := ⟨_, rfl⟩
  have HW1 := Lib.hid hW1
  rw [hW1] at G1' HBq HSz
  obtain ⟨q1, hq1⟩ : ∃ q1, trieB t = q1 := ⟨_, rfl⟩
  obtain ⟨q2, hq2⟩ : ∃ q2, okW s = q2 := ⟨_, rfl⟩
  obtain ⟨q3, hq3⟩ : ∃ q3, farB z = q3 := ⟨_, rfl⟩
  have HQ := Lib.hid hq1
  have HQ2 := Lib.hid hq2
  have HQ3 := Lib.hid hq3
  rw [hq1] at cT HOk
  rw [hq2] at cP HOk
  rw [hq3] at cF HOk
  clear hq1 hq2 hq3 hN hok hy hno hsz1 hW1 hbp0 hbq0
  cases q1 with
  | false =>
    go_enter Try.func22, Try.ntmps22
    go_wp2_with fail
    rw [HW1.out]
    refine (cT.out _ _ _ G1'.out).mono ?_
    rintro e w2 ⟨rfl, hb2⟩
    have G2 := Lib.hid (G1'.out.on hb2)
    clear hb2 hbx
    go_wp2_with fail
    go_ret2
    have e1 := HNo.out (by rw [HOk.out]; rfl)
    exact ⟨_, by rw [HOk.out]; rfl, by rw [e1]; exact World.ownsRow_nil _ _ _ _, G2.out.bel⟩
  | true =>
    cases q2 with
    | false =>
      go_enter Try.func22, Try.ntmps22
      go_wp2_with fail
      rw [HW1.out]
      refine (cT.out _ _ _ G1'.out).mono ?_
      rintro e w2 ⟨rfl, hb2⟩
      have G2 := Lib.hid (G1'.out.on hb2)
      clear hb2 hbx
      go_wp2_with fail
      refine (cP.out _).mono ?_
      rintro e w3 ⟨rfl, hb3⟩
      have G3 := Lib.hid (G2.out.on hb3)
      clear hb3
      go_wp2_with fail
      go_ret2
      have e1 := HNo.out (by rw [HOk.out]; rfl)
      exact ⟨_, by rw [HOk.out]; rfl, by rw [e1]; exact World.ownsRow_nil _ _ _ _, G3.out.bel⟩
    | true =>
     cases q3 with
     | false =>
      go_enter Try.func22, Try.ntmps22
      go_wp2_with fail
      rw [HW1.out]
      refine (cT.out _ _ _ G1'.out).mono ?_
      rintro e w2 ⟨rfl, hb2⟩
      have G2 := Lib.hid (G1'.out.on hb2)
      have HB2 := Lib.hid hb2
      clear hb2 hbx
      go_wp2_with fail
      refine (cP.out _).mono ?_
      rintro e w3 ⟨rfl, hb3⟩
      have G3 := Lib.hid (G2.out.on hb3)
      have hbq3 := (box_stay HBq.out.2 (HB2.out.trans (hb3.mono HB2.out.size))).cell
      clear hb3
      go_wp2_with fail
      refine (cF.out _).mono ?_
      rintro e w4 ⟨rfl, rfl⟩
      go_wp2_with fail
      go_ret2
      have e1 := HNo.out (by rw [HOk.out]; rfl)
      exact ⟨_, by rw [HOk.out]; rfl, by rw [e1]; exact World.ownsRow_nil _ _ _ _, G3.out.bel⟩
     | true =>
      have HXs := Lib.hid (HY.out (by rw [HOk.out]; rfl))
      clear HY HNo
      obtain ⟨ps, hv⟩ := trieB_iff.1 HQ.out
      have HV := Lib.hid hv
      have hs12 := okW_size HQ2.out
      have hlow : ∀ k (h : k < s.size), (s[k]'h).toNat < 128 := fun k h => by have := okW_low_at HQ2.out h; omega
      have HLow := Lib.hid hlow
      have hz3 : 0 ≤ z ∧ z ≤ 3 := of_decide_eq_true HQ3.out
      have HFold : Hid (vfold t (nearWords.dst s.data.toList ps) (fun (ws : List Txt) (i d : Nat) => ws ++ [preA ps i]) (fun _ => z) [] 0 t.length = xs) := Lib.hid (by rw [near_fold t ps hv.lenEq s z t.length (Nat.le_refl _), mid_all hv, HXs.out]; unfold nearL; rw [wordsOf_eq hv])
      clear hv hlow
      go_enter Try.func22, Try.ntmps22
      go_wp2_with fail
      rw [HW1.out]
      refine (cT.out _ _ _ G1'.out).mono ?_
      rintro e w2 ⟨rfl, hb2⟩
      have G2 := Lib.hid (G1'.out.on hb2)
      have HB2 := Lib.hid hb2
      clear hb2 hbx
      go_wp2_with fail
      refine (cP.out _).mono ?_
      rintro e w3 ⟨rfl, hb3⟩
      have G3 := Lib.hid (G2.out.on hb3)
      have HB3 := Lib.hid (HB2.out.trans (hb3.mono HB2.out.size))
      have hbq3 := (box_stay HBq.out.2 HB3.out).cell
      have hbx3 := G3.out.box
      clear hb3
      go_wp2_with fail
      refine (cF.out _).mono ?_
      rintro e w4 ⟨rfl, rfl⟩
      have hbq5 := (box_stay HBq.out.2 HB3.out).alloc (.cells #[] 9) |>.alloc (.cells #[.slice (some ⟨w3.heap.size, 0, none⟩) 0 0] 39)
      have hbp5 := (box_stay HBq.out.1 HB3.out).alloc (.cells #[] 9) |>.alloc (.cells #[.slice (some ⟨w3.heap.size, 0, none⟩) 0 0] 39)
      have hcq5 := hbq5.cell
      have hcp5 := hbp5.cell
      have hbP5 := Boxed.new (w3.alloc (.cells #[] 9)) 39 (.slice (some ⟨w3.heap.size, 0, none⟩) 0 0)
      rw [World.size_alloc] at hbP5
      have hO5 := (World.ownsRow_lit (base := w3.heap.size) (e := 9) (size := 1) w3 #[] 0 (Nat.le_refl _) (by unfold maxLen; omega) rfl).alloc (.cells #[.slice (some ⟨w3.heap.size, 0, none⟩) 0 0] 39)
      have hsz5 : ((w3.alloc (.cells #[] 9)).alloc (.cells #[.slice (some ⟨w3.heap.size, 0, none⟩) 0 0] 39)).heap.size = w3.heap.size + 2 := by simp
      have hG5 := G3.out.on (((Below.refl _ w3).alloc (Nat.le_refl _) (.cells #[] 9)).alloc (by simp) (.cells #[.slice (some ⟨w3.heap.size, 0, none⟩) 0 0] 39))
      have hW3s : W.heap.size + 1 < w3.heap.size := by have := HB3.out.size; have := HSz.out; omega
      go_wp2_with fail
      clear hcq5 hcp5 hbx3 hbq3
      obtain ⟨w5, hw5⟩ : ∃ w5, (w3.alloc (.cells #[] 9)).alloc (.cells #[.slice (some ⟨w3.heap.size, 0, none⟩) 0 0] 39) = w5 := ⟨_, rfl⟩
      rw [hw5] at hbq5 hbp5 hbP5 hO5 hsz5 hG5 ⊢
      clear hw5
      have hJ5 : JW W.heap.size (w3.heap.size + 1) W.heap.size (W.heap.size + 1) (w5.heap.size + 1 + 1) a n c z [] w5 := ⟨⟨_, hbP5, own_down hO5 (by omega), fun e => by
        have e2 : w3.heap.size = w5.heap.size + 1 + 1 := by simpa [Value.ownBlock] using e
        omega⟩, hbp5, hbq5⟩
      have cS := nearWords.searchNear_any t ps HV.out s hs12 HLow.out (fun (ws : List Txt) (i d : Nat) => ws ++ [preA ps i]) (fun _ => z) (JW W.heap.size (w3.heap.size + 1) W.heap.size (W.heap.size + 1) (w5.heap.size + 1 + 1) a n c z) (EP (w3.heap.size + 1)) W.heap.size (.pointer (some ⟨w3.heap.size + 1, 0, none⟩)) (.pointer (some ⟨W.heap.size, 0, none⟩)) (.pointer (some ⟨W.heap.size + 1, 0, none⟩)) a n c w5 hG5.bel.size hG5.nds (opsW (by omega) (by omega) (by omega)) (fun ws i => ws.length ≤ i) (fun ws i d h => by rw [List.length_append]; simp; omega) (fun ws i j h h' => by omega)
        (fun ws i d x W' hok hJ hSB hx he hd hdz hde => by
          have hil : i < t.length := by have := (List.getElem?_eq_some_iff.1 hx).1; have := HV.out.lenEq; omega
          have hsz := HV.out.size
          rw [show ws ++ [preA ps i] = ws ++ [x] from by rw [preA_at hx]]
          exact nearClo_any W.heap.size (w3.heap.size + 1) W.heap.size (W.heap.size + 1) (w5.heap.size + 1 + 1) a n c t ps HV.out z d ws i x W' hSB.base hSB.nds hx (by omega) (by omega) (by omega) (by omega) (by omega) hSB.far hJ)
        [] hJ5 (Nat.zero_le _) z rfl
      rw [HFold.out] at cS
      have CS := Lib.hid cS
      have HG5 := Lib.hid hG5
      clear cS hJ5 hbq5 hbp5 hbP5 hO5 hsz5 hG5
      refine CS.out.mono ?_
      rintro e w6 ⟨rfl, ⟨⟨v6, hP6, hO6, _⟩, _⟩, hK6⟩
      obtain ⟨a6, c6, rfl⟩ := own_slice hO6
      have HO6 := Lib.hid hO6
      have HB6 := Lib.hid (HG5.out.bel.trans hK6.bel)
      have hc6 := hP6.cell
      clear hO6 hK6
      go_wp2_with fail
      go_ret2
      exact ⟨_, by rw [HOk.out]; rfl, HO6.out, HB6.out⟩

theorem nearL_facts (t : List Nd) (s : ByteArray) (z : Int) : (nearL t s z).length ≤ 1000 ∧ ∀ x ∈ nearL t s z, x.length ≤ 9223372036854775807 := by
  unfold nearL
  refine ⟨?_, fun x hx => ?_⟩
  · have h1 := List.length_filter_le (nearB s z) (wordsOf t)
    have h2 := wordsOf_size t
    omega
  · have := wordsOf_short t x (List.mem_filter.1 hx).1
    omega

theorem agreeNearWords (t : List Nd) (n c : Nat) (s : ByteArray) (z : Int) (hn : n ≤ 1048576) (hs : s.size ≤ 1048576) : ∃ (xs : List Txt) (ok : Bool), xs.length ≤ 1000 ∧ (∀ x ∈ xs, x.length ≤ 9223372036854775807) ∧
    (∀ (W : World) (a : Option Addr), Nds W.heap.size W a n c t → Calls Try.prog 21 #[.agg #[.slice a n c], .string s, .int .i64 z] W fun e w' => ownS.OwnTexts W xs ok e w') ∧
    (∀ (W : World) (a : Option Addr), Nds W.heap.size W a n c t → Calls Try.prog 22 #[.agg #[.slice a n c], .string s, .int .i64 z] W fun e w' => ownS.OwnTexts W xs ok e w') := by
  obtain ⟨ok, hok⟩ : ∃ ok, (trieB t && okW s && farB z) = ok := ⟨_, rfl⟩
  have hx : ∃ xs : List Txt, xs.length ≤ 1000 ∧ (∀ x ∈ xs, x.length ≤ 9223372036854775807) ∧ (ok = true → xs = nearL t s z) ∧ (ok = false → xs = []) := by
    cases ok with
    | false => exact ⟨[], by simp, (fun x h => by cases h), (fun h => by cases h), fun _ => rfl⟩
    | true => exact ⟨nearL t s z, (nearL_facts t s z).1, (nearL_facts t s z).2, fun _ => rfl, (fun h => by cases h)⟩
  obtain ⟨xs, h1, h2, hy, hno⟩ := hx
  exact ⟨xs, ok, h1, h2, fun W a hN => specNear t n c s z hn hs xs ok hok.symm hy hno W a hN, fun W a hN => implNear t n c s z hn hs xs ok hok.symm hy hno W a hN⟩

end Go.Proofs.Ytipkdoplgjgkpac.cap
