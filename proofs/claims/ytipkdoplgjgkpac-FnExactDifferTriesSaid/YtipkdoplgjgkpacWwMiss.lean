/-
  The words of a trie that are wanted, told by a range over a function and gathered in a row: the program's walk, with one of its closures.
-/
import Derived.RangeFuncFrom
import Derived.RangeFuncBox
import Derived.Test.YtipkdoplgjgkpacEach
import Derived.Test.YtipkdoplgjgkpacFreeM
namespace Go.Proofs.Ytipkdoplgjgkpac.wwMiss
open Go.RowKit Go.Shelf
set_option linter.unusedVariables false

attribute [local go_sem] Oper.semAt_some

/-- the words that are wanted, of those told so far -/
def sel {t : List Nd} {ps : List Txt} (p : Nat × Txt → Bool) (pre : List (EW t ps)) : List Txt := (pre.filter fun y => p y.val).map fun y => y.x
theorem sel_yes {t : List Nd} {ps : List Txt} {p : Nat × Txt → Bool} {pre : List (EW t ps)} {y : EW t ps} (h : p y.val = true) : sel p (pre ++ [y]) = sel p pre ++ [y.x] := by simp [sel, h]
theorem sel_no {t : List Nd} {ps : List Txt} {p : Nat × Txt → Bool} {pre : List (EW t ps)} {y : EW t ps} (h : p y.val = false) : sel p (pre ++ [y]) = sel p pre := by simp [sel, h]
theorem sel_all {t : List Nd} {ps : List Txt} {p : Nat × Txt → Bool} {ys : List (EW t ps)} {l : List (Nat × Txt)} (h : ys.map EW.val = l) : sel p ys = (l.filter p).map Prod.snd := by
  subst h
  rw [List.filter_map, List.map_map]
  rfl
theorem sel_len {t : List Nd} {ps : List Txt} {p : Nat × Txt → Bool} (pre : List (EW t ps)) : (sel p pre).length ≤ pre.length := by
  unfold sel
  rw [List.length_map]
  exact List.length_filter_le _ _

set_option maxRecDepth 1000000 in
set_option maxHeartbeats 4000000 in
theorem where_in (N : Nat) (hN3 : 3 ≤ N) (a : Option Addr) (n c : Nat) (q0 : Nat) (t : List Nd) (ps : List Txt) (hv : Valid t ps) (p : Nat × Txt → Bool) (w : World) (hN : Nds w.heap.size w a n c t)
    (cc : ∀ (W : World) (y : EW t ps), Below w.heap.size w W → Calls Try.prog 77 #[.int .i64 (y.i : Int), .string (bx y.x), .pointer (some ⟨q0, 0, none⟩)] W fun e W' => e = .returned (.bool (p y.val)) ∧ Below W.heap.size W W') :
    CallsIn Fence.wide N Try.prog 76 #[.agg #[.slice a n c], .func (.func 77) #[] #[.pointer (some ⟨q0, 0, none⟩)]] w fun e w' => ∃ v, e = .returned v ∧ w'.ownsRow w.heap.size 9 1 v (((pls t ps t.length).filter p).map Prod.snd).length ((((pls t ps t.length).filter p).map Prod.snd).map fun x => Value.string (bx x)) ∧ Below w.heap.size w w' := by
  have h1 : 1 ≤ N := by omega
  have HN := Lib.hid hN
  have HV := Lib.hid hv
  have HCc := Lib.hid cc
  have hn481 : n ≤ 481 := by have := hv.size; have := hN.len; omega
  clear hN hv cc
  obtain ⟨i0, hi, hz0, hz1, hz2⟩ := info_parts infoS
  refine callsIn_of_wp_marks Try.func76 rfl trivial ?_ rfl
  simp only [Try.ntmps76, List.size_toArray, List.length_cons, List.length_nil, Nat.reduceAdd, Nat.reduceSub, Array.replicate_succ, Array.replicate_zero, List.push_toArray, List.append_toArray, List.nil_append, List.cons_append]
  gi_wp2_with (refine ⟨trivial, ?_⟩; gi_at_call 39; refine (eachWord_in (N - 1) a n c _).mono ?_; rintro e w3 ⟨rfl, rfl⟩)
  have a0 := cellNew w (.agg #[]) 0
  clear a0
  have hB0 : Below w.heap.size w (((((w.alloc (.cells #[.slice a n c] 30)).alloc (.cells #[.func (.func 77) #[] #[.pointer (some ⟨q0, 0, none⟩)]] 89)).alloc (.cells #[] 9)).alloc (.cells #[.slice (some ⟨w.heap.size + 1 + 1, 0, none⟩) 0 0] 39)).alloc (.cells #[.slice a n c] 30)) :=
    (((((Below.refl _ w).alloc (Nat.le_refl _) _).alloc (by simp) _).alloc (by simp; omega) _).alloc (by simp; omega) _).alloc (by simp; omega) _
  have u1 := (cellNew (w.alloc (.cells #[.slice a n c] 30)) (.func (.func 77) #[] #[.pointer (some ⟨q0, 0, none⟩)]) 89).1
  have b0 := Boxed.new (((w.alloc (.cells #[.slice a n c] 30)).alloc (.cells #[.func (.func 77) #[] #[.pointer (some ⟨q0, 0, none⟩)]] 89)).alloc (.cells #[] 9)) 39 (.slice (some ⟨w.heap.size + 1 + 1, 0, none⟩) 0 0)
  have hown0 := World.ownsRow_lit (base := w.heap.size) (e := 9) (size := 1) ((w.alloc (.cells #[.slice a n c] 30)).alloc (.cells #[.func (.func 77) #[] #[.pointer (some ⟨q0, 0, none⟩)]] 89)) #[] 0 (by simp; omega) (by unfold maxLen; omega) rfl
  have u4 := (cellNew ((((w.alloc (.cells #[.slice a n c] 30)).alloc (.cells #[.func (.func 77) #[] #[.pointer (some ⟨q0, 0, none⟩)]] 89)).alloc (.cells #[] 9)).alloc (.cells #[.slice (some ⟨w.heap.size + 1 + 1, 0, none⟩) 0 0] 39)) (.slice a n c) 30).1
  simp only [World.size_alloc] at u1 b0 hown0 u4
  have c0 := b0.alloc (.cells #[.slice a n c] 30)
  have c1 := cellOld (.cells #[.slice a n c] 30) (cellOld (.cells #[.slice (some ⟨w.heap.size + 1 + 1, 0, none⟩) 0 0] 39) (cellOld (.cells #[] 9) u1))
  have hown1 := (hown0.alloc (.cells #[.slice (some ⟨w.heap.size + 1 + 1, 0, none⟩) 0 0] 39)).alloc (.cells #[.slice a n c] 30)
  have hsz0 : (((((w.alloc (.cells #[.slice a n c] 30)).alloc (.cells #[.func (.func 77) #[] #[.pointer (some ⟨q0, 0, none⟩)]] 89)).alloc (.cells #[] 9)).alloc (.cells #[.slice (some ⟨w.heap.size + 1 + 1, 0, none⟩) 0 0] 39)).alloc (.cells #[.slice a n c] 30)).heap.size = w.heap.size + 5 := by simp
  clear b0 u1 hown0
  obtain ⟨w0, hw0⟩ : ∃ w0, ((((w.alloc (.cells #[.slice a n c] 30)).alloc (.cells #[.func (.func 77) #[] #[.pointer (some ⟨q0, 0, none⟩)]] 89)).alloc (.cells #[] 9)).alloc (.cells #[.slice (some ⟨w.heap.size + 1 + 1, 0, none⟩) 0 0] 39)).alloc (.cells #[.slice a n c] 30) = w0 := ⟨_, rfl⟩
  rw [hw0] at c0 c1 u4 hown1 hsz0 hB0 ⊢
  clear hw0
  have HB0 := Lib.hid hB0
  obtain ⟨s, hs⟩ : ∃ s, w.heap.size = s := ⟨_, rfl⟩
  have HSs := Lib.hid hs
  rw [hs] at c0 c1 u4 hown1 hsz0 hB0
  simp only [hs]
  clear hs
  refine wpIn_rangeFunc_ownF rfl h1 (gf := 74) (lb := #[.pointer (some ⟨s + 1 + 1 + 1 + 1, 0, none⟩)]) rfl trivial (enters_of Try.func74 (by kernel_rfl) rfl)
    (each_stops (N - 1) (by omega) (s + 1 + 1 + 1 + 1) s n c a t ps HV.out w0 (by omega) (by omega) u4 (by have := HN.out; rw [HSs.out] at this; exact this.keep hB0)) KeepE.trans (keepE_b (by omega) (by omega)) (Below.refl _ _) (fun _ => rfl)
    (fun pre W => ((∃ v, Boxed W (s + 1 + 1 + 1) 39 v ∧ W.ownsRow s 9 1 v (sel p pre).length ((sel p pre).map fun x => Value.string (bx x)) ∧ (∃ g cap, v = .slice (some ⟨g, 0, none⟩) (sel p pre).length cap ∧ (g = s + 1 + 1 ∨ s + 5 ≤ g))) ∧ Below s w0 W) ∧ W.cell? ⟨s + 1, 0, none⟩ = some (.func (.func 77) #[] #[.pointer (some ⟨q0, 0, none⟩)]))
    (fun _ _ _ => False)
    (OwnFrom.and (OwnFrom.and (Own.from (holdsRow_own s (s + 1 + 1 + 1) 39 9 1 (fun pre : List (EW t ps) => (sel p pre).length) (fun pre : List (EW t ps) => (sel p pre).map fun x => Value.string (bx x)) (fun (pre : List (EW t ps)) v => ∃ g cap, v = .slice (some ⟨g, 0, none⟩) (sel p pre).length cap ∧ (g = s + 1 + 1 ∨ s + 5 ≤ g))) _) (ownFrom_below (by omega) (by omega))) (Own.from (fun q A B row hs hg hr => cell_kept hs hg hr) _))
    (fun _ _ _ _ _ hs _ _ => hs)
    ⟨⟨⟨_, c0, hown1, s + 1 + 1, 0, rfl, .inl rfl⟩, Below.refl _ _⟩, c1⟩
    (fun x => { tmps := #[.agg #[.slice a n c], .func (.func 77) #[] #[.pointer (some ⟨q0, 0, none⟩)], .pointer (some ⟨s, 0, none⟩), .pointer (some ⟨s + 1, 0, none⟩), .slice none 0 0, .pointer (some ⟨s + 1 + 1 + 1, 0, none⟩), .int .i64 (x.i : Int), .string (bx x.x), .slice (some ⟨s + 1 + 1, 0, none⟩) 0 0, .agg #[.slice a n c],
      .func (.func 74) #[] #[.pointer (some ⟨s + 1 + 1 + 1 + 1, 0, none⟩)], .int .i64 (x.i : Int), .string (bx x.x), undef, undef, undef, undef, undef, undef, undef, undef, undef], defers := [] }) ?assign ?body ?done ?stop
  case assign =>
    intro l x W K hK
    gi_wp2
    exact hK
  case body =>
    clear c0 c1 u4 hown1
    rintro l pre x W ⟨⟨⟨_, hv, hrow, g, cap, rfl, hg⟩, hB⟩, hc1⟩ hlt
    have hpl := sel_len (p := p) pre
    have hsz := hB.size
    have h1b : 1 ≤ N - 1 - 1 := by omega
    have cB := HCc.out W x (by have := hB0.trans hB; rw [← HSs.out] at this; exact this)
    have HR := Lib.hid hrow
    have HVb := Lib.hid hv
    have HBw := Lib.hid hB
    have HC1 := Lib.hid hc1
    have hvl := hv.lt
    have HGg := Lib.hid hg
    obtain ⟨b, hb⟩ : ∃ b, p x.val = b := ⟨_, rfl⟩
    rw [hb] at cB
    have HPb := Lib.hid hb
    have CB := Lib.hid cB
    clear hrow hv hB hb cB hg
    obtain ⟨m, hm⟩ : ∃ m, (sel p pre).length = m := ⟨_, rfl⟩
    have HM := Lib.hid hm
    rw [hm] at HR hpl HVb
    clear hm
    cases b
    · gi_wp2_with (refine ⟨trivial, ?_⟩; gi_at_call 77; refine (CallsIn.inRound l (callsIn_wide.2 CB.out)).mono ?_; rintro e w4 ⟨rfl, hb4⟩)
      refine ⟨keepsOthers_of_below hb4, KeepE.far (by omega) (by omega) hb4, ?_⟩

      simp only [sel_no HPb.out]
      exact ⟨⟨⟨_, box_stay HVb.out hb4, by rw [HM.out]; exact own_stay HR.out hb4, g, cap, by rw [HM.out], HGg.out⟩, HBw.out.trans (hb4.mono (by omega))⟩, (hb4.cell (p := ⟨s + 1, 0, none⟩) (show s + 1 < W.heap.size by omega)).trans HC1.out⟩
    · gi_wp2_with (first
        | (refine ⟨trivial, ?_⟩; gi_at_call 77; refine (CallsIn.inRound l (callsIn_wide.2 CB.out)).mono ?_; rintro e w4 ⟨rfl, hb4⟩; have hv4 := box_stay HVb.out hb4; have hc4 := hv4.cell; have HR4 := Lib.hid (own_stay HR.out hb4); have HB4 := Lib.hid hb4; have hs4 := hb4.size; clear hb4)
        | (gi_at_builtin; refine wpListIn_append_own_at _ rfl _ _ 39 rfl s 9 i0 (.string ByteArray.empty) 1 16 Try.underlying39 hi hz0 hz1 hz2 rfl (by decide) _ _ _ rfl (HR4.out.alloc _) ⟨w4.heap.size, 0, none⟩ 1 1 [.string (bx x.x)] rfl rfl (cell_one_new _ _ _) (by simp [Value.oneCell']) (by unfold maxLen; omega) (by omega) (by simp; omega) ?_; intro v' w1 hown' hgrow _ hat; obtain ⟨g', cap', rfl⟩ := own_succ hown'; obtain ⟨hv1, hv2, hr2, hk2, hb2⟩ := hv4.appended (by decide) HR4.out (by omega) (by omega) hown' hgrow; have hc1' := hv1.cell; have hf1' := hv1.frozen))
      have hat' : g' = g ∨ g' = w4.heap.size + 1 := by
        have h : (some g' : Option Nat) = some g ∨ some g' = some (w4.alloc (.cells #[.string (bx x.x)] 9)).heap.size := hat
        simpa using h
      have hgr : (w4.alloc (.cells #[.string (bx x.x)] 9)).grownBy w1 (some g) := hgrow
      have keep : ∀ k, k < w4.heap.size → k ≠ g → k ≠ s + 1 + 1 + 1 → (w1.setCell ⟨s + 1 + 1 + 1, 0, none⟩ (.slice (some ⟨g', 0, none⟩) (m + 1) cap')).heap[k]? = w4.heap[k]? := fun k h1 h2 h3 => by
        rw [Below.heap_setCell _ _ _ _ h3, hgr.block k (by simp; omega) (by simpa using h2), Below.heap_alloc _ _ _ h1]
      have hE := HGg.out
      have hl : (sel p pre ++ [x.x]).length = m + 1 := by rw [List.length_append, HM.out]; rfl
      refine ⟨(keepsOthers_of_below HB4.out).trans hk2, ⟨(keep _ (by omega) (by omega) (by omega)).trans (HB4.out.block _ (by omega)), (HB4.out.mono (by omega)).trans hb2⟩, ?_⟩

      simp only [sel_yes HPb.out]
      refine ⟨⟨⟨_, hv2, by rw [hl]; simpa using hr2, g', cap', by rw [hl], by omega⟩, HBw.out.trans ((HB4.out.mono (by omega)).trans hb2)⟩, ?_⟩
      exact (World.cell?_of_block (a := ⟨s + 1, 0, none⟩) ((keep (s + 1) (by omega) (by omega) (by omega)).trans (HB4.out.block (s + 1) (by omega)))).trans HC1.out
  case done =>
    rintro D ys W hD hys ⟨⟨⟨_, hv, hrow, g, cap, rfl, hg⟩, hB⟩, _⟩ hK
    have hc := hv.cell
    gi_wp2
    refine ⟨by simp, .inl ⟨_, _, rfl, run_takeDeferred hK, ?_⟩⟩
    have hw : w.heap.size ≤ D := by have := HSs.out; omega
    refine ⟨_, results_tmp (t := 4) rfl _ _ _, _, rfl, ?_, ?_⟩
    · rw [← sel_all hys, HSs.out]
      exact ownsRow_putObj hrow _ hK rfl
    · have h9 := HB0.out.trans (hB.mono (by have := HSs.out; omega))
      exact h9.trans (belowK_b (w := w) (Nat.le_refl _) W D _ _ hw hK rfl rfl)
  case stop =>
    rintro D c' pre W _ _ h _
    exact h.elim

end Go.Proofs.Ytipkdoplgjgkpac.wwMiss
