import Derived.RangeFuncFrom
import Derived.Deep.RegionWith
import Derived.RangeFuncBox
import Derived.Test.YthjafoacnfgjhacLkS
import Derived.Test.YthjafoacnfgjhacPot
import Derived.Test.YthjafoacnfgjhacGA
import Derived.Test.YthjafoacnfgjhacGB
import Derived.Test.YthjafoacnfgjhacGf

/-
  The likeliest word of a descent: the program.
-/
namespace Go.Proofs.Ythjafoacnfgjhac
open Go.RowKit Go.Shelf
set_option linter.unusedVariables false
set_option linter.unusedSimpArgs false

/-- the chances told of so far, as cells -/
def lkc {t : List Nd} {ps : List Txt} (pre : List (EW t ps)) : List Value := pre.flatMap fun y => [Value.int .i64 1, Value.int .i64 ((wqi t (y.i : Int) : Nat) : Int)]
theorem lkc_snoc {t : List Nd} {ps : List Txt} (pre : List (EW t ps)) (y : EW t ps) : lkc (pre ++ [y]) = lkc pre ++ [Value.int .i64 1, Value.int .i64 ((wqi t (y.i : Int) : Nat) : Int)] := by simp [lkc]

theorem infoFr : (Try.prog.info? 65).map (fun i => (i.zero, i.size, i.bytes)) = some (some (.agg #[.int .i64 0, .int .i64 0]), 2, 16) := by kernel_rfl

theorem Only.plain {Q : Exit → Act → World → Prop} {a : Act} {w : World} (h : Q .normal a w) : Only Q .normal a w := h

attribute [local go_sem] Oper.semAt_some

set_option maxRecDepth 1000000 in
set_option maxHeartbeats 4000000 in
theorem likeliest_in (N : Nat) (hN3 : 3 ≤ N) (a : Option Addr) (n c : Nat) (t : List Nd) (ps : List Txt) (hv : Valid t ps) (hw : 0 < (wds t ps).length) (hp : potB t = true) (W : World) (hN : Nds W.heap.size W a n c t) (sx : Txt) (D : Nat) (hLk : LkIs t ps sx D) :
    CallsIn Fence.wide N Try.prog 16 #[.agg #[.slice a n c]] W fun e w' => e = .returned (.tuple #[.string (bx sx), .agg #[.int .i64 1, .int .i64 (D : Int)], .bool true]) ∧ Below W.heap.size W w' := by
  have h1 : 1 ≤ N := by omega
  have HL := Lib.hid hN.len
  have HV := Lib.hid hv
  have HW := Lib.hid hw
  have hn481 : n ≤ 481 := by have := hv.size; have := hN.len; omega
  have G0 := Lib.hid (Gf.start 33 hN)
  have cD := Lib.hid (fun W' (G : Gf 33 1 W W' a n c t) => potOf_any W.heap.size a n c t W' (Nat.le_of_lt G.size) G.nds)
  have cS : Hid (∀ (j : Nat), j < n → ∀ W', Gf 33 1 W W' a n c t → Calls Try.prog 37 #[.agg #[.slice a n c], .int .i64 (j : Int)] W' fun e w' => e = .returned (fv (1, wqi t (j : Int))) ∧ Below W'.heap.size W' w') := Lib.hid (fun j hj W' G => stopChance_any t ps n c j hv hw hj W' a (G.nds.mono (Nat.le_of_lt G.size)))
  simp only [fv_mk] at cS
  rw [hp, wordsOf_eq hv] at cD
  have HLk := Lib.hid hLk
  have h40 := wordsOf_size t
  rw [wordsOf_eq hv] at h40
  obtain ⟨i0, hi, hz0, hz1, hz2⟩ := info_parts infoFr
  have hbx := G0.out.box
  clear hN hv hp hLk
  refine callsIn_of_wp_marks Try.func16 rfl trivial ?_ rfl
  simp only [Try.ntmps16, List.size_toArray, List.length_cons, List.length_nil, Nat.reduceAdd, Nat.reduceSub, Array.replicate_succ, Array.replicate_zero, List.push_toArray, List.append_toArray, List.nil_append, List.cons_append]
  gi_wp2_with (first
    | (refine ⟨trivial, ?_⟩; gi_at_call 35; refine (callsIn_wide.2 (cD.out _ G0.out)).mono ?_; rintro e w2 ⟨aw, cw, rfl, hO2, hb2⟩; have G2 := Lib.hid (G0.out.on hb2); have hbx2 := G2.out.box; clear hb2; have hbx3 := cellOld (.cells #[.slice (some ⟨w2.heap.size + 1, 0, none⟩) 0 0] 61) (cellOld (.cells #[] 65) (cellOld (.cells #[.slice a n c, .slice aw (wds t ps).length cw] 58) hbx2)))
    | (refine ⟨trivial, ?_⟩; gi_at_call 36; refine (eachWord_in (N - 1) a n c _).mono ?_; rintro e w3 ⟨rfl, rfl⟩))
  have hB0 : Below w2.heap.size w2 ((((w2.alloc (.cells #[.slice a n c, .slice aw (wds t ps).length cw] 58)).alloc (.cells #[] 65)).alloc (.cells #[.slice (some ⟨w2.heap.size + 1, 0, none⟩) 0 0] 61)).alloc (.cells #[.slice a n c] 38)) :=
    ((((Below.refl _ w2).alloc (Nat.le_refl _) _).alloc (by simp) _).alloc (by simp; omega) _).alloc (by simp; omega) _
  have p0 := heap_alloc_new w2 (.cells #[.slice a n c, .slice aw (wds t ps).length cw] 58)
  have b0 := Boxed.new ((w2.alloc (.cells #[.slice a n c, .slice aw (wds t ps).length cw] 58)).alloc (.cells #[] 65)) 61 (.slice (some ⟨w2.heap.size + 1, 0, none⟩) 0 0)
  have hown0 := World.ownsRow_lit (base := w2.heap.size + 1) (e := 65) (size := 2) (w2.alloc (.cells #[.slice a n c, .slice aw (wds t ps).length cw] 58)) #[] 0 (by simp) (by unfold maxLen; omega) rfl
  have u4 := (cellNew (((w2.alloc (.cells #[.slice a n c, .slice aw (wds t ps).length cw] 58)).alloc (.cells #[] 65)).alloc (.cells #[.slice (some ⟨w2.heap.size + 1, 0, none⟩) 0 0] 61)) (.slice a n c) 38).1
  simp only [World.size_alloc] at b0 u4 hown0
  have c0 := b0.alloc (.cells #[.slice a n c] 38)
  have hown1 := (hown0.alloc (.cells #[.slice (some ⟨w2.heap.size + 1, 0, none⟩) 0 0] 61)).alloc (.cells #[.slice a n c] 38)
  have hsz0 : ((((w2.alloc (.cells #[.slice a n c, .slice aw (wds t ps).length cw] 58)).alloc (.cells #[] 65)).alloc (.cells #[.slice (some ⟨w2.heap.size + 1, 0, none⟩) 0 0] 61)).alloc (.cells #[.slice a n c] 38)).heap.size = w2.heap.size + 4 := by simp
  have hp0 : ((((w2.alloc (.cells #[.slice a n c, .slice aw (wds t ps).length cw] 58)).alloc (.cells #[] 65)).alloc (.cells #[.slice (some ⟨w2.heap.size + 1, 0, none⟩) 0 0] 61)).alloc (.cells #[.slice a n c] 38)).heap[w2.heap.size]? = some (.cells #[.slice a n c, .slice aw (wds t ps).length cw] 58) := by
    rw [Below.heap_alloc _ _ _ (by simp; omega), Below.heap_alloc _ _ _ (by simp; omega), Below.heap_alloc _ _ _ (by simp)]
    exact p0
  clear b0 hown0 hbx hbx2 hbx3 p0
  obtain ⟨w0, hw0⟩ : ∃ w0, (((w2.alloc (.cells #[.slice a n c, .slice aw (wds t ps).length cw] 58)).alloc (.cells #[] 65)).alloc (.cells #[.slice (some ⟨w2.heap.size + 1, 0, none⟩) 0 0] 61)).alloc (.cells #[.slice a n c] 38) = w0 := ⟨_, rfl⟩
  rw [hw0] at c0 u4 hown1 hsz0 hB0 hp0 ⊢
  clear hw0
  have HB0 := Lib.hid hB0
  have HP0 := Lib.hid hp0
  have HO2 := Lib.hid hO2
  have hlt := G2.out.lt
  have HG2 : Hid (∀ W', Below w2.heap.size w2 W' → Gf 33 1 W W' a n c t) := Lib.hid (fun W' h => G2.out.on h)
  obtain ⟨s, hs⟩ : ∃ s, w2.heap.size = s := ⟨_, rfl⟩
  have HSs := Lib.hid hs
  rw [hs] at c0 u4 hown1 hsz0 hB0 hlt hp0
  simp only [hs]
  have hnds : Nds s w0 a n c t := by have := (HG2.out w0 HB0.out).nds; exact this.mono (by omega)
  clear hs hO2 hB0 hp0
  refine wpIn_rangeFunc_ownF rfl h1 (gf := 59) (lb := #[.pointer (some ⟨s + 1 + 1 + 1, 0, none⟩)]) rfl trivial (enters_of Try.func59 (by kernel_rfl) rfl)
    (each_stops (N - 1) (by omega) (s + 1 + 1 + 1) (s + 1) n c a t ps HV.out w0 (by omega) (by omega) u4 (hnds.mono (by omega))) KeepE.trans (keepE_b (by omega) (by omega)) (Below.refl _ _) (fun _ => rfl)
    (fun pre V => (∃ v, Boxed V (s + 1 + 1) 61 v ∧ V.ownsRow (s + 1) 65 2 v pre.length (lkc pre) ∧ (∃ g cap, v = .slice (some ⟨g, 0, none⟩) pre.length cap ∧ (g = s + 1 ∨ s + 4 ≤ g))) ∧ Below (s + 1) w0 V)
    (fun _ _ _ => False)
    (OwnFrom.and (Own.from (holdsRow_own (s + 1) (s + 1 + 1) 61 65 2 (fun pre : List (EW t ps) => pre.length) (fun pre : List (EW t ps) => lkc pre) (fun (pre : List (EW t ps)) v => ∃ g cap, v = .slice (some ⟨g, 0, none⟩) pre.length cap ∧ (g = s + 1 ∨ s + 4 ≤ g))) _) (ownFrom_below (by omega) (by omega)))
    (fun _ _ _ _ _ hs _ _ => hs)
    ⟨⟨_, c0, hown1, s + 1, 0, rfl, .inl rfl⟩, Below.refl _ _⟩
    (fun x => { tmps := #[.agg #[.slice a n c], .pointer (some ⟨W.heap.size, 0, none⟩), .string { data := #[] }, .pointer (some ⟨W.heap.size + 1, 0, none⟩), .bool false, .pointer (some ⟨s, 0, none⟩), .bool true, .pointer (some ⟨s + 1 + 1, 0, none⟩), .int .i64 (x.i : Int), undef, undef, .tuple #[.agg #[.slice a n c, .slice aw (wds t ps).length cw], .bool true], .agg #[.slice a n c], .tuple #[.agg #[.slice a n c, .slice aw (wds t ps).length cw], .bool true], .agg #[.slice a n c, .slice aw (wds t ps).length cw], .bool true, .bool true, .bool false, undef, .slice (some ⟨s + 1, 0, none⟩) 0 0, .agg #[.slice a n c],
      .func (.func 59) #[] #[.pointer (some ⟨s + 1 + 1 + 1, 0, none⟩)], .int .i64 (x.i : Int), .string (bx x.x), undef, undef, undef, undef, undef, undef, undef, undef, undef, undef, undef, undef, undef, undef, undef, undef, undef], defers := [] }) ?assign ?body ?done ?stop
  case assign =>
    intro l x V K hK
    gi_wp2
    exact hK
  case body =>
    clear c0 u4 hown1 hnds
    rintro l pre x V ⟨⟨_, hv, hrow, g, cap, rfl, hg⟩, hB⟩ hltl
    have hsz := hB.size
    have h1b : 1 ≤ N - 1 - 1 := by omega
    have hxn : x.i < n := by
      obtain ⟨d, hd, _⟩ := x.en
      have := (List.getElem?_eq_some_iff.1 hd).1
      have := HL.out
      omega
    have HR := Lib.hid hrow
    have HVb := Lib.hid hv
    have HBw := Lib.hid hB
    have hvl := hv.lt
    have HGg := Lib.hid hg
    have HBl : Hid (Below w2.heap.size w2 V) := Lib.hid (HB0.out.trans (by rw [HSs.out]; exact hB.mono (by omega)))
    have HC := Lib.hid (cS.out x.i hxn)
    have HSn : Hid (lkc (pre ++ [x]) = lkc pre ++ [Value.int .i64 1, Value.int .i64 ((wqi t (x.i : Int) : Nat) : Int)]) := Lib.hid (lkc_snoc pre x)
    clear hrow hv hB hg
    obtain ⟨m, hm⟩ : ∃ m, pre.length = m := ⟨_, rfl⟩
    have HM := Lib.hid hm
    have hm481 : m ≤ 481 := by omega
    rw [hm] at HR HVb
    clear hm
    obtain ⟨d, hd⟩ : ∃ d, wqi t (x.i : Int) = d := ⟨_, rfl⟩
    rw [hd] at HC HSn
    clear hd
    have hcv := HVb.out.cell
    have hbt := (HG2.out V HBl.out).box
    gi_wp2
    have hbtd : V.drew.cell? ⟨W.heap.size, 0, none⟩ = some (.slice a n c) := hbt
    have HGd : Hid (Gf 33 1 W V.drew a n c t) := Lib.hid (HG2.out _ (HBl.out.trans (Below.refl _ _).drew))
    have HTrie : Hid (∀ X, Below V.heap.size V X → X.cell? ⟨W.heap.size, 0, none⟩ = some (.slice a n c)) := Lib.hid (fun X hX => (HG2.out X (HBl.out.trans (hX.mono (by rw [← HSs.out] at *; exact HBl.out.size)))).box)
    refine wpIn_region_round (fun X => X.cell? ⟨W.heap.size, 0, none⟩ = some (.slice a n c)) (by kernel_rfl) (by kernel_rfl) hbtd (fun hHeld => ?_)
    refine wpAnyH_take (i := 1) (oi := _) (v := .agg #[.slice a n c]) rfl (by kernel_rfl) (by kernel_rfl) (by kernel_rfl) (fun _ _ _ h => h) (Or.inl ⟨by rfl, ?_⟩) hHeld ?_
    · intro X hX
      go_simp
    try simp only [Act.put, List.setIfInBounds_toArray]
    refine wpAnyH_take (i := 2) (oi := _) (v := .int .i64 (x.i : Int)) rfl (by kernel_rfl) (by kernel_rfl) (by kernel_rfl) (fun _ _ _ h => h) (Or.inl ⟨by rfl, ?_⟩) hHeld ?_
    · intro X hX
      go_simp
    try simp only [Act.put, List.setIfInBounds_toArray]
    refine wpAnyH_ready (rs := [0, 3]) (by kernel_rfl) (by simp) ?_
    refine AllReadyH.cons rfl (fun K hK => ?_) (AllReadyH.cons rfl (fun K hK => ?_) AllReadyH.nil)
    · rw [if_pos (by rfl)]
      go_simp
      refine hK.out _ _ hbtd (fun hHeld => ?_)
      clear hK K
      try simp only [Act.put, List.setIfInBounds_toArray]
      refine wpAnyH_ready (rs := [3]) (by kernel_rfl) (by simp) ?_
      refine AllReadyH.cons rfl (fun K hK => ?_) AllReadyH.nil
      rw [if_pos (by rfl)]
      go_simp
      go_at_call 37
      refine (HC.out _ HGd.out).mono ?_
      rintro e w6 ⟨rfl, hb6⟩
      have hB6 : Below V.heap.size V w6 := (Below.refl _ _).drew.trans hb6
      have HB6 := Lib.hid hB6
      have HVb6 := Lib.hid (box_stay HVb.out HB6.out)
      have HR6 := Lib.hid (own_stay HR.out HB6.out)
      have hz6 := HB6.out.size
      have hT6 := HTrie.out _ hB6
      have hcv6 := HVb6.out.cell
      refine hK.out _ _ hT6 (fun hHeld => ?_)
      clear hK K
      try simp only [Act.put, List.setIfInBounds_toArray]
      refine wpAnyH_ready (rs := [4]) (by kernel_rfl) (by simp) ?_
      refine AllReadyH.cons rfl (fun K hK => ?_) AllReadyH.nil
      rw [if_pos (by rfl)]
      go_simp
      refine hK.out _ _ (HTrie.out _ (hB6.alloc hB6.size _)) (fun hHeld => ?_)
      clear hK K
      try simp only [Act.put, List.setIfInBounds_toArray]
      refine wpAnyH_ready (rs := [5]) (by kernel_rfl) (by simp) ?_
      refine AllReadyH.cons rfl (fun K hK => ?_) AllReadyH.nil
      refine step_append_row (by rfl) _ _ 61 (by rfl) (s + 1) 65 i0 (.agg #[.int .i64 0, .int .i64 0]) 2 16 Try.underlying61 hi hz0 hz1 hz2 (by rfl) (by decide) (.slice (some ⟨g, 0, none⟩) m cap) m (lkc pre) (by rfl) (HR6.out.alloc _) ⟨w6.heap.size, 0, none⟩ 1 1 [.int .i64 1, .int .i64 (d : Int)] (by rfl) (by rfl) (World.news_of_block (heap_alloc_new _ _)) (by simp [Value.oneCell']) (by unfold maxLen; omega) (by omega) (by simp; omega) ?_
      intro v' w7 hown' hgrow hat
      obtain ⟨g', cap', rfl⟩ := own_succ hown'
      obtain ⟨hv1, hv2, hr2, hk2, hb2⟩ := HVb6.out.appended (by decide) HR6.out (by omega) (by omega) hown' hgrow
      have hc7 := hv1.cell
      have hf7 := hv1.frozen
      have hb67 : Below (s + 1) w6 w7 := ((Below.refl (s + 1) w6).alloc (by omega) _).trans (below_grown (HR6.out.alloc _) (Nat.le_refl _) (by simp; omega) hgrow)
      have hT7 : w7.cell? ⟨W.heap.size, 0, none⟩ = some (.slice a n c) := (hb67.cell (p := ⟨W.heap.size, 0, none⟩) (by show W.heap.size < s + 1; omega)).trans hT6
      refine hK.out _ _ hT7 (fun hHeld => ?_)
      clear hK K
      try simp only [Act.put, List.setIfInBounds_toArray]
      refine wpAnyH_ready (rs := [6]) (by kernel_rfl) (by simp) ?_
      refine AllReadyH.cons rfl (fun K hK => ?_) AllReadyH.nil
      rw [if_pos (by rfl)]
      go_simp
      have hT8 : (w7.setCell ⟨s + 1 + 1, 0, none⟩ (.slice (some ⟨g', 0, none⟩) (m + 1) cap')).cell? ⟨W.heap.size, 0, none⟩ = some (.slice a n c) := (hb2.cell (p := ⟨W.heap.size, 0, none⟩) (by show W.heap.size < s + 1; omega)).trans hT6
      refine hK.out _ _ hT8 (fun hHeld => ?_)
      clear hK K
      refine wpAnyH_done (by kernel_rfl) ?_ _
      refine Only.plain ?_
      have hl : (pre ++ [x]).length = m + 1 := by rw [List.length_append, HM.out]; rfl
      have hgg := HGg.out
      have hga : g' = g ∨ g' = w6.heap.size + 1 := by
        rcases hat with h | h
        · left; simpa [Value.ownBlock] using h
        · right; simpa [Value.ownBlock] using h
      refine ⟨(keepsOthers_of_below HB6.out).trans hk2, ⟨?_, HB6.out.mono (by omega) |>.trans hb2⟩, ⟨⟨_, hv2, ?_, g', cap', by rw [hl], by omega⟩, HBw.out.trans ((HB6.out.mono (by omega)).trans hb2)⟩⟩
      · rw [Below.heap_setCell _ _ _ _ (show s + 1 + 1 + 1 ≠ s + 1 + 1 by omega)]
        refine (hgrow.block _ (by simp; omega) (by show some (s + 1 + 1 + 1) ≠ some g; simp; omega)).trans ?_
        rw [Below.heap_alloc _ _ _ (by omega)]
        exact HB6.out.block _ (by omega)
      · rw [hl, HSn.out]
        exact hr2
    · rw [if_pos (by rfl)]
      go_simp
      go_at_call 37
      refine (HC.out _ HGd.out).mono ?_
      rintro e w6 ⟨rfl, hb6⟩
      have hB6 : Below V.heap.size V w6 := (Below.refl _ _).drew.trans hb6
      have HB6 := Lib.hid hB6
      have HVb6 := Lib.hid (box_stay HVb.out HB6.out)
      have HR6 := Lib.hid (own_stay HR.out HB6.out)
      have hz6 := HB6.out.size
      have hT6 := HTrie.out _ hB6
      have hcv6 := HVb6.out.cell
      refine hK.out _ _ hT6 (fun hHeld => ?_)
      clear hK K
      try simp only [Act.put, List.setIfInBounds_toArray]
      refine wpAnyH_ready (rs := [0, 4]) (by kernel_rfl) (by simp) ?_
      refine AllReadyH.cons rfl (fun K hK => ?_) (AllReadyH.cons rfl (fun K hK => ?_) AllReadyH.nil)
      · rw [if_pos (by rfl)]
        go_simp
        refine hK.out _ _ hT6 (fun hHeld => ?_)
        clear hK K
        try simp only [Act.put, List.setIfInBounds_toArray]
        refine wpAnyH_ready (rs := [4]) (by kernel_rfl) (by simp) ?_
        refine AllReadyH.cons rfl (fun K hK => ?_) AllReadyH.nil
        rw [if_pos (by rfl)]
        go_simp
        refine hK.out _ _ (HTrie.out _ (hB6.alloc hB6.size _)) (fun hHeld => ?_)
        clear hK K
        try simp only [Act.put, List.setIfInBounds_toArray]
        refine wpAnyH_ready (rs := [5]) (by kernel_rfl) (by simp) ?_
        refine AllReadyH.cons rfl (fun K hK => ?_) AllReadyH.nil
        refine step_append_row (by rfl) _ _ 61 (by rfl) (s + 1) 65 i0 (.agg #[.int .i64 0, .int .i64 0]) 2 16 Try.underlying61 hi hz0 hz1 hz2 (by rfl) (by decide) (.slice (some ⟨g, 0, none⟩) m cap) m (lkc pre) (by rfl) (HR6.out.alloc _) ⟨w6.heap.size, 0, none⟩ 1 1 [.int .i64 1, .int .i64 (d : Int)] (by rfl) (by rfl) (World.news_of_block (heap_alloc_new _ _)) (by simp [Value.oneCell']) (by unfold maxLen; omega) (by omega) (by simp; omega) ?_
        intro v' w7 hown' hgrow hat
        obtain ⟨g', cap', rfl⟩ := own_succ hown'
        obtain ⟨hv1, hv2, hr2, hk2, hb2⟩ := HVb6.out.appended (by decide) HR6.out (by omega) (by omega) hown' hgrow
        have hc7 := hv1.cell
        have hf7 := hv1.frozen
        have hb67 : Below (s + 1) w6 w7 := ((Below.refl (s + 1) w6).alloc (by omega) _).trans (below_grown (HR6.out.alloc _) (Nat.le_refl _) (by simp; omega) hgrow)
        have hT7 : w7.cell? ⟨W.heap.size, 0, none⟩ = some (.slice a n c) := (hb67.cell (p := ⟨W.heap.size, 0, none⟩) (by show W.heap.size < s + 1; omega)).trans hT6
        refine hK.out _ _ hT7 (fun hHeld => ?_)
        clear hK K
        try simp only [Act.put, List.setIfInBounds_toArray]
        refine wpAnyH_ready (rs := [6]) (by kernel_rfl) (by simp) ?_
        refine AllReadyH.cons rfl (fun K hK => ?_) AllReadyH.nil
        rw [if_pos (by rfl)]
        go_simp
        have hT8 : (w7.setCell ⟨s + 1 + 1, 0, none⟩ (.slice (some ⟨g', 0, none⟩) (m + 1) cap')).cell? ⟨W.heap.size, 0, none⟩ = some (.slice a n c) := (hb2.cell (p := ⟨W.heap.size, 0, none⟩) (by show W.heap.size < s + 1; omega)).trans hT6
        refine hK.out _ _ hT8 (fun hHeld => ?_)
        clear hK K
        refine wpAnyH_done (by kernel_rfl) ?_ _
        refine Only.plain ?_
        have hl : (pre ++ [x]).length = m + 1 := by rw [List.length_append, HM.out]; rfl
        have hgg := HGg.out
        have hga : g' = g ∨ g' = w6.heap.size + 1 := by
          rcases hat with h | h
          · left; simpa [Value.ownBlock] using h
          · right; simpa [Value.ownBlock] using h
        refine ⟨(keepsOthers_of_below HB6.out).trans hk2, ⟨?_, HB6.out.mono (by omega) |>.trans hb2⟩, ⟨⟨_, hv2, ?_, g', cap', by rw [hl], by omega⟩, HBw.out.trans ((HB6.out.mono (by omega)).trans hb2)⟩⟩
        · rw [Below.heap_setCell _ _ _ _ (show s + 1 + 1 + 1 ≠ s + 1 + 1 by omega)]
          refine (hgrow.block _ (by simp; omega) (by show some (s + 1 + 1 + 1) ≠ some g; simp; omega)).trans ?_
          rw [Below.heap_alloc _ _ _ (by omega)]
          exact HB6.out.block _ (by omega)
        · rw [hl, HSn.out]
          exact hr2
      · rw [if_pos (by rfl)]
        go_simp
        refine hK.out _ _ (HTrie.out _ (hB6.alloc hB6.size _)) (fun hHeld => ?_)
        clear hK K
        try simp only [Act.put, List.setIfInBounds_toArray]
        refine wpAnyH_ready (rs := [0]) (by kernel_rfl) (by simp) ?_
        refine AllReadyH.cons rfl (fun K hK => ?_) AllReadyH.nil
        rw [if_pos (by rfl)]
        have hcv9 := (HVb6.out.alloc (.cells #[.int .i64 1, .int .i64 (d : Int)] 65)).cell
        go_simp
        refine hK.out _ _ (HTrie.out _ (hB6.alloc hB6.size _)) (fun hHeld => ?_)
        clear hK K
        try simp only [Act.put, List.setIfInBounds_toArray]
        refine wpAnyH_ready (rs := [5]) (by kernel_rfl) (by simp) ?_
        refine AllReadyH.cons rfl (fun K hK => ?_) AllReadyH.nil
        refine step_append_row (by rfl) _ _ 61 (by rfl) (s + 1) 65 i0 (.agg #[.int .i64 0, .int .i64 0]) 2 16 Try.underlying61 hi hz0 hz1 hz2 (by rfl) (by decide) (.slice (some ⟨g, 0, none⟩) m cap) m (lkc pre) (by rfl) (HR6.out.alloc _) ⟨w6.heap.size, 0, none⟩ 1 1 [.int .i64 1, .int .i64 (d : Int)] (by rfl) (by rfl) (World.news_of_block (heap_alloc_new _ _)) (by simp [Value.oneCell']) (by unfold maxLen; omega) (by omega) (by simp; omega) ?_
        intro v' w7 hown' hgrow hat
        obtain ⟨g', cap', rfl⟩ := own_succ hown'
        obtain ⟨hv1, hv2, hr2, hk2, hb2⟩ := HVb6.out.appended (by decide) HR6.out (by omega) (by omega) hown' hgrow
        have hc7 := hv1.cell
        have hf7 := hv1.frozen
        have hb67 : Below (s + 1) w6 w7 := ((Below.refl (s + 1) w6).alloc (by omega) _).trans (below_grown (HR6.out.alloc _) (Nat.le_refl _) (by simp; omega) hgrow)
        have hT7 : w7.cell? ⟨W.heap.size, 0, none⟩ = some (.slice a n c) := (hb67.cell (p := ⟨W.heap.size, 0, none⟩) (by show W.heap.size < s + 1; omega)).trans hT6
        refine hK.out _ _ hT7 (fun hHeld => ?_)
        clear hK K
        try simp only [Act.put, List.setIfInBounds_toArray]
        refine wpAnyH_ready (rs := [6]) (by kernel_rfl) (by simp) ?_
        refine AllReadyH.cons rfl (fun K hK => ?_) AllReadyH.nil
        rw [if_pos (by rfl)]
        go_simp
        have hT8 : (w7.setCell ⟨s + 1 + 1, 0, none⟩ (.slice (some ⟨g', 0, none⟩) (m + 1) cap')).cell? ⟨W.heap.size, 0, none⟩ = some (.slice a n c) := (hb2.cell (p := ⟨W.heap.size, 0, none⟩) (by show W.heap.size < s + 1; omega)).trans hT6
        refine hK.out _ _ hT8 (fun hHeld => ?_)
        clear hK K
        refine wpAnyH_done (by kernel_rfl) ?_ _
        refine Only.plain ?_
        have hl : (pre ++ [x]).length = m + 1 := by rw [List.length_append, HM.out]; rfl
        have hgg := HGg.out
        have hga : g' = g ∨ g' = w6.heap.size + 1 := by
          rcases hat with h | h
          · left; simpa [Value.ownBlock] using h
          · right; simpa [Value.ownBlock] using h
        refine ⟨(keepsOthers_of_below HB6.out).trans hk2, ⟨?_, HB6.out.mono (by omega) |>.trans hb2⟩, ⟨⟨_, hv2, ?_, g', cap', by rw [hl], by omega⟩, HBw.out.trans ((HB6.out.mono (by omega)).trans hb2)⟩⟩
        · rw [Below.heap_setCell _ _ _ _ (show s + 1 + 1 + 1 ≠ s + 1 + 1 by omega)]
          refine (hgrow.block _ (by simp; omega) (by show some (s + 1 + 1 + 1) ≠ some g; simp; omega)).trans ?_
          rw [Below.heap_alloc _ _ _ (by omega)]
          exact HB6.out.block _ (by omega)
        · rw [hl, HSn.out]
          exact hr2
  case done =>
    clear c0 u4 hown1 hnds
    rintro Dm ys V hD hys ⟨⟨_, hv, hrow, g, cap, rfl, hg⟩, hB⟩ hK
    have HBl : Hid (Below w2.heap.size w2 V) := Lib.hid (HB0.out.trans (by rw [HSs.out]; exact hB.mono (by omega)))
    have hxs : ys.map EW.x = wds t ps := by
      have h9 := pls_all HV.out
      rw [← hys, List.map_map] at h9
      exact h9
    have hly : ys.length = (wds t ps).length := by rw [← hxs, List.length_map]
    obtain ⟨dl, hdl⟩ : ∃ dl, (wds t ps).map (dOf t ps) = dl := ⟨_, rfl⟩
    have hdl2 : ys.map (fun y => wqi t (y.i : Int)) = dl := by
      rw [← hdl, ← hxs, List.map_map]
      apply List.map_congr_left
      intro y _
      exact (dOf_at HV.out y.at').symm
    have hlk : lkc ys = dl.flatMap fun (d : Nat) => [Value.int .i64 1, Value.int .i64 (d : Int)] := by
      rw [← hdl2, List.flatMap_map]
      rfl
    have hll : dl.length = (wds t ps).length := by rw [← hdl, List.length_map]
    have HDb : Hid (∀ d ∈ dl, d ≤ 549755813888) := Lib.hid (fun d hd => by
      rw [← hdl2] at hd
      obtain ⟨y, _, rfl⟩ := List.mem_map.1 hd
      have hin : y.i < n := by
        obtain ⟨d, hd, _⟩ := y.en
        have := (List.getElem?_eq_some_iff.1 hd).1
        have := HL.out
        omega
      exact (wqi_bound HV.out HW.out (by rw [HL.out]; exact hin)).2.1)
    rw [hlk, hly] at hrow
    obtain ⟨m, hm⟩ : ∃ m, (wds t ps).length = m := ⟨_, rfl⟩
    have HMm := Lib.hid hm
    have hm0 : 0 < m := by rw [← hm]; exact HW.out
    have hm40 : m ≤ 40 := by rw [← hm]; exact h40
    rw [hm] at hrow hll
    rw [hly, hm] at hv
    obtain ⟨hFR, hmc, hcm⟩ := FRow.of_own hll hrow
    have HFR := Lib.hid hFR
    have cFG0 := firstGreatest_any V.heap.size g m cap (dl.map fun d => (1, d)) V (Nat.le_refl _) hFR hm0 hmc hcm (fun p hp q hq => by
      obtain ⟨d1, h1, rfl⟩ := List.mem_map.1 hp
      obtain ⟨d2, h2, rfl⟩ := List.mem_map.1 hq
      have := HDb.out d2 h2
      simp only
      omega)
    have HLK : Hid (∀ r, FgAt (dl.map fun d => (1, d)) (grt (dl.map fun d => (1, d)) (m - 1)) r → (wds t ps)[r]? = some sx ∧ grt (dl.map fun d => (1, d)) (m - 1) = (1, D)) := Lib.hid (fun r hr => by
      rw [← hll] at hr
      obtain ⟨D2, e1, e2⟩ := lk_of_fg (by rw [hll]; exact hm0) hr
      obtain ⟨r2, e3, e4⟩ := HLk.out
      rw [hdl] at e4
      obtain ⟨rfl, rfl⟩ := LkAt.uniq e2 e4
      rw [← hll]
      exact ⟨e3, e1⟩)
    obtain ⟨gp, hgp⟩ : ∃ gp, grt (dl.map fun d => (1, d)) (m - 1) = gp := ⟨_, rfl⟩
    rw [hgp] at cFG0 HLK
    have cFG := Lib.hid cFG0
    have hcv := hv.cell
    clear cFG0 hFR hlk hdl hdl2 hgp hxs hly hll hys
    have hVs : V.heap[s]? = some (.cells #[.slice a n c, .slice aw m cw] 58) := by
      have h9 := HP0.out
      rw [HSs.out, HMm.out] at h9
      exact (hB.block s (by omega)).trans h9
    have HVs := Lib.hid hVs
    obtain ⟨gp1, gp2⟩ := gp
    simp only [fv_mk] at cFG
    have hO2 := HO2.out
    simp only [HMm.out] at hO2 ⊢
    have HW2 := Lib.hid (Sl.of_own hO2)
    have HKd := Lib.hid hK
    have HBB := Lib.hid hB
    have hszV := hB.size
    clear hO2 hVs hK hB hv hrow
    gi_wp2_with (first
      | (refine ⟨trivial, ?_⟩; gi_at_call 38; refine (callsIn_wide.2 cFG.out).mono ?_; rintro e w5 ⟨r, rfl, hfg, hb5⟩; obtain ⟨hrs, hgd⟩ := HLK.out r hfg; obtain ⟨rfl, rfl⟩ := Prod.mk.inj hgd; clear hgd hfg; have HRs := Lib.hid hrs; have HB5 := Lib.hid hb5; clear hrs hb5))
    have hb6 : Below V.heap.size V (w5.alloc (.cells #[.int .i64 1, .int .i64 (gp2 : Int)] 65)) := HB5.out.alloc HB5.out.size _
    have hx6 := heap_alloc_new w5 (.cells #[.int .i64 1, .int .i64 (gp2 : Int)] 65)
    have hz56 : V.heap.size ≤ w5.heap.size := HB5.out.size
    have hz6 : w5.heap.size < (w5.alloc (.cells #[.int .i64 1, .int .i64 (gp2 : Int)] 65)).heap.size := by simp
    obtain ⟨w6, hw6⟩ : ∃ w6, w5.alloc (.cells #[.int .i64 1, .int .i64 (gp2 : Int)] 65) = w6 := ⟨_, rfl⟩
    rw [hw6] at hb6 hx6 hz6 ⊢
    clear hw6
    have HB6 := Lib.hid hb6
    have hG6 := HG2.out w6 (HBl.out.trans (hb6.mono HBl.out.size))
    have HG6 := Lib.hid hG6
    obtain ⟨x1, x2, _, _⟩ := frozen_new2 hx6
    obtain ⟨f1, f2, f3, f4⟩ := frozen_new2 hG6.res
    have hs6 : w6.heap[s]? = some (.cells #[.slice a n c, .slice aw m cw] 58) := (hb6.block s (by omega)).trans HVs.out
    have y2 : w6.cell? ⟨s, 1, none⟩ = some (.slice aw m cw) := by simp [World.cell?, hs6]
    have hrm : r < m := by have := (List.getElem?_eq_some_iff.1 HRs.out).1; rw [HMm.out] at this; exact this
    obtain ⟨bw, ow, rfl, hbw, hcw⟩ := HW2.out.spot r (.string (bx sx)) (by rw [List.getElem?_map, HRs.out]; rfl)
    have hcr : w6.cell? ⟨bw, ow + r, none⟩ = some (.string (bx sx)) := ((HBl.out.trans (hb6.mono HBl.out.size)).cell (p := ⟨bw, ow + r, none⟩) hbw).trans hcw
    have hmcw := HW2.out.cap
    have hcwt := HW2.out.top
    have hr0 : (0 : Int) ≤ (r : Int) := by omega
    have hrmi : (r : Int) < (m : Int) := by omega
    have hK6 : w6.heap[Dm]? = some (.deferred (some [])) := (hb6.block Dm (Array.getElem?_eq_some_iff.1 HKd.out).1).trans HKd.out
    have HK6 := Lib.hid hK6
    clear hb6 hx6 hG6 hs6 hcw hK6
    refine Go.wpIn_mono (Q := Only _) (wpIn_wide.2 ?_) Only.imp
    go_region_with (fail)
    all_goals
      refine Only.plain ?_
      go_simp
      gi_wp2
      have hE := HG6.out.end' (.int .i64 1) (.int .i64 (gp2 : Int))
      have hK' : ((w6.setCell ⟨W.heap.size + 1, 0, none⟩ (.int .i64 1)).setCell ⟨W.heap.size + 1, 1, none⟩ (.int .i64 (gp2 : Int))).drew.heap[Dm]? = some (.deferred (some [])) := ((KeepsOthers.setCell w6 ⟨W.heap.size + 1, 0, none⟩ (.int .i64 1)).trans (KeepsOthers.setCell _ ⟨W.heap.size + 1, 1, none⟩ (.int .i64 (gp2 : Int)))).same Dm _ HK6.out rfl
      refine ⟨by simp, .inl ⟨_, _, rfl, run_takeDeferred hK', ?_⟩⟩
      have hc5 := cell_kept (W := ((w6.setCell ⟨W.heap.size + 1, 0, none⟩ (.int .i64 1)).setCell ⟨W.heap.size + 1, 1, none⟩ (.int .i64 (gp2 : Int))).drew) hE.1.1 (grownBy_putObj' _ Dm (.deferred none)) (fun r e => by cases e; exact ⟨_, hK', rfl⟩)
      have hc6 := cell_kept (W := ((w6.setCell ⟨W.heap.size + 1, 0, none⟩ (.int .i64 1)).setCell ⟨W.heap.size + 1, 1, none⟩ (.int .i64 (gp2 : Int))).drew) hE.1.2 (grownBy_putObj' _ Dm (.deferred none)) (fun r e => by cases e; exact ⟨_, hK', rfl⟩)
      refine ⟨.tuple #[.string (bx sx), .agg #[.int .i64 1, .int .i64 (gp2 : Int)], .bool true], ?_, rfl, ?_⟩
      · simp [results, Try.f16, go_sem, hc5, hc6]
      · exact hE.2.drew.trans (belowK_b (w := w0) (by omega) _ Dm _ _ hD hK' rfl rfl)
  case stop =>
    rintro D c' pre W _ _ h _
    exact h.elim

end Go.Proofs.Ythjafoacnfgjhac

/-
  The likeliest word of a descent: the program, at what has none.
-/
namespace Go.Proofs.Ythjafoacnfgjhac
open Go.RowKit Go.Shelf
set_option linter.unusedVariables false
set_option linter.unusedSimpArgs false

attribute [local go_sem] Oper.semAt_some

set_option maxRecDepth 1000000 in
set_option maxHeartbeats 2000000 in
theorem likeliest_not (N : Nat) (hN3 : 3 ≤ N) (a : Option Addr) (n c : Nat) (t : List Nd) (hp : potB t = false) (W : World) (hN : Nds W.heap.size W a n c t) :
    CallsIn Fence.wide N Try.prog 16 #[.agg #[.slice a n c]] W fun e w' => e = .returned (.tuple #[.string ByteArray.empty, .agg #[.int .i64 0, .int .i64 0], .bool false]) ∧ Below W.heap.size W w' := by
  have h1 : 1 ≤ N := by omega
  have G0 := Lib.hid (Gf.start 33 hN)
  have cD := Lib.hid (fun W' (G : Gf 33 1 W W' a n c t) => potOf_any W.heap.size a n c t W' (Nat.le_of_lt G.size) G.nds)
  rw [hp] at cD
  have hbx := G0.out.box
  clear hN hp
  refine callsIn_of_wp_marks Try.func16 rfl trivial ?_ rfl
  simp only [Try.ntmps16, List.size_toArray, List.length_cons, List.length_nil, Nat.reduceAdd, Nat.reduceSub, Array.replicate_succ, Array.replicate_zero, List.push_toArray, List.append_toArray, List.nil_append, List.cons_append]
  gi_wp2_with (refine ⟨trivial, ?_⟩; gi_at_call 35; refine (callsIn_wide.2 (cD.out _ G0.out)).mono ?_; rintro e w2 ⟨aw, cw, rfl, hO2, hb2⟩; have G2' := Lib.hid (G0.out.on hb2); have G2 : Hid (Gf 33 1 W (w2.alloc (.cells #[.slice a n c, .slice aw (wordsOf t).length cw] 58)) a n c t) := Lib.hid (G2'.out.on ((Below.refl _ _).alloc (Nat.le_refl _) _)); obtain ⟨f1, f2, f3, f4⟩ := G2.out.open; obtain ⟨hE, hB9⟩ := G2.out.end' (.int .i64 0) (.int .i64 0); have HE := Lib.hid hE; have HB9 := Lib.hid hB9; clear hb2 hO2 hbx hE hB9)
  generalize (((w2.alloc (.cells #[.slice a n c, .slice aw (wordsOf t).length cw] 58)).setCell ⟨W.heap.size + 1, 0, none⟩ (.int .i64 0)).setCell ⟨W.heap.size + 1, 1, none⟩ (.int .i64 0)) = W9 at *
  obtain ⟨hc0, hc1⟩ := HE.out
  refine ⟨.tuple #[.string ByteArray.empty, .agg #[.int .i64 0, .int .i64 0], .bool false], ?_, rfl, HB9.out⟩
  simp [results, Try.f16, go_sem, hc0, hc1]
  try rfl

end Go.Proofs.Ythjafoacnfgjhac

/-
  LikeliestDescent: the reference and the program answer the same.
-/
namespace Go.Proofs.Ythjafoacnfgjhac
open Go.RowKit
set_option linter.unusedVariables false

theorem valid_same {t : List Nd} {ps qs : List Txt} (h : Valid t ps) (g : Valid t qs) : ps = qs := by
  apply List.ext_getElem?
  intro i
  by_cases hi : i < t.length
  · exact tells_uniq h.tells g.tells i hi hi
  · rw [List.getElem?_eq_none (by rw [h.lenEq]; omega), List.getElem?_eq_none (by rw [g.lenEq]; omega)]

theorem agreeLikeliestDescent (t : List Nd) (n c : Nat) (hn : n ≤ 1048576) : ∃ (v : ByteArray) (x : Nat × Nat) (ok : Bool),
    (∀ (W : World) (a : Option Addr), Nds W.heap.size W a n c t → Calls Try.prog 14 #[.agg #[.slice a n c]] W fun e w' => e = .returned (.tuple #[.string v, fv x, .bool ok]) ∧ Below W.heap.size W w') ∧
    (∀ (W : World) (a : Option Addr), Nds W.heap.size W a n c t → Calls Try.prog 16 #[.agg #[.slice a n c]] W fun e w' => e = .returned (.tuple #[.string v, fv x, .bool ok]) ∧ Below W.heap.size W w') := by
  cases hp : potB t with
  | false =>
    refine ⟨ByteArray.empty, (0, 0), false, fun W a h => ?_, fun W a h => ?_⟩
    · have := specLikeliest_any t n c hn ByteArray.empty (0, 0) (fun e => by rw [hp] at e; cases e) (fun _ => ⟨rfl, rfl⟩) W a h
      rw [hp] at this
      exact this
    · exact callsIn_wide.1 (likeliest_not 3 (by omega) a n c t hp W h)
  | true =>
    obtain ⟨⟨ps, hv⟩, hm⟩ := potB_yes hp
    rw [wordsOf_eq hv] at hm
    obtain ⟨r, D, hlk⟩ := LkAt.ex ((wds t ps).map (dOf t ps)) (by rw [List.length_map]; exact hm)
    obtain ⟨sx, hsx⟩ : ∃ sx, (wds t ps)[r]? = some sx := by
      have h1 := (List.getElem?_eq_some_iff.1 hlk.at').1
      rw [List.length_map] at h1
      exact ⟨_, List.getElem?_eq_getElem h1⟩
    have hIs : LkIs t ps sx D := ⟨r, hsx, hlk⟩
    refine ⟨bx sx, (1, D), true, fun W a h => ?_, fun W a h => ?_⟩
    · have := specLikeliest_any t n c hn (bx sx) (1, D) (fun _ qs hq _ => by
        rw [← valid_same hv hq]
        exact ⟨D, rfl, hIs⟩) (fun e => by rw [hp] at e; cases e) W a h
      rw [hp] at this
      exact this
    · exact callsIn_wide.1 (likeliest_in 3 (by omega) a n c t ps hv hm hp W h sx D hIs)

end Go.Proofs.Ythjafoacnfgjhac
