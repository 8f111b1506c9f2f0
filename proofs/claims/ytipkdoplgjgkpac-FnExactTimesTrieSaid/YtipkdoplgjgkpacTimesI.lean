/-
  The products of the words of two tries: the program.
-/
import Derived.RangeFuncFrom
import Derived.RangeFuncNested
import Derived.RangeFuncBox
import Derived.RangeFuncWrites
import Derived.Test.YtipkdoplgjgkpacTimesS
import Derived.Test.YtipkdoplgjgkpacEach
import Derived.Test.YtipkdoplgjgkpacFreeM
import Derived.Test.YtipkdoplgjgkpacImplTrieOf
namespace Go.Proofs.Ytipkdoplgjgkpac
open Go.RowKit Go.Shelf
set_option linter.unusedVariables false

attribute [local go_sem] Oper.semAt_some

/-- what the loops have told: whole rows, and the row that is under way -/
def tmsP {t : List Nd} {ps : List Txt} (us : List Txt) (pre : List (EW t ps)) : List Txt := prods (pre.map EW.x) us
def tmsQ {t u : List Nd} {ps qs : List Txt} (us : List Txt) (pre : List (EW t ps)) (x : Txt) (pre' : List (EW u qs)) : List Txt := tmsP us pre ++ pre'.map fun y => x ++ y.x

theorem tmsQ_nil {t u : List Nd} {ps qs : List Txt} (us : List Txt) (pre : List (EW t ps)) (x : Txt) : tmsQ us pre x ([] : List (EW u qs)) = tmsP us pre := by simp [tmsQ]
theorem tmsQ_snoc {t u : List Nd} {ps qs : List Txt} (us : List Txt) (pre : List (EW t ps)) (x : Txt) (pre' : List (EW u qs)) (y : EW u qs) : tmsQ us pre x (pre' ++ [y]) = tmsQ us pre x pre' ++ [x ++ y.x] := by simp [tmsQ]
theorem tmsP_snoc {t u : List Nd} {ps qs : List Txt} (us : List Txt) (pre : List (EW t ps)) (x : EW t ps) (ys : List (EW u qs)) (h : ys.map EW.x = us) : tmsQ us pre x.x ys = tmsP us (pre ++ [x]) := by
  have e : (ys.map fun y => x.x ++ y.x) = us.map fun y => x.x ++ y := by rw [← h, List.map_map]; rfl
  unfold tmsQ tmsP prods
  rw [e, List.map_append, List.flatMap_append]
  simp
theorem tmsQ_len {t u : List Nd} {ps qs : List Txt} (us : List Txt) (h : us.length ≤ 40) (pre : List (EW t ps)) (x : Txt) (pre' : List (EW u qs)) : (tmsQ us pre x pre').length ≤ 40 * pre.length + pre'.length := by
  unfold tmsQ tmsP
  have := prods_len (pre.map EW.x) us h
  rw [List.length_map] at this
  rw [List.length_append, List.length_map]
  omega

set_option maxRecDepth 1000000 in
set_option maxHeartbeats 4000000 in
theorem timesTrie_in (N : Nat) (hN3 : 8 ≤ N) (a : Option Addr) (n c : Nat) (t : List Nd) (ps : List Txt) (hv : Valid t ps) (b : Option Addr) (k d : Nat) (u : List Nd) (qs : List Txt) (hu : Valid u qs) (hr : (trieB t && trieB u) = true) (W : World) (hN : Nds W.heap.size W a n c t) (hM : Nds W.heap.size W b k d u) (xs : List Txt) (hxs : timesL t u = xs) (tt : List Nd) (ok : Bool) (htt : tofT xs = tt) (hok : setOk xs = ok) :
    CallsIn Fence.wide N Try.prog 18 #[.agg #[.slice a n c], .agg #[.slice b k d]] W (TrieRes W tt ok) := by
  have h1 : 1 ≤ N := by omega
  have G1 := Lib.hid (Gv2R.start hN hM)
  have cT := Lib.hid (fun (W' : World) (G : Gv2R W W' a n c t b k d u) => areTries_any W.heap.size a n c t b k d u W' G.size G.gv.nds G.gv.mds)
  rw [hr] at cT
  have HV := Lib.hid hv
  have HU := Lib.hid hu
  have HUs : Hid (wordsOf u = wds u qs) := Lib.hid (wordsOf_eq hu)
  have HTs : Hid (wordsOf t = wds t ps) := Lib.hid (wordsOf_eq hv)
  have h41 := wordsOf_size u
  have HXs : Hid (prods (wordsOf t) (wordsOf u) = xs) := Lib.hid hxs
  obtain ⟨us, hus⟩ : ∃ us, wordsOf u = us := ⟨_, rfl⟩
  rw [hus] at HUs HXs h41
  have HSh3 : Hid (∀ x ∈ xs, x.length ≤ 24) := Lib.hid (by rw [← hxs]; exact prods_short (wordsOf_short t) (wordsOf_short u))
  have HTT := Lib.hid htt
  have HOK := Lib.hid hok
  obtain ⟨i0, hi, hz0, hz1, hz2⟩ := info_parts infoS
  clear hN hM hv hu hr hxs htt hok hus
  obtain ⟨hbx, hby⟩ := G1.out.see
  refine callsIn_of_wp_marks Try.func18 rfl trivial ?_ rfl
  simp only [Try.ntmps18, List.size_toArray, List.length_cons, List.length_nil, Nat.reduceAdd, Nat.reduceSub, Array.replicate_succ, Array.replicate_zero, List.push_toArray, List.append_toArray, List.nil_append, List.cons_append]
  gi_wp2_with (first
    | (refine ⟨trivial, ?_⟩; gi_at_call 37; refine (callsIn_wide.2 (cT.out _ G1.out)).mono ?_; rintro e w2 ⟨rfl, hb2⟩; have G2 := Lib.hid (G1.out.on hb2); have hbx2 := G2.out.see.1; have hbx3 := cellOld (.cells #[.slice (some ⟨w2.heap.size, 0, none⟩) 0 0] 39) (cellOld (.cells #[] 9) hbx2); clear hb2 hbx hby)
    | (refine ⟨trivial, ?_⟩; gi_at_call 39; refine (eachWord_in (N - 1) a n c _).mono ?_; rintro e w3 ⟨rfl, rfl⟩))
  have hB0 : Below w2.heap.size w2 (((w2.alloc (.cells #[] 9)).alloc (.cells #[.slice (some ⟨w2.heap.size, 0, none⟩) 0 0] 39)).alloc (.cells #[.slice a n c] 30)) :=
    (((Below.refl _ w2).alloc (Nat.le_refl _) _).alloc (by simp) _).alloc (by simp; omega) _
  have b0 := Boxed.new (w2.alloc (.cells #[] 9)) 39 (.slice (some ⟨w2.heap.size, 0, none⟩) 0 0)
  have hown0 := lit0 w2
  have u4 := Boxed.new ((w2.alloc (.cells #[] 9)).alloc (.cells #[.slice (some ⟨w2.heap.size, 0, none⟩) 0 0] 39)) 30 (.slice a n c)
  simp only [World.size_alloc] at b0 u4
  have c0 := b0.alloc (.cells #[.slice a n c] 30)
  have hown1 := (hown0.alloc (.cells #[.slice (some ⟨w2.heap.size, 0, none⟩) 0 0] 39)).alloc (.cells #[.slice a n c] 30)
  have hsz0 : (((w2.alloc (.cells #[] 9)).alloc (.cells #[.slice (some ⟨w2.heap.size, 0, none⟩) 0 0] 39)).alloc (.cells #[.slice a n c] 30)).heap.size = w2.heap.size + 3 := by simp
  clear b0 hown0 hbx2 hbx3
  obtain ⟨w0, hw0⟩ : ∃ w0, ((w2.alloc (.cells #[] 9)).alloc (.cells #[.slice (some ⟨w2.heap.size, 0, none⟩) 0 0] 39)).alloc (.cells #[.slice a n c] 30) = w0 := ⟨_, rfl⟩
  rw [hw0] at c0 u4 hown1 hsz0 hB0 ⊢
  clear hw0
  have HB0 := Lib.hid hB0
  have hres := G2.out.res.lt
  have HG2 : Hid (∀ W', Below w2.heap.size w2 W' → Gv2R W W' a n c t b k d u) := Lib.hid (fun W' h => G2.out.on h)
  obtain ⟨s, hs⟩ : ∃ s, w2.heap.size = s := ⟨_, rfl⟩
  have HSs := Lib.hid hs
  rw [hs] at c0 u4 hown1 hsz0 hB0 hres
  simp only [hs]
  have HB0s : Hid (∀ W', Below s w0 W' → Below w2.heap.size w2 W') := Lib.hid (fun W' h => HB0.out.trans (by rw [HSs.out]; exact h))
  have hnds : Nds s w0 a n c t := by have := (HG2.out w0 HB0.out).gv.nds; exact this.mono (by omega)
  have hmds : Nds s w0 b k d u := by have := (HG2.out w0 HB0.out).gv.mds; exact this.mono (by omega)
  have HMds := Lib.hid hmds
  clear hs
  have HS0 := Lib.hid hsz0
  refine wpIn_rangeFunc_ownH rfl h1 (gf := 74) (lb := #[.pointer (some ⟨s + 1 + 1, 0, none⟩)]) rfl trivial (enters_of Try.func74 (by kernel_rfl) rfl)
    (each_stops (N - 1) (by omega) (s + 1 + 1) s n c a t ps HV.out w0 (by omega) (by omega) u4.cell hnds) KeepE.trans (keepE_b (by omega) (by omega)) (Below.refl _ _) (fun _ => rfl)
    (fun pre V => ((∃ v, Boxed V (s + 1) 39 v ∧ V.ownsRow s 9 1 v (tmsP us pre).length ((tmsP us pre).map fun x => Value.string (bx x)) ∧ (∃ g cap, v = .slice (some ⟨g, 0, none⟩) (tmsP us pre).length cap)) ∧ Boxed V (s + 1 + 1) 30 (.slice a n c)) ∧ Below s w0 V)
    (fun _ _ _ => False)
    (OwnFrom.and (OwnFrom.and (Own.from (holdsRow_own s (s + 1) 39 9 1 (fun pre : List (EW t ps) => (tmsP us pre).length) (fun pre : List (EW t ps) => (tmsP us pre).map fun x => Value.string (bx x)) (fun (pre : List (EW t ps)) v => ∃ g cap, v = .slice (some ⟨g, 0, none⟩) (tmsP us pre).length cap)) _) (Own.from (boxed_own _ _ _) _)) (ownFrom_below (by omega) (by omega)))
    (fun _ _ _ _ _ hs _ _ => hs)
    ⟨⟨⟨_, c0, hown1, s, 0, rfl⟩, u4⟩, Below.refl _ _⟩
    (fun x a' V => ∃ Bx v, s + 1 + 1 < Bx ∧ Boxed V Bx 9 (.string (bx x.x)) ∧ Boxed V (s + 1) 39 v ∧ (∀ g, v.ownBlock = some g → g ≠ Bx) ∧ a' = { tmps := #[.agg #[.slice a n c], .agg #[.slice b k d], .pointer (some ⟨W.heap.size, 0, none⟩), .pointer (some ⟨W.heap.size + 1, 0, none⟩), .pointer (some ⟨W.heap.size + 1 + 1, 0, none⟩), .bool false, .pointer (some ⟨s + 1, 0, none⟩), undef, .pointer (some ⟨Bx, 0, none⟩), undef, undef, .agg #[.slice a n c], .agg #[.slice b k d], .bool true, .bool false, undef, .slice (some ⟨s, 0, none⟩) 0 0, .agg #[.slice a n c],
      .func (.func 74) #[] #[.pointer (some ⟨s + 1 + 1, 0, none⟩)], .int .i64 (x.i : Int), .string (bx x.x), undef, undef, undef, undef, undef, undef, undef, undef, undef, undef, undef, undef, undef, undef], defers := [] })
    (fun x a' _ X Y row hs hg hr => by
      obtain ⟨Bx, v, q1, q2, q3, q4, q5⟩ := hs
      exact ⟨Bx, v, q1, boxed_own Bx 9 (fun (_ : Unit) => Value.string (bx x.x)) () X Y row q2 hg (fun r e => (hr r e).2), boxed_own (s + 1) 39 (fun (_ : Unit) => v) () X Y row q3 hg (fun r e => (hr r e).2), q4, q5⟩)
    ?assign ?body ?done ?stop
  case assign =>
    rintro l pre x V K ⟨⟨⟨_, hv, hrow, g, cap, rfl⟩, hE⟩, hB⟩ hK
    have hsz := hB.size
    gi_wp2
    have hlt := hv.lt
    have hgl := own_ge hrow (g := g) rfl
    exact hK _ _ ((KeepsOthers.alloc _ _).from _) (KeepE.far hE.lt (by omega) ((Below.refl _ V).alloc (Nat.le_refl _) _)) ⟨⟨⟨_, hv.alloc _, hrow.alloc _, g, cap, rfl⟩, hE.alloc _⟩, hB.alloc (by omega) _⟩ ⟨V.heap.size, _, hE.lt, Boxed.new V _ _, hv.alloc _, fun q e => by have e2 : g = q := (by simpa [Value.ownBlock] using e); omega, rfl⟩
  case body =>
    clear c0 u4 hown1
    rintro l pre x a' V hl ⟨r, hr⟩ ⟨⟨⟨v, hv, hrow, g, cap, rfl⟩, hE⟩, hB⟩ ⟨Bx, v', hBx, bX, hv', hne, rfl⟩ hlt
    have hvv : v' = .slice (some ⟨g, 0, none⟩) (tmsP us pre).length cap := by
      have h9 : some _ = some _ := hv'.symm.trans hv
      simpa using h9
    subst hvv
    have hgB := hne g rfl
    have hsz := hB.size
    have h1b : 1 ≤ N - 1 - 1 := by omega
    have HBl : Hid (Below w2.heap.size w2 V) := Lib.hid (HB0s.out _ hB)
    have hby := (HG2.out V HBl.out).see.2
    have HR := Lib.hid hrow
    have HVb := Lib.hid hv
    have HBw := Lib.hid hB
    have HEb := Lib.hid hE
    have HBX := Lib.hid bX
    have HRec := Lib.hid hr
    have hbl := bX.lt
    clear hrow hv hv' hB hE bX hne hr
    gi_wp2_with (refine ⟨trivial, ?_⟩; gi_at_call 39; refine (CallsIn.inRound l (eachWord_in (N - 1 - 1 - 1) b k d _)).mono ?_; rintro e w3 ⟨rfl, rfl⟩)
    have hsW := HBw.out.size
    have bN := Boxed.new V 30 (.slice b k d)
    have hr' : (V.alloc (.cells #[.slice b k d] 30)).heap[l]? = some (.loop r) := (Below.heap_alloc V _ l (Array.getElem?_eq_some_iff.1 HRec.out).1).trans HRec.out
    have hpl : pre.length ≤ 39 := by omega
    have hmds1 : Nds s (V.alloc (.cells #[.slice b k d] 30)) b k d u := HMds.out.keep (HBw.out.alloc (by omega) _)
    have hszV : (V.alloc (.cells #[.slice b k d] 30)).heap.size = V.heap.size + 1 := by simp
    refine wpIn_rangeFunc_ownN (l₀ := l) (r₀ := r) rfl hr' h1b (gf := 74) (lb := #[.pointer (some ⟨V.heap.size, 0, none⟩)]) rfl trivial (enters_of Try.func74 (by kernel_rfl) rfl)
      ((each_stops (N - 1 - 1 - 1) (by omega) V.heap.size s k d b u qs HU.out _ (by omega) (by omega) bN.cell hmds1).inRound l) KeepE.trans (keepE_b (by omega) (by omega)) (Below.refl _ _) (fun _ => rfl)
      (fun pre' V' => ((∃ v, Boxed V' (s + 1) 39 v ∧ V'.ownsRow s 9 1 v (tmsQ us pre x.x pre').length ((tmsQ us pre x.x pre').map fun x => Value.string (bx x)) ∧ (∃ g cap, v = .slice (some ⟨g, 0, none⟩) (tmsQ us pre x.x pre').length cap ∧ g ≠ Bx)) ∧ (Boxed V' (s + 1 + 1) 30 (.slice a n c) ∧ Boxed V' Bx 9 (.string (bx x.x)) ∧ Boxed V' V.heap.size 30 (.slice b k d))) ∧ (Below s V V' ∧ KeepsFrom w0.heap.size V V'))
      (fun _ _ _ => False)
      (OwnFrom.and (OwnFrom.and (Own.from (holdsRow_own s (s + 1) 39 9 1 (fun pre' : List (EW u qs) => (tmsQ us pre x.x pre').length) (fun pre' : List (EW u qs) => (tmsQ us pre x.x pre').map fun x => Value.string (bx x)) (fun (pre' : List (EW u qs)) v => ∃ g cap, v = .slice (some ⟨g, 0, none⟩) (tmsQ us pre x.x pre').length cap ∧ g ≠ Bx)) _) (OwnFrom.and (Own.from (boxed_own _ _ _) _) (OwnFrom.and (Own.from (boxed_own _ _ _) _) (Own.from (boxed_own _ _ _) _)))) (OwnFrom.and (ownFrom_below (by omega) (by omega)) (ownFrom_keepsFrom (by omega))))
      (fun _ _ _ _ _ hs _ _ => hs)
      ⟨⟨⟨_, HVb.out.alloc _, by rw [tmsQ_nil]; exact HR.out.alloc _, g, cap, by rw [tmsQ_nil], hgB⟩, HEb.out.alloc _, HBX.out.alloc _, bN⟩, (Below.refl s V).alloc (by omega) _, (KeepsOthers.alloc _ _).from _⟩
      (fun y a'' _ => a'' = { tmps := #[.agg #[.slice a n c], .agg #[.slice b k d], .pointer (some ⟨W.heap.size, 0, none⟩), .pointer (some ⟨W.heap.size + 1, 0, none⟩), .pointer (some ⟨W.heap.size + 1 + 1, 0, none⟩), .bool false, .pointer (some ⟨s + 1, 0, none⟩), undef, .pointer (some ⟨Bx, 0, none⟩), undef, .string (bx y.x), .agg #[.slice a n c], .agg #[.slice b k d], .bool true, .bool false, undef, .slice (some ⟨s, 0, none⟩) 0 0, .agg #[.slice a n c],
      .func (.func 74) #[] #[.pointer (some ⟨s + 1 + 1, 0, none⟩)], .int .i64 (x.i : Int), .string (bx x.x), .agg #[.slice b k d], .func (.func 74) #[] #[.pointer (some ⟨V.heap.size, 0, none⟩)], .int .i64 (y.i : Int), .string (bx y.x), undef, undef, undef, undef, undef, undef, undef, undef, undef, undef], defers := [] })
      (fun _ _ _ _ _ _ hs _ _ => hs)
      ?assign2 ?body2 ?done2 ?stop2
    case assign2 =>
      rintro l2 pre' y V' K hi hK
      gi_wp2
      exact hK _ _ (KeepsFrom.refl _ _) (KeepE.refl _ _ _) hi rfl
    case body2 =>
      rintro l2 pre' y a'' V' _ _ ⟨⟨⟨_, hv2, hrow2, g2, cap2, rfl, hgB2⟩, hE2, hX2, hN2⟩, hBW, hKF⟩ rfl hlt2
      have hl9 := tmsQ_len us h41 pre x.x pre'
      have hbs := hBW.size
      have hx12 := HV.out.short x.x (at_mem x.at')
      have hy12 := HU.out.short y.x (at_mem y.at')
      have HSn : Hid (tmsQ us pre x.x (pre' ++ [y]) = tmsQ us pre x.x pre' ++ [x.x ++ y.x]) := Lib.hid (tmsQ_snoc us pre x.x pre' y)
      obtain ⟨rs, hrs⟩ : ∃ rs, tmsQ us pre x.x pre' = rs := ⟨_, rfl⟩
      rw [hrs] at hv2 hrow2 hl9 HSn
      obtain ⟨m, hm⟩ : ∃ m, rs.length = m := ⟨_, rfl⟩
      have HM := Lib.hid hm
      rw [hm] at hv2 hrow2 hl9
      obtain ⟨sx, hsx⟩ : ∃ sx, bx x.x = sx := ⟨_, rfl⟩
      obtain ⟨sy, hsy⟩ : ∃ sy, bx y.x = sy := ⟨_, rfl⟩
      have HXY : Hid (bx (x.x ++ y.x) = sx ++ sy) := Lib.hid (by rw [bx_cat, hsx, hsy])
      have hl1 : sx.size ≤ 12 := by rw [← hsx, bx_size]; exact hx12
      have hl2 : sy.size ≤ 12 := by rw [← hsy, bx_size]; exact hy12
      rw [hsx] at hX2 ⊢
      rw [hsy]
      have hcat : sx.size + sy.size ≤ 4000 := by omega
      have hcat2 : ((sx.size : Int) + (sy.size : Int)) ≤ 4000 := by omega
      have hcat3 : ∀ W, (Op.stringOp .add sx sy).run Try.prog W = .ok (.string (sx ++ sy)) W := fun W => run_string_add_sum W sx sy (by omega)
      have hcat4 : ¬ (9223372036854775807 < sx.size + sy.size) := by omega
      have HR2 := Lib.hid hrow2
      have HV2 := Lib.hid hv2
      have HO2 := Lib.hid (And.intro hE2 (And.intro hX2 (And.intro hN2 (And.intro hBW hKF))))
      have hc := hv2.cell
      have hcx := hX2.cell
      have hgr2 := own_ge hrow2 (g := g2) rfl
      clear hm hrs hsx hsy hrow2 hv2 hE2 hX2 hN2 hBW hKF
      gi_wp2_with (first
        | (gi_at_builtin; refine wpListIn_append_own_at _ rfl _ _ 39 rfl s 9 i0 (.string ByteArray.empty) 1 16 Try.underlying39 hi hz0 hz1 hz2 rfl (by decide) _ _ _ rfl (HR2.out.alloc _) ⟨V'.heap.size, 0, none⟩ 1 1 [.string (sx ++ sy)] rfl rfl (cell_one_new _ _ _) (by simp [Value.oneCell']) (by unfold maxLen; omega) (by omega) (by simp; omega) ?_; intro v' w1 hown' hgrow _ hat; obtain ⟨g', cap', rfl⟩ := own_succ hown'; obtain ⟨hv1, hv2, hr2, hk2, hb2⟩ := HV2.out.appended (by decide) HR2.out (by omega) (by omega) hown' hgrow; have hc1' := hv1.cell; have hf1' := hv1.frozen; have hat' : g' = g2 ∨ g' = V'.heap.size + 1 := (by
              have h : (some g' : Option Nat) = some g2 ∨ some g' = some (V'.alloc (.cells #[.string (sx ++ sy)] 9)).heap.size := hat
              simpa using h); have hE3 := ((HO2.out.1.alloc (.cells #[.string (sx ++ sy)] 9)).kept hgrow (HO2.out.1.not_row (by decide) HR2.out)).other (show s + 1 + 1 ≠ s + 1 by omega) (.slice (some ⟨g', 0, none⟩) (m + 1) cap'); have hX3 := ((HO2.out.2.1.alloc (.cells #[.string (sx ++ sy)] 9)).kept hgrow (fun e => hgB2 (by have e2 : some Bx = some g2 := e; injection e2 with e2; exact e2.symm))).other (show Bx ≠ s + 1 by omega) (.slice (some ⟨g', 0, none⟩) (m + 1) cap'); have hN3 := ((HO2.out.2.2.1.alloc (.cells #[.string (sx ++ sy)] 9)).kept hgrow (HO2.out.2.2.1.not_row (by decide) HR2.out)).other (show V.heap.size ≠ s + 1 by omega) (.slice (some ⟨g', 0, none⟩) (m + 1) cap')))
      have hl : (rs ++ [x.x ++ y.x]).length = m + 1 := by rw [List.length_append, HM.out]; rfl
      refine ⟨hk2.from _, ⟨hN3.trans HO2.out.2.2.1.symm, hb2⟩, ⟨⟨_, hv2, ?_, g', cap', ?_, ?_⟩, hE3, ?_, hN3⟩, HO2.out.2.2.2.1.trans hb2, HO2.out.2.2.2.2.trans (hk2.from _)⟩
      · rw [HSn.out, hl, List.map_append, List.map_singleton, HXY.out]
        exact hr2
      · rw [HSn.out, hl]
      · have := HBX.out.lt
        omega
      · exact hX3
    case done2 =>
      rintro ys' V' hys ⟨⟨⟨_, hv2, hrow2, g2, cap2, rfl, hgB2⟩, hE2, hX2, hN2⟩, hBW, hKF⟩
      have he : ys'.map EW.x = us := by
        rw [HUs.out, ← pls_all HU.out, ← hys, List.map_map]
        rfl
      rw [tmsP_snoc us pre x ys' he] at hv2 hrow2
      gi_wp2
      exact ⟨hKF, ⟨hE2.trans HEb.out.symm, hBW⟩, ⟨⟨_, hv2, hrow2, g2, cap2, rfl⟩, hE2⟩, HBw.out.trans hBW⟩
    case stop2 =>
      rintro c' pre' V' _ h
      exact h.elim
  case done =>
    rintro D ys V hD hys ⟨⟨⟨_, hv, hrow, g, cap, rfl⟩, hE⟩, hB⟩ hK
    have hc := hv.cell
    have HBD : Hid (Below w2.heap.size w2 V) := Lib.hid (HB0s.out V hB)
    have G9 := Lib.hid (HG2.out V HBD.out)
    have hl9 : tmsP us ys = xs := by
      unfold tmsP
      rw [← HXs.out, HTs.out, ← pls_all HV.out, ← hys, List.map_map]
      rfl
    rw [hl9] at hrow hc
    have cM : Hid (Calls Try.prog 43 #[.slice (some ⟨g, 0, none⟩) xs.length cap] V (TrieRes V tt ok)) := Lib.hid (by
      obtain ⟨a6, c6, e6, hW6⟩ := own_wds hrow (fun x hx => by have := HSh3.out x hx; omega)
      rw [e6, ← HTT.out, ← HOK.out]
      exact implTrieOf_any V.heap.size a6 _ c6 xs V (Nat.le_refl _) hW6)
    clear hrow hl9
    gi_wp2_with (refine ⟨trivial, ?_⟩; gi_at_call 43; refine (callsIn_wide.2 cM.out).mono ?_; rintro e w7 ⟨v7, rfl, hO7, hb7⟩; obtain ⟨a7, c7, rfl⟩ := own_slice hO7; have G7 := Lib.hid (G9.out.on hb7); have HO7 := Lib.hid hO7; have hrc := G7.out.res.cell; have hrf := G7.out.res.frozen; have hK7 := (hb7.block D (Array.getElem?_eq_some_iff.1 hK).1).trans hK; clear hO7)
    have hWD : W.heap.size ≤ D := by have := G2.out.size; have := HSs.out; omega
    have hK' := (KeepsOthers.setCell w7 ⟨W.heap.size + 1 + 1, 0, none⟩ (.slice a7 tt.length c7)).same D _ hK7 rfl
    have hc5 := cell_kept (World.cell?_setCell_same' w7 ⟨W.heap.size + 1 + 1, 0, none⟩ (.slice a7 tt.length c7) (by rw [hrc]; rfl)) (grownBy_putObj' _ D (.deferred none)) (fun r e => by cases e; exact ⟨_, hK', rfl⟩)
    obtain ⟨v9, e9, hO9, hb9⟩ := G7.out.own (ok := ok) HO7.out G9.out.size
    injection e9 with e9
    injection e9 with e9
    have e10 : Value.agg #[.slice a7 tt.length c7] = .agg #[v9] := by simpa using e9
    injection e10 with e10
    have e11 : Value.slice a7 tt.length c7 = v9 := by simpa using e10
    subst e11
    refine ⟨by simp, .inl ⟨_, _, rfl, run_takeDeferred hK', ?_⟩⟩
    refine ⟨.tuple #[.agg #[.slice a7 tt.length c7], .bool ok], ?_, _, rfl, ownsRow_putObj hO9 _ hK' rfl, hb9.trans (belowK_b (w := W) (Nat.le_refl _) _ D _ _ hWD hK' rfl rfl)⟩
    simp [results, Try.f18, go_sem, hc5]
  case stop =>
    rintro D c' pre W _ _ h _
    exact h.elim

set_option maxRecDepth 1000000 in
set_option maxHeartbeats 2000000 in
theorem timesTrie_not (a : Option Addr) (n c : Nat) (t : List Nd) (b : Option Addr) (k d : Nat) (u : List Nd) (hr : (trieB t && trieB u) = false) (W : World) (hN : Nds W.heap.size W a n c t) (hM : Nds W.heap.size W b k d u) :
    CallsIn Fence.wide 8 Try.prog 18 #[.agg #[.slice a n c], .agg #[.slice b k d]] W (TrieRes W [] false) := by
  have G1 := Lib.hid (Gv2R.start hN hM)
  have cT := Lib.hid (fun (W' : World) (G : Gv2R W W' a n c t b k d u) => areTries_any W.heap.size a n c t b k d u W' G.size G.gv.nds G.gv.mds)
  rw [hr] at cT
  clear hN hM hr
  obtain ⟨hbx, hby⟩ := G1.out.see
  refine callsIn_of_wp_marks Try.func18 rfl trivial ?_ rfl
  simp only [Try.ntmps18, List.size_toArray, List.length_cons, List.length_nil, Nat.reduceAdd, Nat.reduceSub, Array.replicate_succ, Array.replicate_zero, List.push_toArray, List.append_toArray, List.nil_append, List.cons_append]
  gi_wp2_with (refine ⟨trivial, ?_⟩; gi_at_call 37; refine (callsIn_wide.2 (cT.out _ G1.out)).mono ?_; rintro e w2 ⟨rfl, hb2⟩; have G2 := Lib.hid (G1.out.on hb2); have hrc := G2.out.res.cell; have hrf := G2.out.res.frozen; clear hb2 hbx hby)
  have hc5 := World.cell?_setCell_same' w2 ⟨W.heap.size + 1 + 1, 0, none⟩ (.slice none 0 0) (by rw [hrc]; rfl)
  refine ⟨.tuple #[.agg #[.slice none 0 0], .bool false], ?_, G2.out.ownNo⟩
  simp [results, Try.f18, go_sem, hc5]

theorem implTimesTrie_any (a : Option Addr) (n c : Nat) (t : List Nd) (b : Option Addr) (k d : Nat) (u : List Nd) (W : World) (hN : Nds W.heap.size W a n c t) (hM : Nds W.heap.size W b k d u) :
    Calls Try.prog 18 #[.agg #[.slice a n c], .agg #[.slice b k d]] W (TrieRes W (resT (trieB t && trieB u) (timesL t u)) (resK (trieB t && trieB u) (timesL t u))) := by
  refine (callsIn_wide (n := 8)).1 ?_
  cases hq : (trieB t && trieB u) with
  | false =>
    rw [(resT_no _).1, (resT_no _).2]
    exact timesTrie_not a n c t b k d u hq W hN hM
  | true =>
    rw [(resT_yes _).1, (resT_yes _).2]
    have h2 := hq
    rw [Bool.and_eq_true] at h2
    obtain ⟨ps, hv⟩ := trieB_iff.1 h2.1
    obtain ⟨qs, hu⟩ := trieB_iff.1 h2.2
    exact timesTrie_in 8 (by omega) a n c t ps hv b k d u qs hu hq W hN hM _ rfl _ _ rfl rfl

theorem agreeTimesTrie (t u : List Nd) (n k : Nat) (hn : n ≤ 1048576) (hk : k ≤ 1048576) : ∃ (tt : List Nd) (ok : Bool), Fits tt ∧ tt.length ≤ 481 ∧
    (∀ (W : World) (a b : Option Addr), Nds W.heap.size W a n n t → Nds W.heap.size W b k k u → Calls Try.prog 17 #[.agg #[.slice a n n], .agg #[.slice b k k]] W (ReadRes W tt ok)) ∧
    (∀ (W : World) (a b : Option Addr), Nds W.heap.size W a n n t → Nds W.heap.size W b k k u → Calls Try.prog 18 #[.agg #[.slice a n n], .agg #[.slice b k k]] W (TrieRes W tt ok)) :=
  ⟨_, _, resT_fits _ _, resT_len _ _, fun W a b hN hM => specTimesTrie_any a n n t b k k u W hN hM hn hk, fun W a b hN hM => implTimesTrie_any a n n t b k k u W hN hM⟩

end Go.Proofs.Ytipkdoplgjgkpac
