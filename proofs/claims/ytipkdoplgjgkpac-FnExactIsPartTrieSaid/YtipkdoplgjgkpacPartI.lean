/-
  Whether a trie has all words of another: the program's walk.
-/
import Derived.RangeFuncFrom
import Derived.Test.YtipkdoplgjgkpacPartS
import Derived.Test.YtipkdoplgjgkpacMissClo
namespace Go.Proofs.Ytipkdoplgjgkpac
open Go.RowKit Go.Shelf
set_option linter.unusedVariables false

attribute [local go_sem] Oper.semAt_some

/-- the boxes of two tries at s, and the results' cells behind them -/
structure Res4 (s : Nat) (a : Option Addr) (n c : Nat) (b : Option Addr) (k d : Nat) (W : World) : Prop where
  box : W.cell? ⟨s, 0, none⟩ = some (.slice a n c)
  boy : W.cell? ⟨s + 1, 0, none⟩ = some (.slice b k d)
  r1 : W.cell? ⟨s + 1 + 1, 0, none⟩ = some (.bool false)
  f1 : W.frozen? ⟨s + 1 + 1, 0, none⟩ = false
  r2 : W.cell? ⟨s + 1 + 1 + 1, 0, none⟩ = some (.bool false)
  f2 : W.frozen? ⟨s + 1 + 1 + 1, 0, none⟩ = false
  lt : s + 1 + 1 + 1 < W.heap.size
theorem Res4.on {s : Nat} {a : Option Addr} {n c : Nat} {b : Option Addr} {k d L : Nat} {W W' : World} (h : Res4 s a n c b k d W) (hL : s + 1 + 1 + 1 < L) (hb : Below L W W') : Res4 s a n c b k d W' := by
  have := h.lt
  exact ⟨(World.cell?_of_block (a := ⟨s, 0, none⟩) (hb.block s (by omega))).trans h.box, (World.cell?_of_block (a := ⟨s + 1, 0, none⟩) (hb.block (s + 1) (by omega))).trans h.boy, (World.cell?_of_block (a := ⟨s + 1 + 1, 0, none⟩) (hb.block (s + 1 + 1) (by omega))).trans h.r1, (World.frozen?_of_block (a := ⟨s + 1 + 1, 0, none⟩) (hb.block (s + 1 + 1) (by omega))).trans h.f1, (World.cell?_of_block (a := ⟨s + 1 + 1 + 1, 0, none⟩) (hb.block (s + 1 + 1 + 1) (by omega))).trans h.r2, (World.frozen?_of_block (a := ⟨s + 1 + 1 + 1, 0, none⟩) (hb.block (s + 1 + 1 + 1) (by omega))).trans h.f2, Nat.lt_of_lt_of_le h.lt hb.size⟩
theorem Res4.start (w : World) (a : Option Addr) (n c : Nat) (b : Option Addr) (k d : Nat) : Res4 w.heap.size a n c b k d ((((w.alloc (.cells #[.slice a n c] 30)).alloc (.cells #[.slice b k d] 30)).alloc (.cells #[.bool false] 4)).alloc (.cells #[.bool false] 4)) := by
  have q0 := cellNew w (.slice a n c) 30
  have q1 := cellNew (w.alloc (.cells #[.slice a n c] 30)) (.slice b k d) 30
  have q2 := cellNew ((w.alloc (.cells #[.slice a n c] 30)).alloc (.cells #[.slice b k d] 30)) (.bool false) 4
  have q3 := cellNew (((w.alloc (.cells #[.slice a n c] 30)).alloc (.cells #[.slice b k d] 30)).alloc (.cells #[.bool false] 4)) (.bool false) 4
  simp only [World.size_alloc] at q1 q2 q3
  exact ⟨cellOld _ (cellOld _ (cellOld _ q0.1)), cellOld _ (cellOld _ q1.1), cellOld _ q2.1, frozenOld _ q2.1 q2.2, q3.1, q3.2, by simp⟩

set_option maxRecDepth 1000000 in
set_option maxHeartbeats 2000000 in
theorem isPart_not (N : Nat) (hN3 : 3 ≤ N) (a : Option Addr) (n c : Nat) (t : List Nd) (b : Option Addr) (k d : Nat) (u : List Nd) (hr : (trieB t && trieB u) = false) (w : World) (hN : Nds w.heap.size w a n c t) (hM : Nds w.heap.size w b k d u) :
    CallsIn Fence.wide N Try.prog 13 #[.agg #[.slice a n c], .agg #[.slice b k d]] w fun e w' => e = .returned (.tuple #[.bool false, .bool false]) ∧ Below w.heap.size w w' := by
  have h1 : 1 ≤ N := by omega
  have HB0 : Hid (Below w.heap.size w ((((w.alloc (.cells #[.slice a n c] 30)).alloc (.cells #[.slice b k d] 30)).alloc (.cells #[.bool false] 4)).alloc (.cells #[.bool false] 4))) := Lib.hid ((((Below.refl _ w).alloc (Nat.le_refl _) _).alloc (by simp) _).alloc (by simp; omega) _ |>.alloc (by simp; omega) _)
  have cTi : Hid (∀ (W' : World), Below w.heap.size w W' → Calls Try.prog 37 #[.agg #[.slice a n c], .agg #[.slice b k d]] W' fun e w' => e = .returned (.bool false) ∧ Below W'.heap.size W' w') := Lib.hid (fun W' h => by rw [← hr]; exact areTries_any w.heap.size a n c t b k d u W' h.size (hN.keep h) (hM.keep h))
  have HQ0 := Lib.hid (Res4.start w a n c b k d)
  have hbx := HQ0.out.box
  have hby := HQ0.out.boy
  clear hN hM hr
  refine callsIn_of_wp_marks Try.func13 rfl trivial ?_ rfl
  simp only [Try.ntmps13, List.size_toArray, List.length_cons, List.length_nil, Nat.reduceAdd, Nat.reduceSub, Array.replicate_succ, Array.replicate_zero, List.push_toArray, List.append_toArray, List.nil_append, List.cons_append]
  gi_wp2_with (refine ⟨trivial, ?_⟩; gi_at_call 37; refine (callsIn_wide.2 (cTi.out _ HB0.out)).mono ?_; rintro e w2 ⟨rfl, hb2⟩; have hQ2 := HQ0.out.on (L := _) (by exact HQ0.out.lt) hb2; have HB2 := Lib.hid (HB0.out.trans (hb2.mono HB0.out.size)); have hr1 := hQ2.r1; have hf1 := hQ2.f1; have hr2 := hQ2.r2; have hf2 := hQ2.f2; clear hb2)
  have ht := twoCells hr1 hr2 false false
  refine ⟨.tuple #[.bool false, .bool false], ?_, rfl, (HB2.out.setCell (p := ⟨w.heap.size + 1 + 1, 0, none⟩) (by simp; omega) _).setCell (p := ⟨w.heap.size + 1 + 1 + 1, 0, none⟩) (by simp; omega) _⟩
  simp [results, Try.f13, go_sem, ht.1, ht.2]

set_option maxRecDepth 1000000 in
set_option maxHeartbeats 4000000 in
theorem isPart_in (N : Nat) (hN3 : 5 ≤ N) (a : Option Addr) (n c : Nat) (t : List Nd) (ps : List Txt) (hv : Valid t ps) (b : Option Addr) (k d : Nat) (u : List Nd) (hu : IsT u) (v : Bool) (hr : (trieB t && trieB u) = true) (hvv : v = true ↔ ∀ y : EW t ps, y.x ∈ wordsOf u) (w : World) (hN : Nds w.heap.size w a n c t) (hM : Nds w.heap.size w b k d u) :
    CallsIn Fence.wide N Try.prog 13 #[.agg #[.slice a n c], .agg #[.slice b k d]] w fun e w' => e = .returned (.tuple #[.bool v, .bool true]) ∧ Below w.heap.size w w' := by
  have h1 : 1 ≤ N := by omega
  have HN := Lib.hid hN
  have HV := Lib.hid hv
  have HB0 : Hid (Below w.heap.size w ((((w.alloc (.cells #[.slice a n c] 30)).alloc (.cells #[.slice b k d] 30)).alloc (.cells #[.bool false] 4)).alloc (.cells #[.bool false] 4))) := Lib.hid ((((Below.refl _ w).alloc (Nat.le_refl _) _).alloc (by simp) _).alloc (by simp; omega) _ |>.alloc (by simp; omega) _)
  have cTi : Hid (∀ (W' : World), Below w.heap.size w W' → Calls Try.prog 37 #[.agg #[.slice a n c], .agg #[.slice b k d]] W' fun e w' => e = .returned (.bool true) ∧ Below W'.heap.size W' w') := Lib.hid (fun W' h => by rw [← hr]; exact areTries_any w.heap.size a n c t b k d u W' h.size (hN.keep h) (hM.keep h))
  have cF : Hid (∀ (W' : World) (m : Nat), Below w.heap.size w W' → w.heap.size ≤ m → SetIs W' m 0 [] → CallsIn Fence.wide (N - 1) Try.prog 38 #[.map (some m), .agg #[.slice b k d]] W' fun e w' => e = .returned (.map (some m)) ∧ (∃ j, SetIs w' m j (wordsOf u)) ∧ W'.grownBy w' (some m)) := Lib.hid (fun W' m h hm hS => by
    obtain ⟨qs, hq⟩ := hu
    have := fill_in (N - 1) (by omega) m 0 w.heap.size [] b k d u qs hq W' hm hS (hM.keep h)
    rw [← wordsOf_eq hq] at this
    exact this)
  have HVV := Lib.hid hvv
  obtain ⟨us, hus⟩ : ∃ us, wordsOf u = us := ⟨_, rfl⟩
  rw [hus] at cF HVV
  have HQ0 := Lib.hid (Res4.start w a n c b k d)
  have hbx := HQ0.out.box
  have hby := HQ0.out.boy
  have hmm := @run_makeMap Try.prog
  clear hN hM hr hv hvv hus hu
  refine callsIn_of_wp_marks Try.func13 rfl trivial ?_ rfl
  simp only [Try.ntmps13, List.size_toArray, List.length_cons, List.length_nil, Nat.reduceAdd, Nat.reduceSub, Array.replicate_succ, Array.replicate_zero, List.push_toArray, List.append_toArray, List.nil_append, List.cons_append]
  gi_wp2_with (first
    | (refine ⟨trivial, ?_⟩; gi_at_call 37; refine (callsIn_wide.2 (cTi.out _ HB0.out)).mono ?_; rintro e w2 ⟨rfl, hb2⟩; have hQ2 := Lib.hid (HQ0.out.on (L := _) (by exact HQ0.out.lt) hb2); have HB2 := Lib.hid (HB0.out.trans (hb2.mono HB0.out.size)); clear hbx hby; have hbx := hQ2.out.box; have HB3 : Hid (Below w.heap.size w (w2.alloc (.map #[] 0))) := Lib.hid (HB2.out.alloc HB2.out.size _); have HQ3 := Lib.hid (hQ2.out.on (L := w2.heap.size) hQ2.out.lt ((Below.refl _ _).alloc (Nat.le_refl _) (.map #[] 0))); have hby := HQ3.out.boy; clear hb2)
    | (refine ⟨trivial, ?_⟩; gi_at_call 38; refine (cF.out _ w2.heap.size HB3.out HB2.out.size (SetIs.made w2)).mono ?_; rintro e w4 ⟨rfl, ⟨j4, hS4⟩, hg4⟩; have hB4 := HB3.out.trans (gb_below hg4 HB3.out.size HB2.out.size); have hQ4 := HQ3.out.on (L := w2.heap.size) hQ2.out.lt (gb_below hg4 (by simp) (Nat.le_refl _)); have HS4 := Lib.hid hS4; clear hg4 hS4 hbx hby; have hbx := cellOld (.cells #[.map (some w2.heap.size)] 56) hQ4.box)
    | (refine ⟨trivial, ?_⟩; gi_at_call 39; refine (eachWord_in (N - 1) a n c _).mono ?_; rintro e w3 ⟨rfl, rfl⟩))
  have hs2 := HB2.out.size
  have hlt2 := hQ2.out.lt
  have hm4 : w2.heap.size < w4.heap.size := HS4.out.lt
  have hB5 : Below w.heap.size w (w4.alloc (.cells #[.map (some w2.heap.size)] 56)) := hB4.alloc hB4.size _
  have hQ5 : Res4 w.heap.size a n c b k d (w4.alloc (.cells #[.map (some w2.heap.size)] 56)) := hQ4.on hQ4.lt ((Below.refl _ _).alloc (Nat.le_refl _) _)
  have hS5 : SetIs (w4.alloc (.cells #[.map (some w2.heap.size)] 56)) w2.heap.size j4 us := HS4.out.below ((Below.refl _ _).alloc (Nat.le_refl _) _) hm4
  have c5 := (cellNew w4 (.map (some w2.heap.size)) 56).1
  have ho5 : (w4.alloc (.cells #[.map (some w2.heap.size)] 56)).heap.size = w4.heap.size + 1 := by simp
  obtain ⟨w5, hw5⟩ : ∃ w5, w4.alloc (.cells #[.map (some w2.heap.size)] 56) = w5 := ⟨_, rfl⟩
  rw [hw5] at hB5 hQ5 hS5 c5 ho5 ⊢
  obtain ⟨o, ho⟩ : ∃ o, w4.heap.size = o := ⟨_, rfl⟩
  obtain ⟨m, hm⟩ : ∃ m, w2.heap.size = m := ⟨_, rfl⟩
  rw [ho] at c5 ho5 ⊢
  rw [hm] at hS5 c5 ⊢
  clear hw5 ho hm hm4 hlt2 hs2 hB4 hQ4 HS4 hbx HQ3 HB3 HB2 hQ2 HQ0 HB0 cTi cF hmm
  have hB3 : Below w.heap.size w (w5.alloc (.cells #[.slice a n c] 30)) := hB5.alloc hB5.size _
  have hQ3 : Res4 w.heap.size a n c b k d (w5.alloc (.cells #[.slice a n c] 30)) := hQ5.on hQ5.lt ((Below.refl _ _).alloc (Nat.le_refl _) _)
  have hS3 : SetIs (w5.alloc (.cells #[.slice a n c] 30)) m j4 us := hS5.below ((Below.refl _ _).alloc (Nat.le_refl _) _) hS5.lt
  have c3 := cellOld (.cells #[.slice a n c] 30) c5
  have hE3 := (cellNew w5 (.slice a n c) 30).1
  have hl3 : w5.heap.size < (w5.alloc (.cells #[.slice a n c] 30)).heap.size := by simp
  have hs5 := hQ5.lt
  obtain ⟨E, hE⟩ : ∃ E, o + 1 = E := ⟨_, rfl⟩
  rw [hE] at ho5 ⊢
  rw [ho5] at hE3 hl3 hs5
  have ho6 : o < E := by omega
  obtain ⟨W3, hW3⟩ : ∃ W3, w5.alloc (.cells #[.slice a n c] 30) = W3 := ⟨_, rfl⟩
  rw [hW3] at hB3 hQ3 hS3 c3 hE3 hl3 ⊢
  have HB3 := Lib.hid hB3
  have HQ3 := Lib.hid hQ3
  have HS3 := Lib.hid hS3
  have HC3 := Lib.hid c3
  have HE3 := Lib.hid (And.intro hE3 (And.intro hl3 (And.intro ho6 hs5)))
  clear hE hW3 hB3 hQ3 hS3 c3 hE3 hl3 ho5 ho6 hs5 c5 hS5 hQ5 hB5
  refine wpIn_rangeFunc_ownF rfl h1 (gf := 74) (lb := #[.pointer (some ⟨E, 0, none⟩)]) rfl trivial (enters_of Try.func74 (by kernel_rfl) rfl)
    (each_stops (N - 1) (by omega) E w.heap.size n c a t ps HV.out W3 HE3.out.2.1 (by have := HE3.out; omega) HE3.out.1 (HN.out.keep HB3.out)) KeepE.trans (keepE_b HE3.out.2.1 (by have := HE3.out; omega)) (Below.refl _ _) (fun _ => rfl)
    (fun pre W => (∀ y ∈ pre, y.x ∈ us) ∧ Below W3.heap.size W3 W)
    (fun c' pre W => (c' = .ret ∧ v = false ∧ W.cell? ⟨w.heap.size + 1 + 1, 0, none⟩ = some (.bool false) ∧ W.cell? ⟨w.heap.size + 1 + 1 + 1, 0, none⟩ = some (.bool true)) ∧ Below w.heap.size w W)
    (OwnFrom.and (Own.from (fun s A B row hs hg hr => hs) _) (ownFrom_below (Nat.le_refl _) (Nat.le_refl _)))
    (fun c' => OwnFrom.and (Own.from (fun s A B row hs hg hr => ⟨hs.1, hs.2.1, cell_kept hs.2.2.1 hg hr, cell_kept hs.2.2.2 hg hr⟩) _) (ownFrom_below (Nat.le_refl _) (by have := HE3.out; omega)))
    ⟨by simp, Below.refl _ _⟩
    (fun x => { tmps := #[.agg #[.slice a n c], .agg #[.slice b k d], .pointer (some ⟨w.heap.size, 0, none⟩), .pointer (some ⟨w.heap.size + 1, 0, none⟩), .pointer (some ⟨w.heap.size + 1 + 1, 0, none⟩), .pointer (some ⟨w.heap.size + 1 + 1 + 1, 0, none⟩), .pointer (some ⟨o, 0, none⟩), undef, .string (bx x.x), .agg #[.slice a n c], .agg #[.slice b k d], .bool true, .bool false, .map (some m), .agg #[.slice b k d], .map (some m), .agg #[.slice a n c], .func (.func 74) #[] #[.pointer (some ⟨E, 0, none⟩)], .int .i64 (x.i : Int), .string (bx x.x), undef, undef, undef, undef], defers := [] }) ?assign ?body ?done ?stop
  case assign =>
    intro l x W K hK
    gi_wp2
    exact hK
  case body =>
    rintro l pre x W ⟨hp, hB⟩ _
    have hx12 := HV.out.short x.x (at_mem x.at')
    have hQ := HQ3.out.on HQ3.out.lt hB
    have hBw := HB3.out.trans (hB.mono HB3.out.size)
    have hcx := (hB.cell (p := ⟨o, 0, none⟩) (by have := HE3.out; show o < _; omega)).trans HC3.out
    have hlk := (HS3.out.below hB HS3.out.lt).look (zeroB W) x.x (by unfold maxLen; omega)
    obtain ⟨q, hq⟩ : ∃ q, decide (x.x ∈ us) = q := ⟨_, rfl⟩
    rw [hq] at hlk
    have HX := Lib.hid hq
    have HP := Lib.hid (And.intro hp (And.intro hB (And.intro hQ hBw)))
    have hr1 := hQ.r1
    have hf1 := hQ.f1
    have hr2 := hQ.r2
    have hf2 := hQ.f2
    clear hp hB hQ hBw hq hx12
    cases q with
    | false =>
      gi_wp2
      exact ⟨(KeepsOthers.setCell _ _ _).trans (KeepsOthers.setCell _ _ _), ⟨rfl, by
        cases v with
        | false => rfl
        | true => exact absurd (HVV.out.1 rfl x) (of_decide_eq_false HX.out), (twoCells hr1 hr2 false true).1, (twoCells hr1 hr2 false true).2⟩, (HP.out.2.2.2.setCell (p := ⟨w.heap.size + 1 + 1, 0, none⟩) (by simp; omega) _).setCell (p := ⟨w.heap.size + 1 + 1 + 1, 0, none⟩) (by simp; omega) _⟩
    | true =>
      gi_wp2
      refine ⟨keepsOthers_of_below (Below.refl _ _), KeepE.far ?_ HP.out.2.2.2.size (Below.refl _ _), fun y hy => ?_, HP.out.2.1⟩
      · have h5 := HE3.out.2.1
        have h6 := HP.out.2.1.size
        omega
      · cases List.mem_append.1 hy with
        | inl h5 => exact HP.out.1 y h5
        | inr h5 =>
          obtain rfl := List.mem_singleton.1 h5
          exact of_decide_eq_true HX.out
  case done =>
    rintro D ys W hD hys ⟨hp, hB⟩ hK
    have hv1 : v = true := HVV.out.2 (fun y => by
      have hm : y.val ∈ ys.map EW.val := by
        rw [hys]
        obtain ⟨d, hd, he⟩ := y.en
        exact pls_mem hd y.at' he _ (List.getElem?_eq_some_iff.1 hd).1
      obtain ⟨y', hy, e⟩ := List.mem_map.1 hm
      have h7 := hp y' hy
      have e2 : y'.x = y.x := congrArg Prod.snd e
      rw [e2] at h7
      exact h7)
    subst hv1
    have hQ4 := HQ3.out.on HQ3.out.lt hB
    have hr1 := hQ4.r1
    have hf1 := hQ4.f1
    have hr2 := hQ4.r2
    have hf2 := hQ4.f2
    have HBw := Lib.hid (HB3.out.trans (hB.mono HB3.out.size))
    clear hQ4 hB hp hys
    gi_wp2
    have hK' := ((KeepsOthers.setCell W ⟨w.heap.size + 1 + 1, 0, none⟩ (.bool true)).trans (KeepsOthers.setCell _ ⟨w.heap.size + 1 + 1 + 1, 0, none⟩ (.bool true))).same D _ hK rfl
    have ht := twoCells hr1 hr2 true true
    have hw3 := HB3.out.size
    refine ⟨by simp, .inl ⟨_, _, rfl, run_takeDeferred hK', ?_⟩⟩
    have hc5 := cell_kept ht.1 (grownBy_putObj' _ D (.deferred none)) (fun r e => by cases e; exact ⟨_, hK', rfl⟩)
    have hc6 := cell_kept ht.2 (grownBy_putObj' _ D (.deferred none)) (fun r e => by cases e; exact ⟨_, hK', rfl⟩)
    refine ⟨.tuple #[.bool true, .bool true], ?_, rfl, ((HBw.out.setCell (p := ⟨w.heap.size + 1 + 1, 0, none⟩) (by simp; omega) _).setCell (p := ⟨w.heap.size + 1 + 1 + 1, 0, none⟩) (by simp; omega) _).trans (belowK_b (w := w) (Nat.le_refl _) _ D _ _ (by omega) hK' rfl rfl)⟩
    simp [results, Try.f13, go_sem, hc5, hc6]
  case stop =>
    rintro D c' pre W hD hpre ⟨⟨rfl, hv, hc1, hc2⟩, hB⟩ hK
    gi_wp2
    have hw3 := HB3.out.size
    have hp3 := HE3.out
    refine ⟨by simp, .inl ⟨_, _, rfl, run_takeDeferred hK, ?_⟩⟩
    have hc5 := cell_kept hc1 (grownBy_putObj' _ D (.deferred none)) (fun r e => by cases e; exact ⟨_, hK, rfl⟩)
    have hc6 := cell_kept hc2 (grownBy_putObj' _ D (.deferred none)) (fun r e => by cases e; exact ⟨_, hK, rfl⟩)
    refine ⟨.tuple #[.bool false, .bool true], ?_, by rw [hv], hB.trans (belowK_b (w := w) (Nat.le_refl _) W D _ _ (by omega) hK rfl rfl)⟩
    simp [results, Try.f13, go_sem, hc5, hc6]

theorem agreeIsPartTrie (t u : List Nd) (n k : Nat) (hn : n ≤ 1048576) (hk : k ≤ 1048576) : ∃ (v : Bool) (ok : Bool),
    (∀ (W : World) (a b : Option Addr), Nds W.heap.size W a n n t → Nds W.heap.size W b k k u → Calls Try.prog 11 #[.agg #[.slice a n n], .agg #[.slice b k k]] W fun e w' => e = .returned (.tuple #[.bool v, .bool ok]) ∧ Below W.heap.size W w') ∧
    (∀ (W : World) (a b : Option Addr), Nds W.heap.size W a n n t → Nds W.heap.size W b k k u → Calls Try.prog 13 #[.agg #[.slice a n n], .agg #[.slice b k k]] W fun e w' => e = .returned (.tuple #[.bool v, .bool ok]) ∧ Below W.heap.size W w') := by
  cases hr : (trieB t && trieB u) with
  | false => exact ⟨false, false, fun W a b hN hM => specIsPartTrie_any a n n t b k k u false false hr ⟨fun _ => rfl, fun h => absurd h (by simp)⟩ W hN hM hn hk, fun W a b hN hM => callsIn_wide.1 (isPart_not 5 (by omega) a n n t b k k u hr W hN hM)⟩
  | true =>
    have h2 := hr
    rw [Bool.and_eq_true] at h2
    obtain ⟨ps, hv⟩ := trieB_iff.1 h2.1
    have hu := trieB_iff.1 h2.2
    refine ⟨((withL t u).length : Int) == 0, true, fun W a b hN hM => specIsPartTrie_any a n n t b k k u _ true hr ⟨fun h => absurd h (by simp), fun _ => rfl⟩ W hN hM hn hk, fun W a b hN hM => callsIn_wide.1 (isPart_in 5 (by omega) a n n t ps hv b k k u hu _ hr ?_ W hN hM)⟩
    have e0 : (((withL t u).length : Int) == 0) = true ↔ withL t u = [] := by
      rw [beq_iff_eq, ← List.length_eq_zero_iff]
      omega
    rw [e0]
    unfold withL those
    rw [List.filter_eq_nil_iff]
    constructor
    · intro h y
      have hy : y.x ∈ wordsOf t := by
        rw [wordsOf_eq hv, mem_wds]
        obtain ⟨d, hd, he⟩ := y.en
        exact ⟨y.i, d, hd, y.at', he⟩
      have := h y.x hy
      simpa [inB] using this
    · intro h x hx
      rw [wordsOf_eq hv, mem_wds] at hx
      obtain ⟨i, d, hd, hi, he⟩ := hx
      have := h ⟨i, x, hi, ⟨d, hd, he⟩⟩
      simpa [inB] using this

end Go.Proofs.Ytipkdoplgjgkpac
