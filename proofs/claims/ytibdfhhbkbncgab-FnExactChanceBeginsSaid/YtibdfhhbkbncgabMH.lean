import Derived.RangeFuncFrom
import Derived.Test.YtibdfhhbkbncgabMD
import Derived.Test.YtibdfhhbkbncgabMB
import Derived.Test.YtibdfhhbkbncgabFwP
import Derived.Test.YtibdfhhbkbncgabOwnTrie
import Derived.Test.YtibdfhhbkbncgabMC

/-
  The chance that a random text begins with a word: the program.
-/
namespace Go.Proofs.Ytibdfhhbkbncgab
open Go.RowKit Go.Shelf
set_option linter.unusedVariables false
set_option linter.unusedSimpArgs false

attribute [local go_sem] Oper.semAt_some

theorem frst_subl (xs : List Txt) (f : Bool) : ∀ k, (frst xs f k).Sublist (xs.take k)
  | 0 => by simp [frst]
  | k + 1 => by
    have ih := frst_subl xs f k
    cases hx : xs[k]? with
    | none =>
      have e : frst xs f (k + 1) = frst xs f k := by simp [frst, hx]
      rw [e]
      exact ih.trans (List.take_sublist_take_left (Nat.le_succ k))
    | some y =>
      have e : xs.take (k + 1) = xs.take k ++ [y] := by
        obtain ⟨h1, h2⟩ := List.getElem?_eq_some_iff.1 hx
        rw [List.take_succ_eq_append_getElem h1, h2]
      rw [e]
      by_cases hf : Fst xs f k y
      · rw [frst_hit hx hf]; exact ih.append (List.Sublist.refl _)
      · rw [frst_miss hx hf]; exact ih.trans (List.sublist_append_left _ _)
theorem first_made {t : List Nd} {ps : List Txt} (hv : Valid t ps) : ∃ tt qs, Valid tt qs ∧ wds tt qs = listFirstWords t ∧ resT (trieB t) (listFirstWords t) = tt ∧ resK (trieB t) (listFirstWords t) = true ∧ Fits tt := by
  have hl : listFirstWords t = frst (wds t ps) true (wds t ps).length := by unfold listFirstWords; rw [wordsOf_eq hv]
  have hsub : (listFirstWords t).Sublist (wds t ps) := by
    rw [hl]
    have := frst_subl (wds t ps) true (wds t ps).length
    rwa [List.take_length] at this
  have ha : Asc (listFirstWords t) := List.Pairwise.sublist hsub hv.wordsAsc
  have hw : ∀ x ∈ listFirstWords t, IsW x := fun x hx => hv.wordsW x (hsub.subset hx)
  have hn : (listFirstWords t).length ≤ 40 := by
    have h1 := hsub.length_le
    have h2 := wordsOf_size t
    rw [wordsOf_eq hv] at h2
    omega
  have hso := setOf_id ha
  have hok : setOk (listFirstWords t) = true := by
    rw [setOk_all hw, hso]
    exact decide_eq_true hn
  have ht := trieB_iff.2 ⟨ps, hv⟩
  refine ⟨made (listFirstWords t), pres (listFirstWords t), made_valid ha hw hn, wds_mkT ha (pres_pre _), ?_, ?_, ?_⟩
  · rw [ht, (resT_yes _).1, tofT_yes hok, hso]
  · rw [ht, (resT_yes _).2, hok]
  · have := tofT_fits (listFirstWords t)
    rwa [tofT_yes hok, hso] at this
set_option maxRecDepth 1000000 in
set_option maxHeartbeats 4000000 in
theorem beg_in (N : Nat) (hN3 : 3 ≤ N) (a : Option Addr) (n c : Nat) (t : List Nd) (ps : List Txt) (tt : List Nd) (qs : List Txt) (k m : Nat) (hv : Valid t ps) (hu : Valid tt qs) (htt : resT (trieB t) (listFirstWords t) = tt) (hkk : resK (trieB t) (listFirstWords t) = true) (hft : Fits tt) (hk1 : 1 ≤ k) (hk : k ≤ 26) (hm : m ≤ 12) (w : World) (hN : Nds w.heap.size w a n c t) (r1 r2 : Nat) (hr : fra (tsum (begw k m) (wds tt qs)) (k ^ m) = (r1, r2)) :
    CallsIn Fence.wide N Try.prog 21 #[.agg #[.slice a n c], .int .i64 (k : Int), .int .i64 (m : Int)] w fun e w' => e = .returned (.tuple #[.agg #[.int .i64 (r1 : Int), .int .i64 (r2 : Int)], .bool true]) ∧ Below w.heap.size w w' := by
  have h1 : 1 ≤ N := by omega
  have HV := Lib.hid hu
  have HRs := Lib.hid hr
  have hn481 := hu.size
  have HB0 := Lib.hid (start_below w a n c (k : Int) (m : Int))
  have HQ0 := Lib.hid (Hb.start w a n c (k : Int) (m : Int))
  obtain ⟨q, hq⟩ : ∃ q, tt.length = q := ⟨_, rfl⟩
  have cFw : Hid (∀ (W' : World), Below w.heap.size w W' → Calls Try.prog 48 #[.agg #[.slice a n c]] W' fun e w' => ∃ a5 c5, e = .returned (.tuple #[.agg #[.slice a5 q c5], .bool true]) ∧ Nds w'.heap.size w' a5 q c5 tt ∧ Below W'.heap.size W' w') := Lib.hid (fun W' h => (implFirstWords_any a n c t W' ((hN.keep h).mono h.size)).mono fun e w' hh => by
    obtain ⟨v, h1, h2, h3⟩ := hh
    rw [htt] at h2
    rw [hkk] at h1
    obtain ⟨a5, c5, rfl⟩ := own_slice h2
    rw [hq] at h2 h1
    exact ⟨a5, c5, h1, own_trie h2 hft, h3⟩)
  have cR : Hid (∀ W', Calls Try.prog 45 #[.int .i64 (k : Int), .int .i64 (m : Int)] W' fun e w' => e = .returned (.bool true) ∧ w' = W') := Lib.hid (fun W' => by
    have := isRandom_any (k : Int) (m : Int) W'
    rwa [decide_eq_true (by omega)] at this)
  have cW := Lib.hid (fun W' => whole_any 0 W')
  simp only [fv_mk] at cW
  have hbx := HQ0.out.box
  have hkb := HQ0.out.kb
  have hnb := HQ0.out.nb
  rw [hq] at hn481
  clear hN hv hr hu htt hkk hft hq
  refine callsIn_of_wp_marks Try.func21 rfl trivial ?_ rfl
  simp only [Try.ntmps21, List.size_toArray, List.length_cons, List.length_nil, Nat.reduceAdd, Nat.reduceSub, Array.replicate_succ, Array.replicate_zero, List.push_toArray, List.append_toArray, List.nil_append, List.cons_append]
  gi_wp2_with (first
    | (refine ⟨trivial, ?_⟩; gi_at_call 48; refine (callsIn_wide.2 (cFw.out _ HB0.out)).mono ?_; rintro e w2 ⟨a5, c5, rfl, hn2, hb2⟩; have hQ2' := HQ0.out.on hb2; have hQ2 := hQ2'.on ((Below.refl _ _).alloc (Nat.le_refl _) (.cells #[.slice a5 q c5] 31)); have HB2 := Lib.hid ((HB0.out.trans (hb2.mono HB0.out.size)).trans ((((Below.refl _ _).alloc (Nat.le_refl _) (.cells #[.slice a5 q c5] 31)) : Below w2.heap.size w2 _).mono (by have := hQ2'.lt; omega))); have hN2 := Lib.hid (hn2.keep (((Below.refl _ _).alloc (Nat.le_refl _) (.cells #[.slice a5 q c5] 31)) : Below w2.heap.size w2 _)); have hkb2 := hQ2.kb; have hnb2 := hQ2.nb; have hfx := (cellNew w2 (.slice a5 q c5) 31).1; have hs2 := hQ2'.lt; clear hb2 hn2)
    | (refine ⟨trivial, ?_⟩; gi_at_call 45; refine (callsIn_wide.2 (cR.out _)).mono ?_; rintro e w3 ⟨rfl, rfl⟩)
    | (refine ⟨trivial, ?_⟩; gi_at_call 30; refine (callsIn_wide.2 (cW.out _)).mono ?_; rintro e w4 ⟨rfl, hb4⟩; have hQ4 := hQ2.on hb4; have HB4 := Lib.hid (HB2.out.trans (hb4.mono HB2.out.size)); have hN4 := Lib.hid (hN2.out.keep (hb4.mono (by simp))); have hz4 := hb4.size; have hfx4 := (hb4.cell (p := ⟨w2.heap.size, 0, none⟩) (by simp)).trans hfx; have hfx5 := ((((Below.refl _ _).alloc (Nat.le_refl _) (.cells #[.int .i64 0, .int .i64 1] 56)) : Below w4.heap.size w4 _).cell (p := ⟨w2.heap.size, 0, none⟩) (Nat.lt_of_lt_of_le (by simp) hz4)).trans hfx4; clear hb4)
    | (refine ⟨trivial, ?_⟩; gi_at_call 34; refine (eachWord_in (N - 1) a5 q c5 _).mono ?_; rintro e w3 ⟨rfl, rfl⟩))
  have hb5 : Below w4.heap.size w4 ((w4.alloc (.cells #[.int .i64 0, .int .i64 1] 56)).alloc (.cells #[.slice a5 q c5] 31)) := ((Below.refl _ _).alloc (Nat.le_refl _) _).alloc (by simp) _
  have hQ6 := hQ4.on hb5
  have hF6 : FrAt w4.heap.size ((w4.alloc (.cells #[.int .i64 0, .int .i64 1] 56)).alloc (.cells #[.slice a5 q c5] 31)) (0, 1) := by
    have h1 := heap_alloc_new w4 (.cells #[.int .i64 0, .int .i64 1] 56)
    have h2 : Below (w4.alloc (.cells #[.int .i64 0, .int .i64 1] 56)).heap.size (w4.alloc (.cells #[.int .i64 0, .int .i64 1] 56)) ((w4.alloc (.cells #[.int .i64 0, .int .i64 1] 56)).alloc (.cells #[.slice a5 q c5] 31)) := (Below.refl _ _).alloc (Nat.le_refl _) _
    exact (h2.block _ (by simp)).trans h1
  have hT6 := (cellNew (w4.alloc (.cells #[.int .i64 0, .int .i64 1] 56)) (.slice a5 q c5) 31).1
  rw [World.size_alloc] at hT6
  have hz6 : w4.heap.size + 1 < ((w4.alloc (.cells #[.int .i64 0, .int .i64 1] 56)).alloc (.cells #[.slice a5 q c5] 31)).heap.size := by simp
  have hB6 : Below w.heap.size w ((w4.alloc (.cells #[.int .i64 0, .int .i64 1] 56)).alloc (.cells #[.slice a5 q c5] 31)) := HB4.out.trans (hb5.mono HB4.out.size)
  have hlE := hQ4.lt
  have hFE : w2.heap.size < w4.heap.size := Nat.lt_of_lt_of_le (by simp) hz4
  have HN6 := Lib.hid (hN4.out.keep (hb5.mono (Nat.le_of_lt hFE)))
  obtain ⟨E, hE⟩ : ∃ E, w4.heap.size = E := ⟨_, rfl⟩
  rw [hE] at hF6 hT6 hz6 hlE hFE ⊢
  clear hE hb5
  obtain ⟨W5, hW5⟩ : ∃ W5, (w4.alloc (.cells #[.int .i64 0, .int .i64 1] 56)).alloc (.cells #[.slice a5 q c5] 31) = W5 := ⟨_, rfl⟩
  rw [hW5] at hQ6 hF6 hT6 hz6 hB6 HN6 ⊢
  obtain ⟨s, hs⟩ : ∃ s, w.heap.size = s := ⟨_, rfl⟩
  have HSs := Lib.hid hs
  have HB6 := Lib.hid hB6
  rw [hs] at hQ6 hlE hB6 hs2 ⊢
  obtain ⟨B, hBB⟩ : ∃ B, w2.heap.size = B := ⟨_, rfl⟩
  rw [hBB] at HN6 hFE hs2 ⊢
  clear hW5 hbx hkb hnb hkb2 hnb2 hQ4 hQ2 hQ2' HB4 HB2 HB0 HQ0 cFw cR cW hs hfx hfx4 hfx5 hN2 hN4 hz4 hBB
  have hK0 : 0 < k ^ m := Nat.pow_pos (by omega)
  have hKb := pow_bd (k := k) (j := m) hk hm
  obtain ⟨K, hKK⟩ : ∃ K, k ^ m = K := ⟨_, rfl⟩
  have HKK := Lib.hid hKK
  rw [hKK] at hK0 hKb HRs
  clear hKK
  refine wpIn_rangeFunc_ownF rfl h1 (gf := 59) (lb := #[.pointer (some ⟨E + 1, 0, none⟩)]) rfl trivial (enters_of Try.func59 (by kernel_rfl) rfl)
    (each_stops (N - 1) (by omega) (E + 1) B q c5 a5 tt qs HV.out W5 hz6 (by omega) hT6 HN6.out) KeepE.trans (keepE_b hz6 (by omega)) (Below.refl _ _) (fun _ => rfl)
    (fun pre W => (FrAt E W (fra (hsum (begw k m) pre) K) ∧ Hb s a n c (k : Int) (m : Int) W) ∧ Below B W5 W)
    (fun _ _ _ => False)
    (OwnFrom.and (OwnFrom.and (Own.from (FrAt.own E (fun pre : List (EW tt qs) => fra (hsum (begw k m) pre) K)) _) (Own.from Hb.own _)) (ownFrom_below (by omega) (by omega)))
    (fun _ _ _ _ _ hs _ _ => hs)
    ⟨⟨by rw [show fra (hsum (begw k m) ([] : List (EW tt qs))) K = (0, 1) from fra_zero hK0]; exact hF6, hQ6⟩, Below.refl _ _⟩
    (fun x => { tmps := #[.agg #[.slice a n c], .int .i64 (k : Int), .int .i64 (m : Int), .pointer (some ⟨s, 0, none⟩), .pointer (some ⟨s + 1, 0, none⟩), .pointer (some ⟨s + 1 + 1, 0, none⟩), .pointer (some ⟨s + 1 + 1 + 1, 0, none⟩), .bool false, .pointer (some ⟨B, 0, none⟩), .bool true, .pointer (some ⟨E, 0, none⟩), undef, .string (bx x.x),
      .tuple #[.agg #[.slice a5 q c5], .bool true], .agg #[.slice a n c], .tuple #[.agg #[.slice a5 q c5], .bool true], .agg #[.slice a5 q c5], .bool true, .bool true, .bool false, .bool false, .int .i64 (k : Int), .int .i64 (m : Int), .bool true, .bool false, .bool false, undef, .agg #[.int .i64 0, .int .i64 1], .agg #[.slice a5 q c5],
      .func (.func 59) #[] #[.pointer (some ⟨E + 1, 0, none⟩)], .int .i64 (x.i : Int), .string (bx x.x), undef, undef, undef, undef, undef, undef, undef, undef, undef, undef], defers := [] }) ?assign ?body ?done ?stop
  case assign =>
    intro l x W K hK
    gi_wp2
    exact hK
  case body =>
    clear hF6 hT6 hQ6
    rintro l pre x W ⟨⟨hF, hQ⟩, hB⟩ hlt
    have hWz := hB.size
    have hx12 : x.x.length ≤ 12 := HV.out.short _ (at_mem x.at')
    have hxl : Low x.x := HV.out.tells.low x.i x.x x.at'
    have hxs : (bx x.x).size = x.x.length := by rw [← tx_len, tx_bx]
    have HSn : Hid (hsum (begw k m) (pre ++ [x]) = hsum (begw k m) pre + begw k m x.x) := Lib.hid (hsum_snoc _ _ _)
    have hsl := hsum_le (ps := qs) (t := tt) (begw k m) K (fun x => by rw [← HKK.out]; exact begw_le hk1) pre
    have hs40 : K * pre.length ≤ K * 40 := Nat.mul_le_mul_left _ (Nat.le_of_lt hlt)
    have h1b : 1 ≤ N - 1 - 1 := by omega
    have hnb := hQ.nb
    have hkb := hQ.kb
    have HQ := Lib.hid hQ
    have HB := Lib.hid hB
    have HF := Lib.hid hF
    obtain ⟨M, hM⟩ : ∃ M, hsum (begw k m) pre = M := ⟨_, rfl⟩
    rw [hM] at HSn hsl HF
    by_cases hl : x.x.length ≤ m
    · have hbl2 : decide (((bx x.x).size : Int) ≤ (m : Int)) = true := decide_eq_true (by rw [hxs]; omega)
      have hbl3 : ((bx x.x).size : Int) ≤ (m : Int) := by rw [hxs]; omega
      have hadd := sch_add (m := M) (x := x.x) (n := m) hk1 hl
      have hprt := sch_part (k := k) (n := m) (x := x.x) hk1 hl
      obtain ⟨hd1, hd2, _⟩ := sch_den (k := k) (x := x.x) hk1
      have hpp := frac_part (m := M) hK0 rfl
      have hpd := fra_den_pos (a := M) hK0
      have hpv := fra_den_dvd M K
      have hd3 : (sch k x.x).2 ∣ K := by rw [← HKK.out]; exact Nat.dvd_trans hd2 (Nat.pow_dvd_pow k hl)
      rw [HKK.out] at hadd hprt
      have cP := Lib.hid (fun W' => plus_any (fra M K) (sch k x.x) K W' hpd hd1 hK0 hpv hd3 (by omega) (by omega))
      have cS := Lib.hid (fun W' => startChance_any k (bx x.x) hk1 hk (by omega) (by rw [tx_bx]; exact hxl) W')
      rw [tx_bx] at cS
      have hadw : addw k m x.x = begw k m x.x := by
        unfold begw
        rw [if_pos hl]
      rw [hadd, hadw, ← HSn.out] at cP
      obtain ⟨⟨p1, p2⟩, hp⟩ : ∃ p, fra M K = p := ⟨_, rfl⟩
      obtain ⟨⟨q1, q2⟩, hq⟩ : ∃ q, sch k x.x = q := ⟨_, rfl⟩
      obtain ⟨⟨z1, z2⟩, hz⟩ : ∃ z, fra (hsum (begw k m) (pre ++ [x])) K = z := ⟨_, rfl⟩
      rw [hp] at HF cP
      rw [hq] at cP cS
      rw [hz] at cP
      simp only [fv_mk] at cP cS
      obtain ⟨e1, e2, _, _⟩ := frozen_new2 (show W.heap[E]? = some (.cells #[.int .i64 (p1 : Int), .int .i64 (p2 : Int)] 56) from HF.out)
      have hEw : E < W.heap.size := by omega
      have HZ := Lib.hid hz
      clear hF hQ hB hp hq hz hM hadd hprt hd1 hd2 hd3 hpp hpd hpv hadw hl hxl hsl hs40
      gi_wp2
      gi_region_with (first
        | (refine ⟨trivial, ?_⟩; gi_at_call 46; refine (CallsIn.inRound l (callsIn_wide.2 (cS.out _))).mono ?_; rintro e w6 ⟨rfl, hb6⟩; have c6 := (hb6.cell (p := ⟨E, 0, none⟩) hEw).trans e1; have d6 := (hb6.cell (p := ⟨E, 1, none⟩) hEw).trans e2; have hEw6 : E < w6.heap.size := Nat.lt_of_lt_of_le hEw hb6.size)
        | (refine ⟨trivial, ?_⟩; gi_at_call 37; refine (CallsIn.inRound l (callsIn_wide.2 (cP.out _))).mono ?_; rintro e w7 ⟨rfl, hb7⟩; have hH7 := (hb7.block E hEw6).trans ((hb6.block E hEw).trans HF.out); obtain ⟨f1, f2, f3, f4⟩ := frozen_new2 hH7))
      all_goals
        have hb : Below W.heap.size W w7 := ((Below.refl W.heap.size W).drew.trans hb6).trans (hb7.mono hb6.size)
        have hWh := pair_heap9 (a' := .int .i64 (z1 : Int)) (b' := .int .i64 (z2 : Int)) hH7
        have hWo := (pair_other9 (a' := .int .i64 (z1 : Int)) (b' := .int .i64 (z2 : Int)) (W := w7) (s := E) (s' := E + 1) (by omega)).trans (hb.block (E + 1) (by omega))
        have hWq := HQ.out.on2 (pair_below (v1 := .int .i64 (z1 : Int)) (v2 := .int .i64 (z2 : Int)) (hb.mono (show s + 1 + 1 + 1 + 1 ≤ W.heap.size by omega)) (show s + 1 + 1 + 1 + 1 ≤ E by omega))
        have hWs := pair_below (v1 := .int .i64 (z1 : Int)) (v2 := .int .i64 (z2 : Int)) (hb.mono (show B ≤ W.heap.size by omega)) (show B ≤ E by omega)
        have hKo := (keepsOthers_of_below hb).trans ((KeepsOthers.setCell w7 ⟨E, 0, none⟩ (.int .i64 (z1 : Int))).trans (KeepsOthers.setCell _ ⟨E, 1, none⟩ (.int .i64 (z2 : Int))))
        clear f1 f2 f3 f4 c6 d6 e1 e2 hb6 hb7 hb hH7 hnb hkb
        obtain ⟨w8, hw8⟩ : ∃ w8, (w7.setCell ⟨E, 0, none⟩ (.int .i64 (z1 : Int))).setCell ⟨E, 1, none⟩ (.int .i64 (z2 : Int)) = w8 := ⟨_, rfl⟩
        rw [hw8] at hWh hWo hWq hWs hKo ⊢
        clear hw8
        gi_wp2
        refine ⟨hKo, ⟨hWo, hWs⟩, ⟨?_, hWq⟩, HB.out.trans hWs⟩
        rw [HZ.out]
        exact hWh
    · have hbl2 : decide (((bx x.x).size : Int) ≤ (m : Int)) = false := decide_eq_false (by rw [hxs]; omega)
      have hbl3 : ¬ ((bx x.x).size : Int) ≤ (m : Int) := by rw [hxs]; omega
      have hadw : begw k m x.x = 0 := by
        unfold begw
        rw [if_neg hl]
      have HSe : Hid (hsum (begw k m) (pre ++ [x]) = M) := Lib.hid (by rw [HSn.out, hadw]; rfl)
      clear hF hQ hB hM hxl hsl hs40
      gi_wp2
      refine ⟨keepsOthers_of_below (Below.refl _ _), KeepE.refl _ _ _, ⟨?_, HQ.out⟩, HB.out⟩
      rw [HSe.out]
      exact HF.out
  case done =>
    rintro D ys W hD hys ⟨⟨hF, hQ⟩, hB⟩ hK
    rw [hsum_all HV.out _ hys, HRs.out] at hF
    obtain ⟨e1, e2, _, _⟩ := frozen_new2 (show W.heap[E]? = some (.cells #[.int .i64 (r1 : Int), .int .i64 (r2 : Int)] 56) from hF)
    obtain ⟨f1, f2, f3, f4⟩ := frozen_new2 hQ.res
    have hWh := pair_set (a' := .int .i64 (r1 : Int)) (b' := .int .i64 (r2 : Int)) hQ.res
    have hWs := pair_below (v1 := .int .i64 (r1 : Int)) (v2 := .int .i64 (r2 : Int)) (hB.mono (show s ≤ B by omega)) (show s ≤ s + 1 + 1 + 1 by omega)
    have hK' := ((KeepsOthers.setCell W ⟨s + 1 + 1 + 1, 0, none⟩ (.int .i64 (r1 : Int))).trans (KeepsOthers.setCell _ ⟨s + 1 + 1 + 1, 1, none⟩ (.int .i64 (r2 : Int)))).same D _ hK rfl
    have hWz := hB.size
    clear hF hys hQ hB
    gi_wp2
    refine ⟨by simp, .inl ⟨_, _, rfl, run_takeDeferred hK', ?_⟩⟩
    have hc5 := cell_kept hWh.1 (grownBy_putObj' _ D (.deferred none)) (fun r e => by cases e; exact ⟨_, hK', rfl⟩)
    have hc6 := cell_kept hWh.2 (grownBy_putObj' _ D (.deferred none)) (fun r e => by cases e; exact ⟨_, hK', rfl⟩)
    refine ⟨.tuple #[.agg #[.int .i64 (r1 : Int), .int .i64 (r2 : Int)], .bool true], ?_, rfl, ?_⟩
    · simp [results, Try.f21, go_sem, hc5, hc6]
    · have hBw := HB6.out
      rw [HSs.out] at hBw ⊢
      exact (hBw.trans hWs).trans (belowK_b (w := W5) (by omega) _ D _ _ hD hK' rfl rfl)
  case stop =>
    rintro D c' pre W _ _ h _
    exact h.elim

end Go.Proofs.Ytibdfhhbkbncgab

/-
  The chance that a random text begins with a word: the program where it fails.
-/
namespace Go.Proofs.Ytibdfhhbkbncgab
open Go.RowKit Go.Shelf
set_option linter.unusedVariables false
set_option linter.unusedSimpArgs false

attribute [local go_sem] Oper.semAt_some

set_option maxRecDepth 1000000 in
set_option maxHeartbeats 4000000 in
theorem beg_not (N : Nat) (hN3 : 3 ≤ N) (a : Option Addr) (n c : Nat) (t : List Nd) (k0 m0 : Int) (hr : ¬ (trieB t = true ∧ 1 ≤ k0 ∧ k0 ≤ 26 ∧ 0 ≤ m0 ∧ m0 ≤ 12)) (w : World) (hN : Nds w.heap.size w a n c t) :
    CallsIn Fence.wide N Try.prog 21 #[.agg #[.slice a n c], .int .i64 k0, .int .i64 m0] w fun e w' => e = .returned (.tuple #[.agg #[.int .i64 0, .int .i64 0], .bool false]) ∧ Below w.heap.size w w' := by
  have h1 : 1 ≤ N := by omega
  have HB0 := Lib.hid (start_below w a n c k0 m0)
  have HQ0 := Lib.hid (Hb.start w a n c k0 m0)
  have cFw : Hid (∀ (W' : World), Below w.heap.size w W' → Calls Try.prog 48 #[.agg #[.slice a n c]] W' fun e w' => ∃ a5 q5 c5 ok, e = .returned (.tuple #[.agg #[.slice a5 q5 c5], .bool ok]) ∧ (ok = true → trieB t = true) ∧ Below W'.heap.size W' w') := Lib.hid (fun W' h => (implFirstWords_any a n c t W' ((hN.keep h).mono h.size)).mono fun e w' hh => by
    obtain ⟨v, h1, h2, h3⟩ := hh
    obtain ⟨a5, c5, rfl⟩ := own_slice h2
    refine ⟨a5, _, c5, _, h1, fun e => ?_, h3⟩
    cases ht : trieB t with
    | true => rfl
    | false => rw [ht, (resT_no _).2] at e; cases e)
  have cR : Hid (trieB t = true → ∀ W', Calls Try.prog 45 #[.int .i64 k0, .int .i64 m0] W' fun e w' => e = .returned (.bool false) ∧ w' = W') := Lib.hid (fun ht W' => by
    have := isRandom_any k0 m0 W'
    rwa [decide_eq_false (fun h => hr ⟨ht, h⟩)] at this)
  have hbx := HQ0.out.box
  have hkb := HQ0.out.kb
  have hnb := HQ0.out.nb
  clear hN hr
  refine callsIn_of_wp_marks Try.func21 rfl trivial ?_ rfl
  simp only [Try.ntmps21, List.size_toArray, List.length_cons, List.length_nil, Nat.reduceAdd, Nat.reduceSub, Array.replicate_succ, Array.replicate_zero, List.push_toArray, List.append_toArray, List.nil_append, List.cons_append]
  gi_wp2_with fail
  refine ⟨trivial, ?_⟩
  refine (callsIn_wide.2 (cFw.out _ HB0.out)).mono ?_
  rintro e w2 ⟨a5, q5, c5, ok, rfl, hok, hb2⟩
  have hQ2' := HQ0.out.on hb2
  have hQ2 := hQ2'.on ((Below.refl _ _).alloc (Nat.le_refl _) (.cells #[.slice a5 q5 c5] 31))
  have HB2 := Lib.hid ((HB0.out.trans (hb2.mono HB0.out.size)).trans ((((Below.refl _ _).alloc (Nat.le_refl _) (.cells #[.slice a5 q5 c5] 31)) : Below w2.heap.size w2 _).mono (by have := hQ2'.lt; omega)))
  have hkb2 := hQ2.kb
  have hnb2 := hQ2.nb
  obtain ⟨f1, f2, f3, f4⟩ := frozen_new2 hQ2.res
  have hWh := pair_set (a' := .int .i64 0) (b' := .int .i64 0) hQ2.res
  have hWs := pair_below (v1 := .int .i64 0) (v2 := .int .i64 0) HB2.out (show w.heap.size ≤ w.heap.size + 1 + 1 + 1 by omega)
  have HWh := Lib.hid hWh
  have HWs := Lib.hid hWs
  clear hb2 hWh hWs hbx hkb hnb
  cases ok with
  | false =>
    gi_wp2
    refine ⟨trivial, ?_⟩
    gi_wp2
    refine ⟨.tuple #[.agg #[.int .i64 0, .int .i64 0], .bool false], ?_, rfl, HWs.out⟩
    simp [results, Try.f21, go_sem, HWh.out.1, HWh.out.2]
  | true =>
    have cR1 := Lib.hid (cR.out (hok rfl))
    gi_wp2_with (first
      | (refine ⟨trivial, ?_⟩; gi_at_call 45; refine (callsIn_wide.2 (cR1.out _)).mono ?_; rintro e w3 ⟨rfl, rfl⟩))
    refine ⟨.tuple #[.agg #[.int .i64 0, .int .i64 0], .bool false], ?_, rfl, HWs.out⟩
    simp [results, Try.f21, go_sem, HWh.out.1, HWh.out.2]

end Go.Proofs.Ytibdfhhbkbncgab

/-
  The chance that a random text begins with a word: the reference and the program answer the same.
-/
namespace Go.Proofs.Ytibdfhhbkbncgab
open Go.RowKit Go.Shelf
set_option linter.unusedVariables false
set_option linter.unusedSimpArgs false

theorem agreeChanceBegins (t : List Nd) (n c : Nat) (k0 m0 : Int) (hn : n ≤ 1048576) (hk0 : -9223372036854775808 ≤ k0 ∧ k0 ≤ 9223372036854775807) (hm0 : -9223372036854775808 ≤ m0 ∧ m0 ≤ 9223372036854775807) : ∃ (x : Nat × Nat) (ok : Bool),
    (∀ (W : World) (a : Option Addr), Nds W.heap.size W a n c t → Calls Try.prog 20 #[.agg #[.slice a n c], .int .i64 k0, .int .i64 m0] W fun e w' => e = .returned (.tuple #[fv x, .bool ok]) ∧ Below W.heap.size W w') ∧
    (∀ (W : World) (a : Option Addr), Nds W.heap.size W a n c t → Calls Try.prog 21 #[.agg #[.slice a n c], .int .i64 k0, .int .i64 m0] W fun e w' => e = .returned (.tuple #[fv x, .bool ok]) ∧ Below W.heap.size W w') := by
  by_cases hg : trieB t = true ∧ 1 ≤ k0 ∧ k0 ≤ 26 ∧ 0 ≤ m0 ∧ m0 ≤ 12
  · obtain ⟨ht, h1, h2, h3, h4⟩ := hg
    obtain ⟨ps, hv⟩ := trieB_iff.1 ht
    obtain ⟨k, rfl⟩ : ∃ k : Nat, k0 = (k : Int) := ⟨k0.toNat, by omega⟩
    obtain ⟨m, rfl⟩ : ∃ m : Nat, m0 = (m : Int) := ⟨m0.toNat, by omega⟩
    obtain ⟨tt, qs, hu, hw, q1, q2, q3⟩ := first_made hv
    exact ⟨_, true, fun W a h => specBeg_yes t ps n c k m hn hv (by omega) (by omega) (by omega) _ rfl W a h, fun W a h => callsIn_wide.1 (beg_in 5 (by omega) a n c t ps tt qs k m hv hu q1 q2 q3 (by omega) (by omega) (by omega) W h _ _ (by rw [hw]))⟩
  · exact ⟨(0, 0), false, fun W a h => specBeg_no t n c k0 m0 hn hg W a h, fun W a h => callsIn_wide.1 (beg_not 5 (by omega) a n c t k0 m0 hg W h)⟩

end Go.Proofs.Ytibdfhhbkbncgab
