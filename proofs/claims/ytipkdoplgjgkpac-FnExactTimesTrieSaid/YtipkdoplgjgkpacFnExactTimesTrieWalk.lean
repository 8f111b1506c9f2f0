/-
  The walk of the law FnExactTimesTrie: both functions answer the same, in memory of their own.
-/
import Derived.Test.YtipkdoplgjgkpacLaw2
import Derived.Test.YtipkdoplgjgkpacTimesI
import Derived.Deep.DeepCutAuto
import Derived.Deep.RegionHeld3
namespace Go.Proofs.Ytipkdoplgjgkpac.fnExactTimesTrie
open Go.RowKit
set_option linter.unusedVariables false

/-- what is known behind the reference's call -/
def At8 (W0 W : World) (ok : Bool) (m : Nat) (tt : List Nd) (s6 s7 : Value) : Prop := ∃ b4 B3 a3 c3, s6 = .pointer (some ⟨b4, 0, none⟩) ∧ s7 = .bool ok ∧ R2 W0 W B3 b4 m a3 c3 tt
theorem At8.mk {W0 W : World} {ok : Bool} {m B3 b4 c3 : Nat} {a3 : Option Addr} {tt : List Nd} (h : R2 W0 W B3 b4 m a3 c3 tt) : Hid (At8 W0 W ok m tt (.pointer (some ⟨b4, 0, none⟩)) (.bool ok)) := Lib.hid ⟨_, _, _, _, rfl, rfl, h⟩

set_option maxRecDepth 1000000 in
set_option maxHeartbeats 4000000 in
theorem walk (a : Option Addr) (n c : Nat) (t : List Nd) (b : Option Addr) (k d : Nat) (u : List Nd) (w : World) (w0 : n ≤ maxLen ∧ Nds w.heap.size w a n c t) (w1 : k ≤ maxLen ∧ Nds w.heap.size w b k d u) :
    Calls Try.prog 5 #[.agg #[.slice a n c], .agg #[.slice b k d]] w fun e w' => e = .returned (.bool true) ∧ Below w.heap.size w w' := by
  obtain ⟨hm, h⟩ := w0
  obtain ⟨hm', h'⟩ := w1
  unfold maxLen at *
  have C := h.cap
  have T := h.top
  have C' := h'.cap
  have T' := h'.top
  have HFitT : Hid (Fits t) := Lib.hid h.rng
  have HFitU : Hid (Fits u) := Lib.hid h'.rng
  have HB1 : Hid (Below w.heap.size w ((w.alloc (.cells #[.slice a n c] 24)).alloc (.cells #[.slice b k d] 24))) := Lib.hid (((Below.refl _ _).alloc (Nat.le_refl _) _).alloc (by simp) _)
  have hlt0 : w.heap.size + 1 < ((w.alloc (.cells #[.slice a n c] 24)).alloc (.cells #[.slice b k d] 24)).heap.size := by simp
  have hbx : ((w.alloc (.cells #[.slice a n c] 24)).alloc (.cells #[.slice b k d] 24)).cell? ⟨w.heap.size, 0, none⟩ = some (.slice a n c) := by
    rw [World.cell?_alloc_lt _ _ _ (by simp)]
    simp
  have hby : ((w.alloc (.cells #[.slice a n c] 24)).alloc (.cells #[.slice b k d] 24)).cell? ⟨w.heap.size + 1, 0, none⟩ = some (.slice b k d) := by
    have := (Boxed.new (w.alloc (.cells #[.slice a n c] 24)) 24 (.slice b k d)).cell
    rwa [World.size_alloc] at this
  have HN : Hid (Nds w.heap.size ((w.alloc (.cells #[.slice a n c] 24)).alloc (.cells #[.slice b k d] 24)) a n c t) := Lib.hid (h.keep HB1.out)
  have HM : Hid (Nds w.heap.size ((w.alloc (.cells #[.slice a n c] 24)).alloc (.cells #[.slice b k d] 24)) b k d u) := Lib.hid (h'.keep HB1.out)
  clear h h'
  go_enter Try.func5, Try.ntmps5
  go_wp2_with fail
  obtain ⟨W0, hW0⟩ : ∃ W0, (w.alloc (.cells #[.slice a n c] 24)).alloc (.cells #[.slice b k d] 24) = W0 := ⟨_, rfl⟩
  rw [hW0] at HB1 hlt0 hbx hby HN HM ⊢
  clear hW0
  have HSX : Hid (∀ W, Below W0.heap.size W0 W → W.cell? ⟨w.heap.size, 0, none⟩ = some (.slice a n c) ∧ W.cell? ⟨w.heap.size + 1, 0, none⟩ = some (.slice b k d)) := Lib.hid (fun W hW => ⟨(hW.cell (p := ⟨w.heap.size, 0, none⟩) (Nat.lt_of_succ_lt hlt0)).trans hbx, (hW.cell (p := ⟨w.heap.size + 1, 0, none⟩) hlt0).trans hby⟩)
  clear hbx hby
  have cS := Lib.hid (szTrie_any w.heap.size a n c t 1048576 W0 HN.out (by omega) (by omega))
  by_cases hbig : 1048576 < n
  · have e : (if (1048576 : Int) - n < 0 then (-1 : Int) else 1048576 - n) = -1 := if_pos (by omega)
    rw [e] at cS
    clear e
    refine cS.out.mono ?_
    rintro e w1 ⟨rfl, hb1⟩
    go_wp2_with fail
    go_ret
    exact ⟨rfl, HB1.out.trans (hb1.mono (by omega))⟩
  have hn : n ≤ 1048576 := by omega
  have e : (if (1048576 : Int) - n < 0 then (-1 : Int) else 1048576 - n) = 1048576 - n := if_neg (by omega)
  rw [e] at cS
  clear e
  refine cS.out.mono ?_
  rintro e w1 ⟨rfl, hb1⟩
  have H1 := Lib.hid hb1
  clear hb1
  obtain ⟨hbx, hby⟩ := HSX.out _ H1.out
  have hl0 : ¬ ((1048576 : Int) - n < 0) := by omega
  go_wp2_with fail
  clear hbx hby
  have cS2 := Lib.hid (szTrie_any w.heap.size b k d u (1048576 - n) w1 (HM.out.keep (H1.out.mono (by omega))) (by omega) (by omega))
  by_cases hbig2 : 1048576 - (n : Int) < k
  · have e : (if (1048576 : Int) - n - k < 0 then (-1 : Int) else 1048576 - n - k) = -1 := if_pos (by omega)
    rw [e] at cS2
    clear e
    refine cS2.out.mono ?_
    rintro e w2 ⟨rfl, hb2⟩
    go_wp2_with fail
    go_ret
    exact ⟨rfl, HB1.out.trans ((H1.out.trans (hb2.mono H1.out.size)).mono (by omega))⟩
  have hk : k ≤ 1048576 := by omega
  have e : (if (1048576 : Int) - n - k < 0 then (-1 : Int) else 1048576 - n - k) = 1048576 - n - k := if_neg (by omega)
  rw [e] at cS2
  clear e
  refine cS2.out.mono ?_
  rintro e w1b ⟨rfl, hb2⟩
  have H2 := Lib.hid (H1.out.trans (hb2.mono H1.out.size))
  clear hb2 H1 cS cS2
  have hl1 : ¬ ((1048576 : Int) - n - k < 0) := by omega
  have cTa : Hid (∀ W, Below W0.heap.size W0 W → Calls Try.prog 12 #[.agg #[.slice a n c]] W fun e w' => ∃ g, e = .returned (.agg #[.slice (some ⟨g, 0, none⟩) n n]) ∧ w'.ownsRow W.heap.size 86 3 (.slice (some ⟨g, 0, none⟩) n n) n (ndc t) ∧ Below W.heap.size W w') := Lib.hid (fun W hW => toTrie_any w.heap.size a n c t W (by have := hW.size; omega) (HN.out.keep (hW.mono (by omega))) hn)
  have cTb : Hid (∀ W, Below W0.heap.size W0 W → Calls Try.prog 12 #[.agg #[.slice b k d]] W fun e w' => ∃ g, e = .returned (.agg #[.slice (some ⟨g, 0, none⟩) k k]) ∧ w'.ownsRow W.heap.size 86 3 (.slice (some ⟨g, 0, none⟩) k k) k (ndc u) ∧ Below W.heap.size W w') := Lib.hid (fun W hW => toTrie_any w.heap.size b k d u W (by have := hW.size; omega) (HM.out.keep (hW.mono (by omega))) hk)
  obtain ⟨tt, ok, hfit, hm2, hsp, him⟩ := agreeTimesTrie t u n k hn hk
  have HFit := Lib.hid hfit
  have cSp := Lib.hid hsp
  have cIm := Lib.hid him
  obtain ⟨m, hmm⟩ : ∃ m, tt.length = m := ⟨_, rfl⟩
  rw [hmm] at hm2
  unfold ReadRes at cSp
  unfold TrieRes at cIm
  rw [hmm] at cSp cIm
  clear hfit hsp him hmm
  have hrr : (ok != ok) = false := by cases ok <;> rfl
  have hq0 : ¬ (((1 + 3 * n : Nat) : Int) < 0) := by omega
  have hq1 : ¬ (((1 + 3 * n + 3 * k : Nat) : Int) < 0) := by omega
  have hq2 : ¬ (((1 + 3 * m : Nat) : Int) < 0) := by omega
  have hq3 : (((1 + 3 * m : Nat) : Int) != ((1 + 3 * m : Nat) : Int)) = false := by simp
  go_upto_region 8 with fail
  go_cut [6, 7] (fun s6 s7 wx => Hid (At8 W0 wx ok m tt s6 s7))
  case first =>
    have HD : Hid (Below W0.heap.size W0 w1b.drew) := Lib.hid H2.out.drew
    have HDa : Hid (Below W0.heap.size W0 (w1b.alloc (.cells #[.slice none 0 0] 30)).drew) := Lib.hid (H2.out.alloc H2.out.size _).drew
    have HBZ0 : Hid (Boxed (w1b.alloc (.cells #[.slice none 0 0] 30)).drew w1b.heap.size 30 (.slice none 0 0)) := Lib.hid (Boxed.new _ _ _)
    have HRE : Hid (∀ W a3 c3, QC W0 W a3 m c3 tt → Boxed W w1b.heap.size 30 (.slice none 0 0) → R2 W0 (W.setCell ⟨w1b.heap.size, 0, none⟩ (.slice a3 m c3)) W.heap.size w1b.heap.size m a3 c3 tt) := Lib.hid (fun W a3 c3 hQ hB => R2.early hQ H2.out hB)
    obtain ⟨hbx, hby⟩ := HSX.out _ HD.out
    go_region_held3 (fun w' => w'.cell? ⟨w.heap.size, 0, none⟩ = some (.slice a n c) ∧ w'.cell? ⟨w.heap.size + 1, 0, none⟩ = some (.slice b k d))
      (first
        | with_reducible exact HSX.out _ hqC.bel
        | with_reducible exact HSX.out _ (hqC.al _).bel
        | with_reducible exact HSX.out _ hqB.bel
        | with_reducible exact HSX.out _ (hqB.al _).bel
        | with_reducible exact HSX.out _ hqA.bel
        | with_reducible exact HSX.out _ (hqA.al _).bel
        | with_reducible exact HSX.out _ HD.out
        | with_reducible exact HSX.out _ HDa.out
        | with_reducible exact HSX.out _ (hqC.bel.setCell (p := ⟨_, 0, none⟩) hqA.bel.size _)
        | with_reducible exact HSX.out _ (hqC.bel.setCell (p := ⟨_, 0, none⟩) hqB.bel.size _)
        | with_reducible exact HSX.out _ (hqC.bel.setCell (p := ⟨_, 0, none⟩) H2.out.size _)
        | with_reducible exact HSX.out _ ((H2.out.alloc H2.out.size _))
        | with_reducible exact HSX.out _ ((hqC.al _).bel.setCell (p := ⟨_, 0, none⟩) hqC.bel.size _))
      (first
        | (have hg := hqB; clear hg; go_at_call 17; refine (cSp.out _ _ _ (by first | exact hqB.nds1 | exact (hqB.al _).nds1) (by first | exact hqB.nds2 | exact (hqB.al _).nds2)).mono ?_; rintro e w4 ⟨a4, c4, rfl, hN4, hb4⟩; have hqC := QC.mk' (by first | exact hqB | exact hqB.al _) hb4 hN4; (first | (with_reducible have hbz := box_stay (box_stay (box_stay HBZ0.out hb2) hb3) hb4; have hrc := hbz.cell; have hrf := hbz.frozen) | (with_reducible have hbz := box_stay (box_stay (Boxed.new w2 30 (.slice none 0 0)) hb3) hb4; have hrc := hbz.cell; have hrf := hbz.frozen) | (with_reducible have hbz := box_stay (Boxed.new w3 30 (.slice none 0 0)) hb4; have hrc := hbz.cell; have hrf := hbz.frozen) | skip))
        | (have hg := hqA; clear hg; go_at_call 12; refine (cTb.out _ (by first | exact hqA.bel | exact (hqA.al _).bel)).mono ?_; rintro e w3 ⟨g3, rfl, hO3, hb3⟩; have hqB := QB.mk' (by first | exact hqA | exact hqA.al _) hb3 hO3 HFitU.out)
        | (go_at_call 12; refine (cTa.out _ (by first | exact HD.out | exact HDa.out)).mono ?_; rintro e w2 ⟨g2, rfl, hO2, hb2⟩; have hqA := QA.mk' (by first | exact HD.out | exact HDa.out) hb2 hO2 HFitT.out))
    all_goals
      go_wp2
      go_meet
      first
        | with_reducible exact At8.mk (R2.late' hqC)
        | with_reducible exact At8.mk (HRE.out _ _ _ hqC hbz)
        | with_reducible exact At8.mk (R2.early hqC hqA.bel hbz)
        | with_reducible exact At8.mk (R2.early hqC hqB.bel hbz)
  case rest =>
    obtain ⟨b4, B3, a3, c3, rfl, rfl, R8⟩ := hcut.out
    rename World => w8
    have H8 := Lib.hid R8
    clear R8 hcut
    obtain ⟨hbx, hby⟩ := HSX.out _ H8.out.bel
    have hs0 := H8.out.s0
    go_wp2_with fail
    refine (cTa.out _ H8.out.bel).mono ?_
    rintro e w9 ⟨gA, rfl, hOA, hbA⟩
    have H9 := Lib.hid (H8.out.keep hbA)
    have HXA : Hid (Boxed (w9.alloc (.cells #[.slice (some ⟨gA, 0, none⟩) n n] 30)) w9.heap.size 30 (.slice (some ⟨gA, 0, none⟩) n n)) := Lib.hid (Boxed.new _ _ _)
    have HOA := Lib.hid ((own_down hOA H8.out.le).alloc (.cells #[.slice (some ⟨gA, 0, none⟩) n n] 30))
    have H10 := Lib.hid (H9.out.keep ((Below.refl _ _).alloc (Nat.le_refl _) (.cells #[.slice (some ⟨gA, 0, none⟩) n n] 30)))
    clear hbx hby hOA hbA
    obtain ⟨hbx, hby⟩ := HSX.out _ H10.out.bel
    go_wp2_with fail
    obtain ⟨w10, hw10⟩ : ∃ w10, w9.alloc (.cells #[.slice (some ⟨gA, 0, none⟩) n n] 30) = w10 := ⟨_, rfl⟩
    rw [hw10] at HXA HOA H10 hbx hby ⊢
    clear hw10 hbx hby
    refine (cTb.out _ H10.out.bel).mono ?_
    rintro e w11 ⟨gB, rfl, hOB, hbB⟩
    have H12 := Lib.hid ((H10.out.keep hbB).keep ((Below.refl _ _).alloc (Nat.le_refl _) (.cells #[.slice (some ⟨gB, 0, none⟩) k k] 30)))
    have HXB : Hid (Boxed (w11.alloc (.cells #[.slice (some ⟨gB, 0, none⟩) k k] 30)) w11.heap.size 30 (.slice (some ⟨gB, 0, none⟩) k k)) := Lib.hid (Boxed.new _ _ _)
    have HOB := Lib.hid (hOB.alloc (.cells #[.slice (some ⟨gB, 0, none⟩) k k] 30))
    have HXA2 := Lib.hid ((box_stay HXA.out hbB).alloc (.cells #[.slice (some ⟨gB, 0, none⟩) k k] 30))
    have HOA2 := Lib.hid ((own_stay HOA.out hbB).alloc (.cells #[.slice (some ⟨gB, 0, none⟩) k k] 30))
    have HgA : Hid (gA < w10.heap.size) := Lib.hid (own_lt HOA.out)
    clear hOB hbB
    have hbz := HXA2.out.cell
    have hbw := HXB.out.cell
    go_wp2_with fail
    clear hbz hbw
    obtain ⟨w12, hw12⟩ : ∃ w12, w11.alloc (.cells #[.slice (some ⟨gB, 0, none⟩) k k] 30) = w12 := ⟨_, rfl⟩
    rw [hw12] at H12 HXB HOB HXA2 HOA2 ⊢
    clear hw12
    refine (cIm.out _ _ _ (nds_own HOA2.out HFitT.out) (nds_own HOB.out HFitU.out)).mono ?_
    rintro e w13 ⟨v7, rfl, hO7, hb7⟩
    obtain ⟨a7, c7, rfl⟩ := own_slice hO7
    have K14 : Hid (L2 W0 (w13.alloc (.cells #[.slice a7 m c7] 30)) B3 b4 m a3 c3 tt w9.heap.size gA n t w11.heap.size gB k w10.heap.size u w13.heap.size w12.heap.size a7 c7 tt) := Lib.hid (by
      have hgb := own_lt HOB.out
      have h1 := HgA.out
      have h2 := HXB.out.lt
      have h3 := own_base HOB.out
      exact ⟨(H12.out.keep hb7).keep ((Below.refl _ _).alloc (Nat.le_refl _) _), (box_stay HXA2.out hb7).alloc _, (own_stay HOA2.out hb7).alloc _, (box_stay HXB.out hb7).alloc _, (own_stay HOB.out hb7).alloc _, Boxed.new _ _ _, hO7.alloc _, h1, hgb, H10.out.le, by omega, Nat.le_trans hb7.size (by simp)⟩)
    clear hO7 hb7
    have hx := K14.out.r.box.cell
    have hy := K14.out.box7.cell
    go_wp2_with fail
    clear hx hy
    obtain ⟨w14, hw14⟩ : ∃ w14, w13.alloc (.cells #[.slice a7 m c7] 30) = w14 := ⟨_, rfl⟩
    rw [hw14] at K14 ⊢
    clear hw14
    refine (eq_trie a7 a3 m c7 c3 tt w14 (nds_own K14.out.row7 HFit.out) K14.out.r.read).mono ?_
    rintro e w15 ⟨rfl, hb15⟩
    have K15 := Lib.hid (K14.out.keep hb15)
    clear hb15
    go_upto_region 14 with fail
    have HDq : Hid (Below w15.heap.size w15 w15.drew) := Lib.hid (Below.refl _ _).drew
    have HSq : Hid (∀ W', Below w15.heap.size w15 W' → W'.cell? ⟨w.heap.size, 0, none⟩ = some (.slice a n c) ∧ W'.cell? ⟨w9.heap.size, 0, none⟩ = some (.slice (some ⟨gA, 0, none⟩) n n)) := Lib.hid (fun W' hW => ⟨(HSX.out _ (K15.out.keep hW).r.bel).1, (K15.out.keep hW).boxA.cell⟩)
    have HTq : Hid (∀ W', Below w15.heap.size w15 W' → Below W0.heap.size W0 W') := Lib.hid (fun W' hW => (K15.out.keep hW).r.bel)
    have HEq : Hid (∀ W' W'' g, Below w15.heap.size w15 W' → Below W'.heap.size W' W'' → W''.ownsRow W'.heap.size 86 3 (.slice (some ⟨g, 0, none⟩) n n) n (ndc t) → Calls Try.prog 14 #[.agg #[.slice (some ⟨gA, 0, none⟩) n n], .agg #[.slice (some ⟨g, 0, none⟩) n n]] W'' fun e w' => e = .returned (.bool true) ∧ Below W''.heap.size W'' w') := Lib.hid (fun W' W'' g h1 h2 hO => eq_trie _ _ n n n t W'' (nds_own ((K15.out.keep h1).keep h2).rowA HFitT.out) (nds_own hO HFitT.out))
    obtain ⟨hbx, hby⟩ := HSq.out _ HDq.out
    go_region_held3 (fun w' => w'.cell? ⟨w.heap.size, 0, none⟩ = some (.slice a n c) ∧ w'.cell? ⟨w9.heap.size, 0, none⟩ = some (.slice (some ⟨gA, 0, none⟩) n n))
      (first
        | with_reducible exact HSq.out _ hqF1
        | with_reducible exact HSq.out _ hqE1
        | with_reducible exact HSq.out _ HDq.out)
      (first
        | (go_at_call 12; refine (cTa.out _ (HTq.out _ HDq.out)).mono ?_; rintro e wE1 ⟨gE1, rfl, hOE1, hbE1⟩; have hqE1 := HDq.out.trans (hbE1.mono HDq.out.size))
        | (go_at_call 14; refine (HEq.out _ _ _ HDq.out hbE1 hOE1).mono ?_; rintro e wF1 ⟨rfl, hbF1⟩; have hqF1 := hqE1.trans (hbF1.mono hqE1.size)))
    have K16 := Lib.hid (K15.out.keep hqF1)
    clear hqE1 hqF1 hbE1 hOE1 hbF1 hbx hby HSq HTq HEq HDq
    go_upto_region 16 with fail
    have HDq : Hid (Below wF1.heap.size wF1 wF1.drew) := Lib.hid (Below.refl _ _).drew
    have HSq : Hid (∀ W', Below wF1.heap.size wF1 W' → W'.cell? ⟨w.heap.size + 1, 0, none⟩ = some (.slice b k d) ∧ W'.cell? ⟨w11.heap.size, 0, none⟩ = some (.slice (some ⟨gB, 0, none⟩) k k)) := Lib.hid (fun W' hW => ⟨(HSX.out _ (K16.out.keep hW).r.bel).2, (K16.out.keep hW).boxB.cell⟩)
    have HTq : Hid (∀ W', Below wF1.heap.size wF1 W' → Below W0.heap.size W0 W') := Lib.hid (fun W' hW => (K16.out.keep hW).r.bel)
    have HEq : Hid (∀ W' W'' g, Below wF1.heap.size wF1 W' → Below W'.heap.size W' W'' → W''.ownsRow W'.heap.size 86 3 (.slice (some ⟨g, 0, none⟩) k k) k (ndc u) → Calls Try.prog 14 #[.agg #[.slice (some ⟨gB, 0, none⟩) k k], .agg #[.slice (some ⟨g, 0, none⟩) k k]] W'' fun e w' => e = .returned (.bool true) ∧ Below W''.heap.size W'' w') := Lib.hid (fun W' W'' g h1 h2 hO => eq_trie _ _ k k k u W'' (nds_own ((K16.out.keep h1).keep h2).rowB HFitU.out) (nds_own hO HFitU.out))
    obtain ⟨hbx, hby⟩ := HSq.out _ HDq.out
    go_region_held3 (fun w' => w'.cell? ⟨w.heap.size + 1, 0, none⟩ = some (.slice b k d) ∧ w'.cell? ⟨w11.heap.size, 0, none⟩ = some (.slice (some ⟨gB, 0, none⟩) k k))
      (first
        | with_reducible exact HSq.out _ hqF2
        | with_reducible exact HSq.out _ hqE2
        | with_reducible exact HSq.out _ HDq.out)
      (first
        | (go_at_call 12; refine (cTb.out _ (HTq.out _ HDq.out)).mono ?_; rintro e wE2 ⟨gE2, rfl, hOE2, hbE2⟩; have hqE2 := HDq.out.trans (hbE2.mono HDq.out.size))
        | (go_at_call 14; refine (HEq.out _ _ _ HDq.out hbE2 hOE2).mono ?_; rintro e wF2 ⟨rfl, hbF2⟩; have hqF2 := hqE2.trans (hbF2.mono hqE2.size)))
    have K17 := Lib.hid (K16.out.keep hqF2)
    clear hqE2 hqF2 hbE2 hOE2 hbF2 hbx hby HSq HTq HEq HDq
    have hy := K17.out.boxA.cell
    go_wp2_with fail
    refine (markTrie_own B3 n n 1 (some ⟨gA, 0, none⟩) t _ K17.out.rowA K17.out.r.le hn (by omega)).mono ?_
    rintro e w18 ⟨rfl, hg18, hO18⟩
    have K18 := Lib.hid (K17.out.markA hg18 hO18)
    clear hg18 hO18 hy
    have hy := K18.out.boxB.cell
    go_wp2_with fail
    refine (markTrie_own w10.heap.size k k (1 + 3 * n) (some ⟨gB, 0, none⟩) u w18 K18.out.rowB (Nat.le_trans K18.out.h7 K18.out.hs) hk (by omega)).mono ?_
    rintro e w19 ⟨rfl, hg19, hO19⟩
    have K19 := Lib.hid (K18.out.markB hg19 hO19)
    clear hg19 hO19 hy
    have hx := K19.out.r.box.cell
    have hy := K19.out.box7.cell
    go_wp2_with fail
    refine (eq_trie a7 a3 m c7 c3 tt w19 (nds_own K19.out.row7 HFit.out) K19.out.r.read).mono ?_
    rintro e w20 ⟨rfl, hb20⟩
    have K20 := Lib.hid (K19.out.keep hb20)
    clear hb20 hx hy
    have hy := K20.out.box7.cell
    go_wp2_with fail
    refine (markTrie_own w12.heap.size m c7 1 a7 tt w20 K20.out.row7 K20.out.hs (by omega) (by omega)).mono ?_
    rintro e w21 ⟨rfl, hg21, hO21⟩
    have K21 := Lib.hid (K20.out.mark7 hg21 hO21)
    clear hg21 hO21 hy
    have HFm := Lib.hid (marksN_fits (k := 1) (n := m) (by omega))
    have hy := K21.out.box7.cell
    go_wp2_with fail
    refine (heldTrie_any w21.heap.size 1 m c7 a7 w21 (Nat.le_refl _) (nds_own K21.out.row7 HFm.out) (by omega) (by omega)).mono ?_
    rintro e w22 ⟨rfl, hb22⟩
    have K22 := Lib.hid (K21.out.keep hb22)
    clear hb22 hy
    go_upto_region 31 with fail
    go_cut [15, 16] (fun s6 s7 wx => Hid (At8 w22 wx ok m tt s6 s7))
    case first =>
      have HV : Hid (Below w22.heap.size w22 w22) := Lib.hid (Below.refl _ _)
      have HWV : Hid (∀ W, Below w22.heap.size w22 W → Below W0.heap.size W0 W) := Lib.hid (fun W hW => (K22.out.keep hW).r.bel)
      have HSV : Hid (∀ W, Below w22.heap.size w22 W → W.cell? ⟨w.heap.size, 0, none⟩ = some (.slice a n c) ∧ W.cell? ⟨w.heap.size + 1, 0, none⟩ = some (.slice b k d)) := Lib.hid (fun W hW => HSX.out _ (HWV.out _ hW))
      have cTaV := Lib.hid (fun W (hW : Below w22.heap.size w22 W) => cTa.out W (HWV.out _ hW))
      have cTbV := Lib.hid (fun W (hW : Below w22.heap.size w22 W) => cTb.out W (HWV.out _ hW))
      have HD : Hid (Below w22.heap.size w22 w22.drew) := Lib.hid HV.out.drew
      have HDa : Hid (Below w22.heap.size w22 (w22.alloc (.cells #[.slice none 0 0] 30)).drew) := Lib.hid (HV.out.alloc HV.out.size _).drew
      have HBZ0 : Hid (Boxed (w22.alloc (.cells #[.slice none 0 0] 30)).drew w22.heap.size 30 (.slice none 0 0)) := Lib.hid (Boxed.new _ _ _)
      have HRE : Hid (∀ W a3 c3, QC w22 W a3 m c3 tt → Boxed W w22.heap.size 30 (.slice none 0 0) → R2 w22 (W.setCell ⟨w22.heap.size, 0, none⟩ (.slice a3 m c3)) W.heap.size w22.heap.size m a3 c3 tt) := Lib.hid (fun W a3 c3 hQ hB => R2.early hQ HV.out hB)
      obtain ⟨hbx, hby⟩ := HSV.out _ HD.out
      go_region_held3 (fun w' => w'.cell? ⟨w.heap.size, 0, none⟩ = some (.slice a n c) ∧ w'.cell? ⟨w.heap.size + 1, 0, none⟩ = some (.slice b k d))
        (first
          | with_reducible exact HSV.out _ hqC.bel
          | with_reducible exact HSV.out _ (hqC.al _).bel
          | with_reducible exact HSV.out _ hqB.bel
          | with_reducible exact HSV.out _ (hqB.al _).bel
          | with_reducible exact HSV.out _ hqA.bel
          | with_reducible exact HSV.out _ (hqA.al _).bel
          | with_reducible exact HSV.out _ HD.out
          | with_reducible exact HSV.out _ HDa.out
          | with_reducible exact HSV.out _ (hqC.bel.setCell (p := ⟨_, 0, none⟩) hqA.bel.size _)
          | with_reducible exact HSV.out _ (hqC.bel.setCell (p := ⟨_, 0, none⟩) hqB.bel.size _)
          | with_reducible exact HSV.out _ (hqC.bel.setCell (p := ⟨_, 0, none⟩) HV.out.size _)
          | with_reducible exact HSV.out _ ((HV.out.alloc HV.out.size _))
          | with_reducible exact HSV.out _ ((hqC.al _).bel.setCell (p := ⟨_, 0, none⟩) hqC.bel.size _))
        (first
          | (have hg := hqB; clear hg; go_at_call 18; refine (cIm.out _ _ _ (by first | exact hqB.nds1 | exact (hqB.al _).nds1) (by first | exact hqB.nds2 | exact (hqB.al _).nds2)).mono ?_; rintro e w4 ⟨v4, rfl, hO4, hb4⟩; obtain ⟨a4, c4, rfl⟩ := own_slice hO4; have hN4 := nds_own hO4 HFit.out; have hqC := QC.mk' (by first | exact hqB | exact hqB.al _) hb4 hN4; (first | (with_reducible have hbz := box_stay (box_stay (box_stay HBZ0.out hb2) hb3) hb4; have hrc := hbz.cell; have hrf := hbz.frozen) | (with_reducible have hbz := box_stay (box_stay (Boxed.new w2 30 (.slice none 0 0)) hb3) hb4; have hrc := hbz.cell; have hrf := hbz.frozen) | (with_reducible have hbz := box_stay (Boxed.new w3 30 (.slice none 0 0)) hb4; have hrc := hbz.cell; have hrf := hbz.frozen) | skip))
          | (have hg := hqA; clear hg; go_at_call 12; refine (cTbV.out _ (by first | exact hqA.bel | exact (hqA.al _).bel)).mono ?_; rintro e w3 ⟨g3, rfl, hO3, hb3⟩; have hqB := QB.mk' (by first | exact hqA | exact hqA.al _) hb3 hO3 HFitU.out)
          | (go_at_call 12; refine (cTaV.out _ (by first | exact HD.out | exact HDa.out)).mono ?_; rintro e w2 ⟨g2, rfl, hO2, hb2⟩; have hqA := QA.mk' (by first | exact HD.out | exact HDa.out) hb2 hO2 HFitT.out))
      all_goals
        go_wp2
        go_meet
        first
          | with_reducible exact At8.mk (R2.late' hqC)
          | with_reducible exact At8.mk (HRE.out _ _ _ hqC hbz)
          | with_reducible exact At8.mk (R2.early hqC hqA.bel hbz)
          | with_reducible exact At8.mk (R2.early hqC hqB.bel hbz)
    case rest =>
      obtain ⟨b15, B15, a17, c17, rfl, rfl, R31⟩ := hcut.out
      rename World => w31
      have H31 := Lib.hid R31
      have K31 := Lib.hid (K22.out.keep R31.bel)
      clear R31 hcut
      have hx := H31.out.box.cell
      have hy := K31.out.r.box.cell
      go_wp2_with fail
      refine (eq_trie a17 a3 m c17 c3 tt w31 H31.out.read K31.out.r.read).mono ?_
      rintro e w32 ⟨rfl, hb32⟩
      have K32 := Lib.hid (K31.out.keep hb32)
      clear hb32 hx hy
      have hy := K32.out.box7.cell
      go_wp2_with fail
      refine (heldTrie_any w32.heap.size 1 m c7 a7 w32 (Nat.le_refl _) (nds_own K32.out.row7 HFm.out) (by omega) (by omega)).mono ?_
      rintro e w33 ⟨rfl, hb33⟩
      have K33 := Lib.hid (K32.out.keep hb33)
      clear hb33 hy
      go_wp2_with fail
      go_ret
      exact ⟨rfl, HB1.out.trans (K33.out.r.bel.mono (by omega))⟩

end Go.Proofs.Ytipkdoplgjgkpac.fnExactTimesTrie

