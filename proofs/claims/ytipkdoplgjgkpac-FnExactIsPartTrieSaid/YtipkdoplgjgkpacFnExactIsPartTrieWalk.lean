/-
  The walk of the law FnExactIsPartTrie: both functions answer the same.
-/
import Derived.Test.YtipkdoplgjgkpacLawTn
import Derived.Test.YtipkdoplgjgkpacPartI
import Derived.Deep.RegionHeld3
namespace Go.Proofs.Ytipkdoplgjgkpac.fnExactIsPartTrie
open Go.RowKit
set_option linter.unusedVariables false

set_option maxRecDepth 1000000 in
set_option maxHeartbeats 4000000 in
theorem walk (a : Option Addr) (n c : Nat) (t : List Nd) (b : Option Addr) (k d : Nat) (u : List Nd) (w : World) (w0 : n ≤ maxLen ∧ Nds w.heap.size w a n c t) (w1 : k ≤ maxLen ∧ Nds w.heap.size w b k d u) :
    Calls Try.prog 3 #[.agg #[.slice a n c], .agg #[.slice b k d]] w fun e w' => e = .returned (.bool true) ∧ Below w.heap.size w w' := by
  obtain ⟨hm, h⟩ := w0
  obtain ⟨hm', h'⟩ := w1
  unfold maxLen at *
  have C := h.cap
  have T := h.top
  have C' := h'.cap
  have T' := h'.top
  have HB1 : Hid (Below w.heap.size w ((w.alloc (.cells #[.slice a n c] 24)).alloc (.cells #[.slice b k d] 24))) := Lib.hid (((Below.refl _ _).alloc (Nat.le_refl _) _).alloc (by simp) _)
  have hlt0 : w.heap.size + 1 < ((w.alloc (.cells #[.slice a n c] 24)).alloc (.cells #[.slice b k d] 24)).heap.size := by simp
  have hbx : ((w.alloc (.cells #[.slice a n c] 24)).alloc (.cells #[.slice b k d] 24)).cell? ⟨w.heap.size, 0, none⟩ = some (.slice a n c) := by
    rw [World.cell?_alloc_lt _ _ _ (by simp)]
    simp
  have hby : ((w.alloc (.cells #[.slice a n c] 24)).alloc (.cells #[.slice b k d] 24)).cell? ⟨w.heap.size + 1, 0, none⟩ = some (.slice b k d) := by
    have := (Boxed.new (w.alloc (.cells #[.slice a n c] 24)) 24 (.slice b k d)).cell
    rwa [World.size_alloc] at this
  have HN : Hid (Nds w.heap.size ((w.alloc (.cells #[.slice a n c] 24)).alloc (.cells #[.slice b k d] 24)) a n c t) := Lib.hid (h.keep HB1.out)
  have HM : Hid (Nds w.heap.size ((w.alloc (.cells #[.slice a n c] 24)).alloc (.cells #[.slice b k d] 24)) b k d u) := Lib.hid (h'.keep HB1.out)
  clear h h'
  go_enter Try.func3, Try.ntmps3
  go_wp2_with fail
  obtain ⟨W0, hW0⟩ : ∃ W0, (w.alloc (.cells #[.slice a n c] 24)).alloc (.cells #[.slice b k d] 24) = W0 := ⟨_, rfl⟩
  rw [hW0] at HB1 hlt0 hbx hby HN HM ⊢
  clear hW0
  have HSX : Hid (∀ W, Below W0.heap.size W0 W → W.cell? ⟨w.heap.size, 0, none⟩ = some (.slice a n c) ∧ W.cell? ⟨w.heap.size + 1, 0, none⟩ = some (.slice b k d)) := Lib.hid (fun W hW => ⟨(hW.cell (p := ⟨w.heap.size, 0, none⟩) (Nat.lt_of_succ_lt hlt0)).trans hbx, (hW.cell (p := ⟨w.heap.size + 1, 0, none⟩) hlt0).trans hby⟩)
  clear hbx hby
  have cS := Lib.hid (szTrie_any w.heap.size a n c t 1048576 W0 HN.out (by omega) (by omega))
  by_cases hbig : 1048576 < n
  · have e : (if (1048576 : Int) - n < 0 then (-1 : Int) else 1048576 - n) = -1 := if_pos (by omega)
    rw [e] at cS
    clear e
    refine cS.out.mono ?_
    rintro e w1 ⟨rfl, hb1⟩
    go_wp2_with fail
    go_ret
    exact ⟨rfl, HB1.out.trans (hb1.mono (by omega))⟩
  have hn : n ≤ 1048576 := by omega
  have e : (if (1048576 : Int) - n < 0 then (-1 : Int) else 1048576 - n) = 1048576 - n := if_neg (by omega)
  rw [e] at cS
  clear e
  refine cS.out.mono ?_
  rintro e w1 ⟨rfl, hb1⟩
  have H1 := Lib.hid hb1
  clear hb1
  obtain ⟨hbx, hby⟩ := HSX.out _ H1.out
  have hl0 : ¬ ((1048576 : Int) - n < 0) := by omega
  go_wp2_with fail
  clear hbx hby
  have cS2 := Lib.hid (szTrie_any w.heap.size b k d u (1048576 - n) w1 (HM.out.keep (H1.out.mono (by omega))) (by omega) (by omega))
  by_cases hbig2 : 1048576 - (n : Int) < k
  · have e : (if (1048576 : Int) - n - k < 0 then (-1 : Int) else 1048576 - n - k) = -1 := if_pos (by omega)
    rw [e] at cS2
    clear e
    refine cS2.out.mono ?_
    rintro e w2 ⟨rfl, hb2⟩
    go_wp2_with fail
    go_ret
    exact ⟨rfl, HB1.out.trans ((H1.out.trans (hb2.mono H1.out.size)).mono (by omega))⟩
  have hk : k ≤ 1048576 := by omega
  have e : (if (1048576 : Int) - n - k < 0 then (-1 : Int) else 1048576 - n - k) = 1048576 - n - k := if_neg (by omega)
  rw [e] at cS2
  clear e
  refine cS2.out.mono ?_
  rintro e w1b ⟨rfl, hb2⟩
  have H2 := Lib.hid (H1.out.trans (hb2.mono H1.out.size))
  clear hb2 H1 cS cS2
  have hl1 : ¬ ((1048576 : Int) - n - k < 0) := by omega
  have cTa : Hid (∀ W, Below W0.heap.size W0 W → Calls Try.prog 12 #[.agg #[.slice a n c]] W fun e w' => ∃ g, e = .returned (.agg #[.slice (some ⟨g, 0, none⟩) n n]) ∧ Nds w'.heap.size w' (some ⟨g, 0, none⟩) n n t ∧ Below W.heap.size W w') := Lib.hid (fun W hW => toTrie_nds w.heap.size a n c t W (by have := hW.size; omega) (HN.out.keep (hW.mono (by omega))) hn)
  have cTb : Hid (∀ W, Below W0.heap.size W0 W → Calls Try.prog 12 #[.agg #[.slice b k d]] W fun e w' => ∃ g, e = .returned (.agg #[.slice (some ⟨g, 0, none⟩) k k]) ∧ Nds w'.heap.size w' (some ⟨g, 0, none⟩) k k u ∧ Below W.heap.size W w') := Lib.hid (fun W hW => toTrie_nds w.heap.size b k d u W (by have := hW.size; omega) (HM.out.keep (hW.mono (by omega))) hk)
  obtain ⟨v, ok, hsp, him⟩ := agreeIsPartTrie t u n k hn hk
  have cSp := Lib.hid hsp
  have cIm := Lib.hid him
  clear hsp him
  have hvv : (v != v) = false := by cases v <;> rfl
  have hrr : (ok != ok) = false := by cases ok <;> rfl
  have HD : Hid (Below W0.heap.size W0 w1b.drew) := Lib.hid H2.out.drew
  obtain ⟨hbx, hby⟩ := HSX.out _ HD.out
  go_wp2_with fail
  go_region_held3 (fun w' => w'.cell? ⟨w.heap.size, 0, none⟩ = some (.slice a n c) ∧ w'.cell? ⟨w.heap.size + 1, 0, none⟩ = some (.slice b k d))
    (first
      | with_reducible exact HSX.out _ hqC
      | with_reducible exact HSX.out _ hqB.bel
      | with_reducible exact HSX.out _ hqA.bel
      | with_reducible exact HSX.out _ HD.out)
    (first
      | (have hg := hqB; clear hg; go_at_call 11; refine (cSp.out _ _ _ hqB.nds1 hqB.nds2).mono ?_; rintro e w4 ⟨rfl, hb4⟩; have hqC := hqB.bel.trans (hb4.mono hqB.bel.size))
      | (have hg := hqA; clear hg; go_at_call 12; refine (cTb.out _ hqA.bel).mono ?_; rintro e w3 ⟨g3, rfl, hN3, hb3⟩; have hqB := VB.mk' hqA hb3 hN3)
      | (go_at_call 12; refine (cTa.out _ HD.out).mono ?_; rintro e w2 ⟨g2, rfl, hN2, hb2⟩; have hqA := VA.mk' HD.out hb2 hN2))
  have H4 := Lib.hid hqC
  clear hqA hqB hqC hN2 hN3 hb2 hb3 hb4 hbx hby HD
  obtain ⟨hbx, hby⟩ := HSX.out _ H4.out
  go_wp2_with fail
  refine (cTa.out _ H4.out).mono ?_
  rintro e w9 ⟨gA, rfl, hNA, hbA⟩
  have HA9 := Lib.hid (V1.mk' H4.out hbA hNA)
  clear hbx hby hbA hNA
  obtain ⟨hbx, hby⟩ := HSX.out _ HA9.out.bel
  go_wp2_with fail
  obtain ⟨w10, hw10⟩ : ∃ w10, w9.alloc (.cells #[.slice (some ⟨gA, 0, none⟩) n n] 30) = w10 := ⟨_, rfl⟩
  rw [hw10] at HA9 hbx hby ⊢
  clear hw10 hbx hby
  obtain ⟨bA, hbA⟩ : ∃ bA, w9.heap.size = bA := ⟨_, rfl⟩
  rw [hbA] at HA9 ⊢
  clear hbA
  refine (cTb.out _ HA9.out.bel).mono ?_
  rintro e w11 ⟨gB, rfl, hNB, hbB⟩
  have K12 := Lib.hid (V2.mk' HA9.out hbB hNB)
  clear hbB hNB
  have hbz := K12.out.boxA
  have hbw := K12.out.boxB
  go_wp2_with fail
  clear hbz hbw
  obtain ⟨w12, hw12⟩ : ∃ w12, w11.alloc (.cells #[.slice (some ⟨gB, 0, none⟩) k k] 30) = w12 := ⟨_, rfl⟩
  rw [hw12] at K12 ⊢
  clear hw12
  obtain ⟨bB, hbB⟩ : ∃ bB, w11.heap.size = bB := ⟨_, rfl⟩
  rw [hbB] at K12 ⊢
  clear hbB
  refine (cIm.out _ _ _ K12.out.ndsA K12.out.ndsB).mono ?_
  rintro e w13 ⟨rfl, hb7⟩
  have K13 := Lib.hid (K12.out.keep hb7)
  clear hb7
  go_wp2_with fail
  have HDq : Hid (Below w13.heap.size w13 w13.drew) := Lib.hid (Below.refl _ _).drew
  have HSq : Hid (∀ W', Below w13.heap.size w13 W' → W'.cell? ⟨w.heap.size, 0, none⟩ = some (.slice a n c) ∧ W'.cell? ⟨bA, 0, none⟩ = some (.slice (some ⟨gA, 0, none⟩) n n)) := Lib.hid (fun W' hW => ⟨(HSX.out _ (K13.out.keep hW).bel).1, (K13.out.keep hW).boxA⟩)
  have HTq : Hid (∀ W', Below w13.heap.size w13 W' → Below W0.heap.size W0 W') := Lib.hid (fun W' hW => (K13.out.keep hW).bel)
  have HEq : Hid (∀ W' W'' g, Below w13.heap.size w13 W' → Below W'.heap.size W' W'' → Nds W''.heap.size W'' (some ⟨g, 0, none⟩) n n t → Calls Try.prog 14 #[.agg #[.slice (some ⟨gA, 0, none⟩) n n], .agg #[.slice (some ⟨g, 0, none⟩) n n]] W'' fun e w' => e = .returned (.bool true) ∧ Below W''.heap.size W'' w') := Lib.hid (fun W' W'' g h1 h2 hN => eqTrie_any W''.heap.size _ _ n n n n t t W'' (Nat.le_refl _) ((K13.out.keep h1).keep h2).ndsA hN true (by simp))
  obtain ⟨hbx, hby⟩ := HSq.out _ HDq.out
  go_region_held3 (fun w' => w'.cell? ⟨w.heap.size, 0, none⟩ = some (.slice a n c) ∧ w'.cell? ⟨bA, 0, none⟩ = some (.slice (some ⟨gA, 0, none⟩) n n))
    (first
      | with_reducible exact HSq.out _ hqF1
      | with_reducible exact HSq.out _ hqE1
      | with_reducible exact HSq.out _ HDq.out)
    (first
      | (go_at_call 12; refine (cTa.out _ (HTq.out _ HDq.out)).mono ?_; rintro e wE1 ⟨gE1, rfl, hNE1, hbE1⟩; have hqE1 := HDq.out.trans (hbE1.mono HDq.out.size))
      | (go_at_call 14; refine (HEq.out _ _ _ HDq.out hbE1 hNE1).mono ?_; rintro e wF1 ⟨rfl, hbF1⟩; have hqF1 := hqE1.trans (hbF1.mono hqE1.size)))
  have K14 := Lib.hid (K13.out.keep hqF1)
  clear hqE1 hqF1 hbE1 hNE1 hbF1 hbx hby HSq HTq HEq HDq
  go_wp2_with fail
  have HDq : Hid (Below wF1.heap.size wF1 wF1.drew) := Lib.hid (Below.refl _ _).drew
  have HSq : Hid (∀ W', Below wF1.heap.size wF1 W' → W'.cell? ⟨w.heap.size + 1, 0, none⟩ = some (.slice b k d) ∧ W'.cell? ⟨bB, 0, none⟩ = some (.slice (some ⟨gB, 0, none⟩) k k)) := Lib.hid (fun W' hW => ⟨(HSX.out _ (K14.out.keep hW).bel).2, (K14.out.keep hW).boxB⟩)
  have HTq : Hid (∀ W', Below wF1.heap.size wF1 W' → Below W0.heap.size W0 W') := Lib.hid (fun W' hW => (K14.out.keep hW).bel)
  have HEq : Hid (∀ W' W'' g, Below wF1.heap.size wF1 W' → Below W'.heap.size W' W'' → Nds W''.heap.size W'' (some ⟨g, 0, none⟩) k k u → Calls Try.prog 14 #[.agg #[.slice (some ⟨gB, 0, none⟩) k k], .agg #[.slice (some ⟨g, 0, none⟩) k k]] W'' fun e w' => e = .returned (.bool true) ∧ Below W''.heap.size W'' w') := Lib.hid (fun W' W'' g h1 h2 hN => eqTrie_any W''.heap.size _ _ k k k k u u W'' (Nat.le_refl _) ((K14.out.keep h1).keep h2).ndsB hN true (by simp))
  obtain ⟨hbx, hby⟩ := HSq.out _ HDq.out
  go_region_held3 (fun w' => w'.cell? ⟨w.heap.size + 1, 0, none⟩ = some (.slice b k d) ∧ w'.cell? ⟨bB, 0, none⟩ = some (.slice (some ⟨gB, 0, none⟩) k k))
    (first
      | with_reducible exact HSq.out _ hqF2
      | with_reducible exact HSq.out _ hqE2
      | with_reducible exact HSq.out _ HDq.out)
    (first
      | (go_at_call 12; refine (cTb.out _ (HTq.out _ HDq.out)).mono ?_; rintro e wE2 ⟨gE2, rfl, hNE2, hbE2⟩; have hqE2 := HDq.out.trans (hbE2.mono HDq.out.size))
      | (go_at_call 14; refine (HEq.out _ _ _ HDq.out hbE2 hNE2).mono ?_; rintro e wF2 ⟨rfl, hbF2⟩; have hqF2 := hqE2.trans (hbF2.mono hqE2.size)))
  have K15 := Lib.hid (K14.out.keep hqF2)
  clear hqE2 hqF2 hbE2 hNE2 hbF2 hbx hby HSq HTq HEq HDq
  go_wp2_with fail
  go_ret
  exact ⟨rfl, HB1.out.trans (K15.out.bel.mono (by omega))⟩

end Go.Proofs.Ytipkdoplgjgkpac.fnExactIsPartTrie

