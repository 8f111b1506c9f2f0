/-
  The program's BranchesOf, and both functions answer the same.
-/
import Derived.Test.YthjafoacnfgjhabBran10
import Derived.Test.YthjafoacnfgjhabIter
namespace Go.Proofs.Ythjafoacnfgjhab
open Go.RowKit Go.MapKept
set_option linter.unusedVariables false

set_option maxRecDepth 1000000 in
set_option maxHeartbeats 2000000 in
theorem implBranches_any (a : Option Addr) (n c : Nat) (ss : List ByteArray) (w : World) (h : Strs w.heap.size w a n c ss) :
    Calls Try.prog 12 #[.slice a n c] w fun e w' => e = .returned (.tuple #[.int .i64 (brV ss), .bool (cdB (txl ss))]) ∧ Below w.heap.size w w' := by
  have cC0 := implIsCode_any w.heap.size a n c ss w (Nat.le_refl _) h
  have L := Lib.hid h.len
  have C := h.sl.cap
  have T := h.sl.top
  have H := Lib.hid h
  clear h
  by_cases hc : cdB (txl ss) = true
  · have HCd := Lib.hid (cdB_iff.1 hc)
    have HSh := Lib.hid (fun (i : Nat) (y : Txt) (hi : (txl ss)[i]? = some y) => ((cdB_iff.1 hc).sq hi).2.1)
    have hn12 : 1 ≤ n ∧ n ≤ 12 := by have h1 := (cdB_iff.1 hc).1; have h2 := (cdB_iff.1 hc).2.1; rw [txl_len, L.out] at h1 h2; exact ⟨h1, h2⟩
    have hv : brV ss = ((snl (prel (txl ss) n 0)).length : Int) := by unfold brV; rw [if_pos hc, L.out]
    rw [hc] at cC0
    rw [hc]
    obtain ⟨v, hvv⟩ : ∃ v, brV ss = v := ⟨_, rfl⟩
    rw [hvv] at hv ⊢
    have HV := Lib.hid hv
    have cC := Lib.hid cC0
    clear hc cC0 hv hvv
    have hmm := @run_makeMap Try.prog
    go_enter Try.func12, Try.ntmps12
    go_wp2_with fail
    refine cC.out.mono ?_
    rintro e w1 ⟨rfl, hb1⟩
    have HB1 := Lib.hid hb1
    clear hb1
    go_wp2_with fail
    have HW0 : Hid (CntIs (w1.alloc (.map #[] 0)) w1.heap.size 0 (snl (prel (txl ss) 0 0))) := Lib.hid (by rw [prel_zero]; exact CntIs.made w1)
    have HB2 : Hid (Below w.heap.size w (w1.alloc (.map #[] 0))) := Lib.hid (HB1.out.alloc HB1.out.size _)
    obtain ⟨M, hM⟩ : ∃ M, w1.heap.size = M := ⟨_, rfl⟩
    have hMw : w.heap.size ≤ M := by rw [← hM]; exact HB1.out.size
    rw [hM] at HW0 ⊢
    clear HB1 hM hmm
    go_loopw [14] (fun i wr => ∃ (k nb : Nat), k ≤ n ∧ nb ≤ 14 * k ∧ i = .int .i64 k ∧ Hid (CntIs wr M nb (snl (prel (txl ss) k 0))) ∧ Hid (Below w.heap.size w wr)) (fun i _ => n - (intOf i).toNat)
    case atStart => exact ⟨0, 0, Nat.zero_le _, Nat.zero_le _, rfl, HW0, HB2⟩
    case round =>
      clear HW0 HB2
      obtain ⟨k, nb, hk, hnb, rfl, HW, HB⟩ := hrel
      by_cases hlt : k < n
      · obtain ⟨b, o, s, rfl, _, hs, hsz, hcs⟩ := (H.out.keep HB.out).elem k hlt
        have HS := Lib.hid hs
        have hsq := HCd.out.sq (txl_at hs)
        have hs14 : s.size ≤ 14 := by have := hsq.2.1; rwa [tx_len] at this
        have HSg := Lib.hid hsq.2.2
        have hk0 : (0 : Int) ≤ (k : Int) := by omega
        have hk1 : (k : Int) < (n : Int) := by omega
        clear hs hsq
        rename World => wo
        go_wp2
        have hMo := HW.out.lt
        have HI0 : Hid ((wo.alloc (.stringIter s 0)).heap[wo.heap.size]? = some (.stringIter s 0)) := Lib.hid (heap_alloc_new wo _)
        have HW1 : Hid (CntIs (wo.alloc (.stringIter s 0)) M nb (snl (prel (txl ss) k 0))) := Lib.hid (HW.out.kept (Below.heap_alloc _ _ _ hMo))
        have HB1 : Hid (Below w.heap.size w (wo.alloc (.stringIter s 0))) := Lib.hid (HB.out.alloc HB.out.size _)
        obtain ⟨E, hE⟩ : ∃ E, wo.heap.size = E := ⟨_, rfl⟩
        have hwE : w.heap.size ≤ E := by rw [← hE]; exact HB.out.size
        rw [hE] at hMo HI0 ⊢
        clear hE HW HB hcs
        go_loopw [7] (fun o wr => ∃ (j nb : Nat), j ≤ s.size ∧ nb ≤ 14 * k + j ∧ (∃ v : Value, o = v) ∧ Hid (CntIs wr M nb (snl (prel (txl ss) k j))) ∧ Hid (wr.heap[E]? = some (.stringIter s j)) ∧ Hid (Below w.heap.size w wr)) (fun _ wr => s.size - wr.iterPos E)
        case atStart => exact ⟨0, nb, Nat.zero_le _, by omega, ⟨_, rfl⟩, HW1, HI0, HB1⟩
        case round =>
          clear HW1 HB1 HI0
          obtain ⟨j, nb, hj, hnb, ⟨u7, rfl⟩, HW, HIt, HB⟩ := hrel
          have HP0 : Hid (wr.iterPos E = j) := Lib.hid (by simp [World.iterPos, HIt.out])
          have hsI := (Array.getElem?_eq_some_iff.1 HIt.out).1
          by_cases hjl : j < s.size
          · have hsg : Sg s[j] := HSg.out _ (by
              have : (tx s)[j]'(by simpa using hjl) = s[j] := rfl
              rw [← this]
              exact List.getElem_mem _)
            have hnx := fun ty => Lib.run_next_ascii_at (P := Try.prog) wr E s j ty HIt.out hjl (by rcases hsg with h | h <;> rw [h] <;> decide)
            obtain ⟨W1, hW1⟩ : ∃ W1, wr.iterAt E s (j + 1) = W1 := ⟨_, rfl⟩
            have HI1 : Hid (W1.heap[E]? = some (.stringIter s (j + 1))) := Lib.hid (by rw [← hW1]; exact Lib.iterAt_heap wr _ s j (j + 1) HIt.out)
            have HBx : Hid (Below w.heap.size w W1) := Lib.hid (by rw [← hW1]; exact Lib.below_iterAt HB.out hwE s (j + 1))
            have HW1 : Hid (CntIs W1 M nb (snl (prel (txl ss) k j))) := Lib.hid (by rw [← hW1]; exact HW.out.kept (Lib.iterAt_other wr E M s (j + 1) (by omega)))
            have hz1 : E < W1.heap.size := by rw [← hW1, Lib.iterAt_size]; exact hsI
            obtain ⟨W2, hup, hW2, hg2⟩ := HW1.out.update (by unfold maxLen; omega) (s.extract 0 j) (by rw [ByteArray.size_extract]; unfold maxLen; omega) (asc_snl _)
            have HW2 : Hid (CntIs W2 M (nb + 1) (snl (prel (txl ss) k (j + 1)))) := Lib.hid (by rw [prel_step (txl_at HS.out), snl_snoc, ← tx_extract]; exact hW2)
            have HI2 : Hid (W2.heap[E]? = some (.stringIter s (j + 1))) := Lib.hid ((hg2.block E hz1 (by simp; omega)).trans HI1.out)
            have HB2 : Hid (Below w.heap.size w W2) := Lib.hid (HBx.out.grown hg2 HBx.out.size (fun k e => by cases e; exact hMw))
            simp only [hW1] at hnx
            have hj0 : (0 : Int) ≤ (j : Int) := by omega
            have hj1 : (j : Int) ≤ (s.size : Int) := by omega
            clear hW1 hsg hW2 hg2 hz1
            go_wp2
            go_roundw
            case rel => exact ⟨j + 1, nb + 1, by omega, by omega, ⟨_, rfl⟩, HW2, HI2, HB2⟩
            case measure =>
              have e1 : W2.iterPos E = j + 1 := by simp [World.iterPos, HI2.out]
              rw [HP0.out, e1]
              omega
          · have hnx := fun ty => Lib.run_next_end_at (P := Try.prog) wr E s j ty HIt.out (by omega)
            have HN : Hid (prel (txl ss) (k + 1) 0 = prel (txl ss) k j) := Lib.hid (by
              have e : j = (tx s).length := by rw [tx_len]; omega
              rw [e]
              exact prel_next (txl_at HS.out))
            go_wp2
            go_roundw
            case rel => exact ⟨k + 1, nb, by omega, by omega, by go_num, Lib.hid (by rw [HN.out]; exact HW.out), HB⟩
            case measure => simp [intOf]; omega
      · have e : k = n := by omega
        subst e
        have hlen := fun ty => HW.out.len ty
        have HM := Lib.hid HV.out.symm
        obtain ⟨q, hq⟩ : ∃ q, ((snl (prel (txl ss) k 0)).length : Int) = q := ⟨_, rfl⟩
        rw [hq] at HM
        simp only [hq] at hlen
        clear hq
        go_wp2
        go_ret2
        exact ⟨by first | exact congrArg (fun z => Ending.returned (.tuple #[.int .i64 z, .bool true])) HM.out | rw [← HM.out], HB.out⟩
  · have hc' : cdB (txl ss) = false := by simpa using hc
    have hv : brV ss = 0 := by unfold brV; rw [if_neg hc]
    rw [hc'] at cC0
    rw [hc', hv]
    have cC := Lib.hid cC0
    clear hc hc' cC0 hv
    go_enter Try.func12, Try.ntmps12
    go_wp2_with fail
    refine cC.out.mono ?_
    rintro e w1 ⟨rfl, hb1⟩
    have HB1 := Lib.hid hb1
    clear hb1
    go_wp2_with fail
    go_ret2
    exact ⟨rfl, HB1.out⟩

theorem agreeBranchesOf (l : List ByteArray) (hl : l.length + (l.map (·.size)).sum ≤ 1048576) : ∃ (v : Int) (ok : Bool),
    (∀ (W : World) (a : Option Addr) (n c : Nat), Strs W.heap.size W a n c l → Calls Try.prog 10 #[.slice a n c] W fun e w' => e = .returned (.tuple #[.int .i64 v, .bool ok]) ∧ Below W.heap.size W w') ∧
    (∀ (W : World) (a : Option Addr) (n c : Nat), Strs W.heap.size W a n c l → Calls Try.prog 12 #[.slice a n c] W fun e w' => e = .returned (.tuple #[.int .i64 v, .bool ok]) ∧ Below W.heap.size W w') :=
  ⟨brV l, cdB (txl l), fun W a n c h => specBranches_any a n c l W h, fun W a n c h => implBranches_any a n c l W h⟩

end Go.Proofs.Ythjafoacnfgjhab
