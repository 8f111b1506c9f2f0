/-
  What a code is: the reference's and the program's test.
-/
import Derived.Test.YthjafoacnfgjhabSigns10
import Derived.Test.YthjafoacnfgjhabBeg10
import Derived.Test.YthjafoacnfgjhabFill10
namespace Go.Proofs.Ythjafoacnfgjhab
open Go.RowKit
set_option linter.unusedVariables false

/-- the texts of a list of strings -/
def txl (ss : List ByteArray) : List Txt := ss.map tx
theorem txl_len (ss : List ByteArray) : (txl ss).length = ss.length := by simp [txl]
theorem txl_at {ss : List ByteArray} {k : Nat} {s : ByteArray} (h : ss[k]? = some s) : (txl ss)[k]? = some (tx s) := by simp [txl, h]

open Classical in
theorem pre_bool (x y : Txt) : ∃ r : Bool, r = true ↔ x <+: y := ⟨decide (x <+: y), decide_eq_true_iff⟩

set_option maxRecDepth 1000000 in
set_option maxHeartbeats 4000000 in
theorem l10Code_any (B : Nat) (a : Option Addr) (n c : Nat) (ss : List ByteArray) (w : World) (hB : B ≤ w.heap.size) (h : Strs B w a n c ss) :
    Calls Try.prog 30 #[.slice a n c] w fun e w' => e = .returned (.bool (cdB (txl ss))) ∧ Below w.heap.size w w' := by
  have L := Lib.hid h.len
  have C := h.sl.cap
  have T := h.sl.top
  have H := Lib.hid h
  clear h
  have cI0 := l1In_any (n : Int) 1 12 w
  by_cases h1 : 1 ≤ n ∧ n ≤ 12
  · rw [decide_eq_true (show (1 : Int) ≤ (n : Int) ∧ (n : Int) ≤ 12 by omega)] at cI0
    have cI := Lib.hid cI0
    clear cI0
    go_enter Try.func30, Try.ntmps30
    go_wp2_with (go_at_call 39; refine cI.out.mono ?_; rintro e w' ⟨rfl, rfl⟩)
    obtain ⟨h1a, h1b⟩ := h1
    go_loopw [3] (fun i wr => ∃ k : Nat, k ≤ n ∧ i = .int .i64 k ∧ Hid (CdTo (txl ss) k) ∧ Hid (Below w.heap.size w wr)) (fun i _ => n - (intOf i).toNat)
    case atStart => exact ⟨0, Nat.zero_le _, rfl, Lib.hid (CdTo.zero _), Lib.hid (Below.refl _ _)⟩
    case round =>
      obtain ⟨k, hk, rfl, HN, HB⟩ := hrel
      by_cases hlt : k < n
      · obtain ⟨b, o, s, rfl, hbB, hs, hsz, hc⟩ := (H.out.keep (HB.out.mono hB)).elem k hlt
        have HS := Lib.hid hs
        clear hs
        have hi0 : (0 : Int) ≤ (k : Int) := by omega
        have hi1 : (k : Int) < (n : Int) := by omega
        by_cases hsq : Sq (tx s)
        · have hb1 : bitB s 14 = true := by
            have := sqB_iff.2 hsq
            rw [sqB_eq] at this
            unfold bitB
            simp only [Bool.and_eq_true] at this ⊢
            exact ⟨this.1.2, this.2⟩
          have cB0 := fun W => l10Bits_any s 14 W hsz (by omega)
          rw [hb1] at cB0
          have cB := Lib.hid cB0
          obtain ⟨hne, hne1, hne2⟩ := tol_ne (by have := hsq.1; rw [tx_len] at this; exact this : 1 ≤ s.size)
          have HSq := Lib.hid hsq
          clear hb1 cB0 hsq
          rename World => wo
          go_wp2_with (go_at_call 42; refine (cB.out _).mono ?_; rintro e w1 ⟨rfl, hb1⟩; have HB1 := Lib.hid (HB.out.trans (hb1.mono HB.out.size)); clear hb1)
          go_loopw [4] (fun i wr => ∃ j : Nat, j ≤ n ∧ i = .int .i64 j ∧ Hid (FreeTo (txl ss) k j (tx s)) ∧ Hid (Below w.heap.size w wr)) (fun i _ => n - (intOf i).toNat)
          case atStart => exact ⟨0, Nat.zero_le _, rfl, Lib.hid (FreeTo.zero _ _ _), HB1⟩
          case round =>
            clear HB1 HB hc
            obtain ⟨j, hj, rfl, HF, HB⟩ := hrel
            by_cases hjl : j < n
            · obtain ⟨b', o', s', he, _, hs', hsz', hc'⟩ := (H.out.keep (HB.out.mono hB)).elem j hjl
              obtain ⟨b2, o2, s2, he2, _, hs2, hsz2, hc⟩ := (H.out.keep (HB.out.mono hB)).elem k hlt
              rw [HS.out] at hs2
              simp only [Option.some.injEq, Addr.mk.injEq, and_true] at he he2 hs2
              obtain ⟨rfl, rfl⟩ := he
              obtain ⟨rfl, rfl⟩ := he2
              subst hs2
              have HS' := Lib.hid hs'
              clear hs' hsz2
              have hj0 : (0 : Int) ≤ (j : Int) := by omega
              have hj1 : (j : Int) < (n : Int) := by omega
              by_cases hjk : j = k
              · have hq : ((j : Int) != (k : Int)) = false := by simp; omega
                have HF2 := Lib.hid (HF.out.succ (txl_at HS'.out) (fun hn => absurd hjk hn))
                clear hjk
                go_wp2
                go_quiet (fail)
                go_wp2
                go_roundw
                case rel => exact ⟨j + 1, by omega, by go_num, HF2, Lib.hid (below_drewN HB.out _)⟩
                case measure => simp [intOf]; omega
              · have hq : ((j : Int) != (k : Int)) = true := by simp; omega
                obtain ⟨r, hr⟩ := pre_bool (tx s) (tx s')
                have cP := Lib.hid (fun W => begins_any s' s r hr W hsz' hsz)
                cases r with
                | true =>
                  have HR := Lib.hid (cdB_no (not_cd_pre (txl_at HS.out) (txl_at HS'.out) hjk (hr.1 rfl)))
                  clear hjk hr
                  go_wp2
                  go_quiet ((go_at_call 43; exact Calls.quiet_of_same ((cP.out _).mono fun _ _ h => ⟨h.1, h.2.symm⟩)))
                  go_wp2
                  go_ret
                  exact ⟨ret_bool HR.out.symm, below_drewN HB.out _⟩
                | false =>
                  have HF2 := Lib.hid (HF.out.succ (txl_at HS'.out) (fun _ hp => by have := hr.2 hp; cases this))
                  clear hjk hr
                  go_wp2
                  go_quiet ((go_at_call 43; exact Calls.quiet_of_same ((cP.out _).mono fun _ _ h => ⟨h.1, h.2.symm⟩)))
                  go_wp2
                  go_roundw
                  case rel => exact ⟨j + 1, by omega, by go_num, HF2, Lib.hid (below_drewN HB.out _)⟩
                  case measure => simp [intOf]; omega
            · have HN2 : Hid (CdTo (txl ss) (k + 1)) := Lib.hid (HN.out.succ (txl_at HS.out) HSq.out (by
                have e : j = (txl ss).length := by rw [txl_len, L.out]; omega
                rw [← e]
                exact HF.out))
              go_wp2
              go_roundw
              case rel => exact ⟨k + 1, by omega, by go_num, HN2, HB⟩
              case measure => simp [intOf]; omega
        · have HR := Lib.hid (cdB_no (not_cd_sq (txl_at HS.out) hsq))
          by_cases h1 : 1 ≤ s.size
          · obtain ⟨hne, hne1, hne2⟩ := tol_ne h1
            have hb1 : bitB s 14 = false := by
              have h2 : ¬ sqB s = true := fun h => hsq (sqB_iff.1 h)
              have h3 := sqB_eq s
              unfold bitB
              cases hh : (decide (s.size ≤ 14) && sgB s) with
              | false => rfl
              | true =>
                rw [Bool.and_assoc, hh] at h3
                exact absurd (h3.trans (by simp [h1])) h2
            have cB0 := fun W => l10Bits_any s 14 W hsz (by omega)
            rw [hb1] at cB0
            have cB := Lib.hid cB0
            clear hb1 cB0 hsq
            go_wp2_with (go_at_call 42; refine (cB.out _).mono ?_; rintro e w1 ⟨rfl, hb1⟩; have HB1 := Lib.hid (HB.out.trans (hb1.mono HB.out.size)); clear hb1)
            go_ret
            exact ⟨ret_bool HR.out.symm, HB1.out⟩
          · have hl := tol_no h1
            have hl2 : s.toList.isEmpty = true := by rw [hl]; rfl
            clear hsq
            go_wp2
            go_ret
            exact ⟨ret_bool HR.out.symm, HB.out⟩
      · have HR : Hid (cdB (txl ss) = true) := Lib.hid (cdB_iff.2 ((by
          have e : k = (txl ss).length := by rw [txl_len, L.out]; omega
          rw [← e]
          exact HN.out : CdTo (txl ss) (txl ss).length).cd (by rw [txl_len, L.out]; omega) (by rw [txl_len, L.out]; omega)))
        go_wp2
        go_ret
        exact ⟨ret_bool HR.out.symm, HB.out⟩
  · rw [decide_eq_false (show ¬ ((1 : Int) ≤ (n : Int) ∧ (n : Int) ≤ 12) by omega)] at cI0
    have cI := Lib.hid cI0
    have HR := Lib.hid (cdB_no (not_cd_len (by rw [txl_len, L.out]; exact h1)))
    clear cI0 h1
    go_enter Try.func30, Try.ntmps30
    go_wp2_with (go_at_call 39; refine cI.out.mono ?_; rintro e w' ⟨rfl, rfl⟩)
    go_ret
    exact ⟨ret_bool HR.out.symm, Below.refl _ _⟩

set_option maxRecDepth 1000000 in
set_option maxHeartbeats 4000000 in
theorem implIsCode_any (B : Nat) (a : Option Addr) (n c : Nat) (ss : List ByteArray) (w : World) (hB : B ≤ w.heap.size) (h : Strs B w a n c ss) :
    Calls Try.prog 32 #[.slice a n c] w fun e w' => e = .returned (.bool (cdB (txl ss))) ∧ Below w.heap.size w w' := by
  have L := Lib.hid h.len
  have C := h.sl.cap
  have T := h.sl.top
  have H := Lib.hid h
  clear h
  by_cases h1 : 1 ≤ n ∧ n ≤ 12
  · obtain ⟨h1a, h1b⟩ := h1
    have q1 : ((n : Int) == 0) = false := by simp; omega
    have q2 : ¬ (12 : Int) < (n : Int) := by omega
    go_enter Try.func32, Try.ntmps32
    go_wp2
    go_loopw [17] (fun i wr => ∃ k : Nat, k ≤ n ∧ i = .int .i64 k ∧ Hid (CdTo (txl ss) k) ∧ Hid (Below w.heap.size w wr)) (fun i _ => n - (intOf i).toNat)
    case atStart => exact ⟨0, Nat.zero_le _, rfl, Lib.hid (CdTo.zero _), Lib.hid (Below.refl _ _)⟩
    case round =>
      obtain ⟨k, hk, rfl, HN, HB⟩ := hrel
      by_cases hlt : k < n
      · obtain ⟨b, o, s, rfl, hbB, hs, hsz, hc⟩ := (H.out.keep (HB.out.mono hB)).elem k hlt
        have HS := Lib.hid hs
        clear hs
        have hi0 : (0 : Int) ≤ (k : Int) := by omega
        have hi1 : (k : Int) < (n : Int) := by omega
        by_cases hsq : Sq (tx s)
        · have cB0 := fun W => isSequence_any s W hsz
          rw [sqB_iff.2 hsq] at cB0
          have cB := Lib.hid cB0
          have HSq := Lib.hid hsq
          clear cB0 hsq
          rename World => wo
          go_wp2_with (go_at_call 58; refine (cB.out _).mono ?_; rintro e w1 ⟨rfl, hb1⟩; have HB1 := Lib.hid (HB.out.trans (hb1.mono HB.out.size)); clear hb1)
          go_loopw [27] (fun i wr => ∃ j : Nat, j ≤ n ∧ i = .int .i64 j ∧ Hid (FreeTo (txl ss) k j (tx s)) ∧ Hid (Below w.heap.size w wr)) (fun i _ => n - (intOf i).toNat)
          case atStart => exact ⟨0, Nat.zero_le _, rfl, Lib.hid (FreeTo.zero _ _ _), HB1⟩
          case round =>
            clear HB1 HB hc
            obtain ⟨j, hj, rfl, HF, HB⟩ := hrel
            by_cases hjl : j < n
            · obtain ⟨b', o', s', he, _, hs', hsz', hc'⟩ := (H.out.keep (HB.out.mono hB)).elem j hjl
              simp only [Option.some.injEq, Addr.mk.injEq, and_true] at he
              obtain ⟨rfl, rfl⟩ := he
              have HS' := Lib.hid hs'
              clear hs'
              have hj0 : (0 : Int) ≤ (j : Int) := by omega
              have hj1 : (j : Int) < (n : Int) := by omega
              by_cases hjk : j = k
              · have hq : ((j : Int) != (k : Int)) = false := by simp; omega
                have HF2 := Lib.hid (HF.out.succ (txl_at HS'.out) (fun hn => absurd hjk hn))
                clear hjk
                go_wp2
                go_roundw
                case rel => exact ⟨j + 1, by omega, by go_num, HF2, HB⟩
                case measure => simp [intOf]; omega
              · have hq : ((j : Int) != (k : Int)) = true := by simp; omega
                obtain ⟨r, hr⟩ := pre_bool (tx s) (tx s')
                have cP := Lib.hid (fun W => hasPrefix_any s' s r hr W hsz' hsz)
                cases r with
                | true =>
                  have HR := Lib.hid (cdB_no (not_cd_pre (txl_at HS.out) (txl_at HS'.out) hjk (hr.1 rfl)))
                  clear hjk hr
                  go_wp2_with (go_at_call 59; refine (cP.out _).mono ?_; rintro e w1 ⟨rfl, rfl⟩)
                  go_ret
                  exact ⟨ret_bool HR.out.symm, HB.out⟩
                | false =>
                  have HF2 := Lib.hid (HF.out.succ (txl_at HS'.out) (fun _ hp => by have := hr.2 hp; cases this))
                  clear hjk hr
                  go_wp2_with (go_at_call 59; refine (cP.out _).mono ?_; rintro e w1 ⟨rfl, rfl⟩)
                  go_roundw
                  case rel => exact ⟨j + 1, by omega, by go_num, HF2, HB⟩
                  case measure => simp [intOf]; omega
            · have HN2 : Hid (CdTo (txl ss) (k + 1)) := Lib.hid (HN.out.succ (txl_at HS.out) HSq.out (by
                have e : j = (txl ss).length := by rw [txl_len, L.out]; omega
                rw [← e]
                exact HF.out))
              go_wp2
              go_roundw
              case rel => exact ⟨k + 1, by omega, by go_num, HN2, HB⟩
              case measure => simp [intOf]; omega
        · have HR := Lib.hid (cdB_no (not_cd_sq (txl_at HS.out) hsq))
          have cB0 := fun W => isSequence_any s W hsz
          rw [show sqB s = false from decide_eq_false hsq] at cB0
          have cB := Lib.hid cB0
          clear cB0 hsq
          go_wp2_with (go_at_call 58; refine (cB.out _).mono ?_; rintro e w1 ⟨rfl, hb1⟩; have HB1 := Lib.hid (HB.out.trans (hb1.mono HB.out.size)); clear hb1)
          go_ret
          exact ⟨ret_bool HR.out.symm, HB1.out⟩
      · have HR : Hid (cdB (txl ss) = true) := Lib.hid (cdB_iff.2 ((by
          have e : k = (txl ss).length := by rw [txl_len, L.out]; omega
          rw [← e]
          exact HN.out : CdTo (txl ss) (txl ss).length).cd (by rw [txl_len, L.out]; omega) (by rw [txl_len, L.out]; omega)))
        go_wp2
        go_ret
        exact ⟨ret_bool HR.out.symm, HB.out⟩
  · have HR := Lib.hid (cdB_no (not_cd_len (by rw [txl_len, L.out]; exact h1)))
    by_cases h0 : n = 0
    · subst h0
      clear h1
      have q1 : (((0 : Nat) : Int) == 0) = true := rfl
      go_enter Try.func32, Try.ntmps32
      go_wp2
      go_ret
      exact ⟨ret_bool HR.out.symm, Below.refl _ _⟩
    · have q1 : ((n : Int) == 0) = false := by simp; omega
      have q2 : (12 : Int) < (n : Int) := by omega
      clear h0 h1
      go_enter Try.func32, Try.ntmps32
      go_wp2
      go_ret
      exact ⟨ret_bool HR.out.symm, Below.refl _ _⟩

end Go.Proofs.Ythjafoacnfgjhab
