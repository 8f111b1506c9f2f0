/-
  The text of a branch: both functions.
-/
import Derived.Test.YtgmldhkipjadgaaIsPr
namespace Go.Proofs.Ytgmldhkipjadgaa
open Go.RowKit
set_option linter.unusedVariables false

set_option maxRecDepth 1000000 in
set_option maxHeartbeats 1000000 in
theorem branchPrefixAt_any (B : Nat) (a : Option Addr) (n c i : Nat) (p : List Br) (qs : List Txt) (s : ByteArray) (w : World) (hB : B ≤ w.heap.size) (h : Brs B w a n c p) (hn : n ≤ 1048576) (hi : i < n) (hT : TellsB p qs) (hs : qs[i]? = some (tx s)) :
    Calls Try.prog 57 #[.agg #[.slice a n c], .int .i64 (i : Int)] w fun e w' => e = .returned (.string s) ∧ Below w.heap.size w w' := by
  have L := Lib.hid h.len
  have C := h.cap
  have T := h.top
  have H := Lib.hid h
  have HB := Lib.hid hB
  have HT := Lib.hid hT
  have HS := Lib.hid hs
  have hs12 : s.size ≤ 12 := by
    have := hT.2.2 _ (at_mem hs)
    rwa [tx_len] at this
  clear h hB hT hs
  have HB1 : Hid (Below w.heap.size w (w.alloc (.cells #[.slice a n c] 29))) := Lib.hid ((Below.refl _ _).alloc (Nat.le_refl _) _)
  go_enter Try.func57, Try.ntmps57
  go_wp2
  go_loopw [1, 5] (fun b v wr => ∃ (j : Nat) (t : ByteArray), b = .int .i64 j ∧ v = .string t ∧ j < n ∧ Hid (UpB p i j t) ∧ Hid (Below w.heap.size w wr) ∧ wr.cell? ⟨w.heap.size, 0, none⟩ = some (.slice a n c)) (fun b _ _ => (intOf b).toNat)
  case atStart => exact ⟨i, ⟨#[]⟩, rfl, rfl, hi, Lib.hid UpB.start, HB1, by simp⟩
  case round =>
    clear hi
    obtain ⟨j, t, rfl, rfl, hjn, HU, HBw, hbox⟩ := hrel
    obtain ⟨j', y, e1, e2, e3⟩ := HU.out qs HT.out _ HS.out
    obtain rfl : j' = j := by omega
    clear e1
    have E2 := Lib.hid e2
    have E3 := Lib.hid e3
    clear e2 e3
    by_cases hj0 : j' = 0
    · have hne : ((j' : Int) != 0) = false := by simp [hj0]
      have HX : Hid (t = s) := Lib.hid (by
        have h0 := E2.out
        rw [hj0, HT.out.1.nil (by rw [L.out]; omega)] at h0
        have h1 := E3.out
        rw [← Option.some.inj h0, List.nil_append] at h1
        exact (tx_inj h1).symm)
      clear hj0
      go_wp2
      go_ret
      exact ⟨by rw [HX.out]; rfl, HBw.out⟩
    · have hj1 : 1 ≤ j' := by omega
      have hne : ((j' : Int) != 0) = true := by simp [hj0]
      obtain ⟨b, o, l, q, e, rfl, hbB, hd, hl, hq, hc1, hc2, hc3⟩ := (H.out.keep (HBw.out.mono HB.out)).elem j' hjn
      have HUp := Lib.hid (HU.out.up hj1 hd)
      obtain ⟨k, z, hqk, hkj, hlt12⟩ : ∃ (k : Nat) (z : Txt), q = (k : Int) ∧ k < j' ∧ l.size + t.size ≤ 12 := by
        obtain ⟨hw, k, z, f1, f2, f3, f4⟩ := HT.out.1.step j' _ hj1 (by rw [L.out]; exact hjn) hd
        refine ⟨k, z, f1, f2, ?_⟩
        rw [E2.out] at f4
        have f5 := congrArg List.length E3.out
        rw [Option.some.inj f4, List.length_append, List.length_append, tx_len, tx_len] at f5
        have f6 : (tx l).length = l.size := tx_len l
        have f7 : (z ++ tx l).length = z.length + (tx l).length := List.length_append
        simp at f5
        omega
      have hcat : ¬ (9223372036854775807 < l.size + t.size) := by omega
      have hi0 : (0 : Int) ≤ (j' : Int) := by omega
      have hi1 : (j' : Int) < (n : Int) := by omega
      subst hqk
      clear hd hj0 hq
      go_wp2
      go_roundw
      case rel => exact ⟨k, l ++ t, rfl, rfl, by omega, HUp, HBw, hbox⟩
      case measure => simp [intOf]; omega

set_option maxRecDepth 1000000 in
set_option maxHeartbeats 2000000 in
theorem agreeBranchPrefix (t : List Br) (n : Nat) (x0 : Int) (hn : n ≤ 1048576) (hx0 : -9223372036854775808 ≤ x0 ∧ x0 ≤ 9223372036854775807) : ∃ (v : ByteArray) (ok : Bool),
    (∀ (W : World) (a : Option Addr), Brs W.heap.size W a n n t → Calls Try.prog 32 #[.agg #[.slice a n n], .int .i64 x0] W fun e w' => e = .returned (.tuple #[.string v, .bool ok]) ∧ Below W.heap.size W w') ∧
    (∀ (W : World) (a : Option Addr), Brs W.heap.size W a n n t → Calls Try.prog 33 #[.agg #[.slice a n n], .int .i64 x0] W fun e w' => e = .returned (.tuple #[.string v, .bool ok]) ∧ Below W.heap.size W w') := by
  have pre : ∀ (W : World) (a : Option Addr), Brs W.heap.size W a n n t → Hid (Below W.heap.size W (W.alloc (.cells #[.slice a n n] 29)) ∧ Boxed (W.alloc (.cells #[.slice a n n] 29)) W.heap.size 29 (.slice a n n) ∧ Brs W.heap.size (W.alloc (.cells #[.slice a n n] 29)) a n n t) := fun W a hN => Lib.hid ⟨(Below.refl _ _).alloc (Nat.le_refl _) _, Boxed.new _ _ _, hN.keep ((Below.refl _ _).alloc (Nat.le_refl _) _)⟩
  obtain ⟨ok, hok⟩ : ∃ ok, pOk t = ok := ⟨_, rfl⟩
  have HOK := Lib.hid hok
  have cO : Hid (∀ (W : World) (a : Option Addr) (B : Nat), B ≤ W.heap.size → Brs B W a n n t → Calls Try.prog 35 #[.agg #[.slice a n n]] W fun e w' => ∃ a' m' c', e = .returned (.tuple #[.agg #[.slice a' m' c'], .bool ok]) ∧ Below W.heap.size W w') := Lib.hid (fun W a B hB h => by
    have h0 := l4Open_any B a n n t W hB h hn
    rw [hok] at h0
    exact h0.mono fun e w' ⟨a', c', h1, _, h3⟩ => ⟨a', _, c', h1, h3⟩)
  have cI : Hid (∀ (W : World) (a : Option Addr), Brs W.heap.size W a n n t → Calls Try.prog 12 #[.agg #[.slice a n n]] W fun e w' => e = .returned (.bool ok) ∧ Below W.heap.size W w') := Lib.hid (fun W a h => by
    have h0 := implIsPressed_any a n n t W h hn
    rwa [hok] at h0)
  clear hok
  cases ok with
  | false =>
    refine ⟨⟨#[]⟩, false, fun W a hN => ?_, fun W a hN => ?_⟩
    · have HP := pre W a hN
      have c1 := Lib.hid (cO.out _ a W.heap.size HP.out.1.size HP.out.2.2)
      clear hN
      go_enter Try.func32, Try.ntmps32
      go_wp2_with fail
      refine c1.out.mono ?_
      rintro e w2 ⟨a2, m2, c2, rfl, hb2⟩
      have HB2 := Lib.hid (HP.out.1.trans (hb2.mono HP.out.1.size))
      clear hb2
      go_wp2
      go_ret2
      exact ⟨rfl, HB2.out.alloc HB2.out.size _⟩
    · have HP := pre W a hN
      have c1 := Lib.hid (cI.out _ a (HP.out.2.2.mono HP.out.1.size))
      clear hN
      go_enter Try.func33, Try.ntmps33
      go_wp2_with (go_at_call 12; refine c1.out.mono ?_; rintro e w2 ⟨rfl, hb2⟩; have HB2 := Lib.hid (HP.out.1.trans (hb2.mono HP.out.1.size)); clear hb2)
      go_ret2
      exact ⟨rfl, HB2.out⟩
  | true =>
    by_cases hin : 0 ≤ x0 ∧ x0 < n
    · obtain ⟨i, rfl⟩ : ∃ i : Nat, x0 = i := ⟨x0.toNat, by omega⟩
      have hin' : i < n := by omega
      have cIn := Lib.hid (fun W => l1In_yes (x := (i : Int)) (a := 0) (b := (n : Int) - 1) W (by omega))
      have hP := pWds_is HOK.out
      obtain ⟨qs, hqs⟩ : ∃ qs, stl (pWds t) = qs := ⟨_, rfl⟩
      have HT := Lib.hid hP.tells
      rw [hqs] at HT
      obtain ⟨v, hv⟩ : ∃ v, bx (qs.getD i []) = v := ⟨_, rfl⟩
      have HV : Hid (t.length = n → qs[i]? = some (tx v)) := Lib.hid (fun hl => by
        have h1 : i < qs.length := by rw [HT.out.1.len, hl]; exact hin'
        rw [← hv, tx_bx, List.getD_eq_getElem?_getD, List.getElem?_eq_getElem h1]
        rfl)
      clear hv hqs hP hin
      have hg1 : ¬ ((i : Int) < 0) := by omega
      have hg2 : ¬ ((n : Int) ≤ (i : Int)) := by omega
      refine ⟨v, true, fun W a hN => ?_, fun W a hN => ?_⟩
      · have HP := pre W a hN
        have HVq := Lib.hid (HV.out hN.len)
        have c1 := Lib.hid (cO.out _ a W.heap.size HP.out.1.size HP.out.2.2)
        clear hN
        go_enter Try.func32, Try.ntmps32
        go_wp2_with fail
        refine c1.out.mono ?_
        rintro e w2 ⟨a2, m2, c2, rfl, hb2⟩
        have HB2 := Lib.hid (hb2.alloc hb2.size (.cells #[.slice a2 m2 c2] 41))
        have HB3 := Lib.hid (HP.out.1.trans (HB2.out.mono HP.out.1.size))
        have hbx := (box_stay HP.out.2.1 HB2.out).cell
        have cP := Lib.hid (l4Prefix_any W.heap.size a n n i t (w2.alloc (.cells #[.slice a2 m2 c2] 41)) HB3.out.size (HP.out.2.2.keep (HB2.out.mono HP.out.1.size)) hn hin')
        clear hb2
        go_wp2_with (first
          | (go_at_call 55; refine (cIn.out _).mono ?_; rintro en w' ⟨rfl, rfl⟩)
          | (go_at_call 56; refine cP.out.mono ?_; rintro e w4 ⟨s, rfl, _, hPre, hb4⟩; have HS : Hid (s = v) := Lib.hid (tx_inj (hPre qs HT.out _ HVq.out)); have HB4 := Lib.hid (HB3.out.trans (hb4.mono HB3.out.size)); clear hPre hb4)
          | fail)
        go_ret2
        exact ⟨by rw [HS.out]; rfl, HB4.out⟩
      · have HP := pre W a hN
        have HVq := Lib.hid (HV.out hN.len)
        have c1 := Lib.hid (cI.out _ a (HP.out.2.2.mono HP.out.1.size))
        clear hN
        go_enter Try.func33, Try.ntmps33
        go_wp2_with (first
          | (go_at_call 12; refine c1.out.mono ?_; rintro e w2 ⟨rfl, hb2⟩; have HB2 := Lib.hid (HP.out.1.trans (hb2.mono HP.out.1.size)); have hbx := (box_stay HP.out.2.1 hb2).cell; have cP := Lib.hid (branchPrefixAt_any W.heap.size a n n i t qs v w2 HB2.out.size (HP.out.2.2.keep (hb2.mono HP.out.1.size)) hn hin' HT.out HVq.out); clear hb2)
          | (go_at_call 57; refine cP.out.mono ?_; rintro e w4 ⟨rfl, hb4⟩; have HB4 := Lib.hid (HB2.out.trans (hb4.mono HB2.out.size)); clear hb4)
          | fail)
        go_ret2
        exact ⟨rfl, HB4.out⟩
    · have cIn := Lib.hid (fun W => l1In_no (x := x0) (a := 0) (b := (n : Int) - 1) W (by omega))
      refine ⟨⟨#[]⟩, false, fun W a hN => ?_, fun W a hN => ?_⟩
      · have HP := pre W a hN
        have c1 := Lib.hid (cO.out _ a W.heap.size HP.out.1.size HP.out.2.2)
        clear hN
        go_enter Try.func32, Try.ntmps32
        go_wp2_with fail
        refine c1.out.mono ?_
        rintro e w2 ⟨a2, m2, c2, rfl, hb2⟩
        have HB2 := Lib.hid (hb2.alloc hb2.size (.cells #[.slice a2 m2 c2] 41))
        have HB3 := Lib.hid (HP.out.1.trans (HB2.out.mono HP.out.1.size))
        have hbx := (box_stay HP.out.2.1 HB2.out).cell
        clear hb2
        go_wp2_with (first
          | (go_at_call 55; refine (cIn.out _).mono ?_; rintro en w' ⟨rfl, rfl⟩)
          | fail)
        go_ret2
        exact ⟨rfl, HB3.out⟩
      · have HP := pre W a hN
        have c1 := Lib.hid (cI.out _ a (HP.out.2.2.mono HP.out.1.size))
        clear hN
        by_cases hneg : x0 < 0
        · clear hin
          go_enter Try.func33, Try.ntmps33
          go_wp2_with (first
            | (go_at_call 12; refine c1.out.mono ?_; rintro e w2 ⟨rfl, hb2⟩; have HB2 := Lib.hid (HP.out.1.trans (hb2.mono HP.out.1.size)); clear hb2)
            | fail)
          go_ret2
          exact ⟨rfl, HB2.out⟩
        · have hge : (n : Int) ≤ x0 := by omega
          clear hin
          go_enter Try.func33, Try.ntmps33
          go_wp2_with (first
            | (go_at_call 12; refine c1.out.mono ?_; rintro e w2 ⟨rfl, hb2⟩; have HB2 := Lib.hid (HP.out.1.trans (hb2.mono HP.out.1.size)); have hbx := (box_stay HP.out.2.1 hb2).cell; clear hb2)
            | fail)
          go_ret2
          exact ⟨rfl, HB2.out⟩

end Go.Proofs.Ytgmldhkipjadgaa
