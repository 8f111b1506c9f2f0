import Derived.Test.YtoofpgehkihbcaaL4Prefix
import Derived.Test.YtoofpgehkihbcaaWords

/-
  The text of a branch of a valid pressed tree: the program's function.
-/
namespace Go.Proofs.Ytoofpgehkihbcaa
open Go.RowKit
set_option linter.unusedVariables false

set_option maxRecDepth 1000000 in
set_option maxHeartbeats 1000000 in
theorem branchPrefixAt_any (B : Nat) (a : Option Addr) (n c i : Nat) (p : List Br) (qs : List Txt) (s : ByteArray) (w : World) (hB : B ≤ w.heap.size) (h : Brs B w a n c p) (hn : n ≤ 1048576) (hi : i < n) (hT : TellsB p qs) (hs : qs[i]? = some (tx s)) :
    Calls Try.prog 36 #[.agg #[.slice a n c], .int .i64 (i : Int)] w fun e w' => e = .returned (.string s) ∧ Below w.heap.size w w' := by
  have L := Lib.hid h.len
  have C := h.cap
  have T := h.top
  have H := Lib.hid h
  have HB := Lib.hid hB
  have HT := Lib.hid hT
  have HS := Lib.hid hs
  have hs12 : s.size ≤ 12 := by
    have := hT.2.2 _ (at_mem hs)
    rwa [tx_len] at this
  clear h hB hT hs
  have HB1 : Hid (Below w.heap.size w (w.alloc (.cells #[.slice a n c] 30))) := Lib.hid ((Below.refl _ _).alloc (Nat.le_refl _) _)
  go_enter Try.func36, Try.ntmps36
  go_wp2
  go_loopw [1, 5] (fun b v wr => ∃ (j : Nat) (t : ByteArray), b = .int .i64 j ∧ v = .string t ∧ j < n ∧ Hid (UpB p i j t) ∧ Hid (Below w.heap.size w wr) ∧ wr.cell? ⟨w.heap.size, 0, none⟩ = some (.slice a n c)) (fun b _ _ => (intOf b).toNat)
  case atStart => exact ⟨i, ⟨#[]⟩, rfl, rfl, hi, Lib.hid UpB.start, HB1, by simp⟩
  case round =>
    clear hi
    obtain ⟨j, t, rfl, rfl, hjn, HU, HBw, hbox⟩ := hrel
    obtain ⟨j', y, e1, e2, e3⟩ := HU.out qs HT.out _ HS.out
    obtain rfl : j' = j := by omega
    clear e1
    have E2 := Lib.hid e2
    have E3 := Lib.hid e3
    clear e2 e3
    by_cases hj0 : j' = 0
    · have hne : ((j' : Int) != 0) = false := by simp [hj0]
      have HX : Hid (t = s) := Lib.hid (by
        have h0 := E2.out
        rw [hj0, HT.out.1.nil (by rw [L.out]; omega)] at h0
        have h1 := E3.out
        rw [← Option.some.inj h0, List.nil_append] at h1
        exact (tx_inj h1).symm)
      clear hj0
      go_wp2
      go_ret
      exact ⟨by rw [HX.out]; rfl, HBw.out⟩
    · have hj1 : 1 ≤ j' := by omega
      have hne : ((j' : Int) != 0) = true := by simp [hj0]
      obtain ⟨b, o, l, q, e, rfl, hbB, hd, hl, hq, hc1, hc2, hc3⟩ := (H.out.keep (HBw.out.mono HB.out)).elem j' hjn
      have HUp := Lib.hid (HU.out.up hj1 hd)
      obtain ⟨k, z, hqk, hkj, hlt12⟩ : ∃ (k : Nat) (z : Txt), q = (k : Int) ∧ k < j' ∧ l.size + t.size ≤ 12 := by
        obtain ⟨hw, k, z, f1, f2, f3, f4⟩ := HT.out.1.step j' _ hj1 (by rw [L.out]; exact hjn) hd
        refine ⟨k, z, f1, f2, ?_⟩
        rw [E2.out] at f4
        have f5 := congrArg List.length E3.out
        rw [Option.some.inj f4, List.length_append, List.length_append, tx_len, tx_len] at f5
        have f6 : (tx l).length = l.size := tx_len l
        have f7 : (z ++ tx l).length = z.length + (tx l).length := List.length_append
        simp at f5
        omega
      have hcat : ¬ (9223372036854775807 < l.size + t.size) := by omega
      have hi0 : (0 : Int) ≤ (j' : Int) := by omega
      have hi1 : (j' : Int) < (n : Int) := by omega
      subst hqk
      clear hd hj0 hq
      go_wp2
      go_roundw
      case rel => exact ⟨k, l ++ t, rfl, rfl, by omega, HUp, HBw, hbox⟩
      case measure => simp [intOf]; omega

end Go.Proofs.Ytoofpgehkihbcaa

/-
  strings.CutPrefix.
-/
namespace Go.Proofs.Ytoofpgehkihbcaa
open Go.RowKit
set_option linter.unusedVariables false

theorem ext_pre {s p : ByteArray} (hl : p.size ≤ s.size) {r : Bool} (hr : r = true ↔ tx p <+: tx s) : ((s.extract 0 p.size).toList == p.toList) = r := by
  rw [str_eq_list, Bool.eq_iff_iff, decide_eq_true_eq, hr, List.prefix_iff_eq_take]
  constructor
  · intro h
    have := congrArg tx h
    rw [show tx (s.extract 0 p.size) = (tx s).take p.size by simp [tx]] at this
    rw [tx_len]; exact this.symm
  · intro h
    apply tx_inj
    rw [show tx (s.extract 0 p.size) = (tx s).take p.size by simp [tx], ← tx_len p]; exact h.symm

theorem hasPrefix_any (s p : ByteArray) (r : Bool) (hr : r = true ↔ tx p <+: tx s) (w : World) (hs : s.size ≤ 100) (hp : p.size ≤ 100) :
    Calls Try.prog 80 #[.string s, .string p] w fun e w' => e = .returned (.bool r) ∧ w = w' := by
  by_cases hl : p.size ≤ s.size
  · have HX := Lib.hid (ext_pre hl hr)
    have hli : (p.size : Int) ≤ (s.size : Int) := by omega
    clear hr
    go_enter Try.func80, Try.ntmps80
    go_wp2
    go_ret
    exact ⟨ret_bool HX.out, rfl⟩
  · have HX : Hid (r = false) := Lib.hid (by
      cases r with
      | false => rfl
      | true =>
        have := (hr.1 rfl).length_le
        rw [tx_len, tx_len] at this
        omega)
    have hli : ¬ (p.size : Int) ≤ (s.size : Int) := by omega
    clear hr
    go_enter Try.func80, Try.ntmps80
    go_wp2
    go_ret
    exact ⟨ret_bool HX.out.symm, rfl⟩

theorem cutPrefix0_any (s p : ByteArray) (r : Bool) (hr : r = true ↔ tx p <+: tx s) (w : World) (hs : s.size ≤ 100) (hp : p.size ≤ 100) :
    Calls Try.prog 58 #[.string s, .string p] w fun e w' => e = .returned (.tuple #[.string (if r then s.extract p.size s.size else s), .bool r]) ∧ w = w' := by
  have cH := Lib.hid (fun w => hasPrefix_any s p r hr w hs hp)
  have hle : r = true → p.size ≤ s.size := fun h => by
    have := (hr.1 h).length_le
    rwa [tx_len, tx_len] at this
  clear hr
  cases r with
  | false =>
    clear hle
    go_enter Try.func58, Try.ntmps58
    go_wp2_with (go_at_call 80; refine (cH.out _).mono ?_; rintro e w2 ⟨rfl, rfl⟩)
    go_ret2
    exact ⟨rfl, rfl⟩
  | true =>
    have hl := hle rfl
    clear hle
    go_enter Try.func58, Try.ntmps58
    go_wp2_with (go_at_call 80; refine (cH.out _).mono ?_; rintro e w2 ⟨rfl, rfl⟩)
    go_ret2
    exact ⟨rfl, rfl⟩

theorem cutPrefix_any (s p : ByteArray) (r : Bool) (hr : r = true ↔ tx p <+: tx s) (w : World) (hs : s.size ≤ 100) (hp : p.size ≤ 100) :
    Calls Try.prog 35 #[.string s, .string p] w fun e w' => e = .returned (.tuple #[.string (if r then s.extract p.size s.size else s), .bool r]) ∧ w = w' := by
  have cH := Lib.hid (fun w => cutPrefix0_any s p r hr w hs hp)
  obtain ⟨z, hz⟩ : ∃ z, (if r then s.extract p.size s.size else s) = z := ⟨_, rfl⟩
  rw [hz] at cH ⊢
  clear hr hz
  go_enter Try.func35, Try.ntmps35
  go_wp2_with (go_at_call 58; refine (cH.out _).mono ?_; rintro e w2 ⟨rfl, rfl⟩)
  go_ret2
  exact ⟨rfl, rfl⟩

end Go.Proofs.Ytoofpgehkihbcaa
