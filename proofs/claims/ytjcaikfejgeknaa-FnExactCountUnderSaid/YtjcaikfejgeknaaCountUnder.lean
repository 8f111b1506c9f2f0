/-
  The number of words under a node: the reference and the program answer the same.
-/
import Derived.Test.YtjcaikfejgeknaaUnder
namespace Go.Proofs.Ytjcaikfejgeknaa
open Go.RowKit
set_option linter.unusedVariables false

set_option maxHeartbeats 1000000 in
theorem agreeCountUnder (t : List Nd) (n : Nat) (x0 : Int) (hn : n ≤ 1048576) (hx0 : -9223372036854775808 ≤ x0 ∧ x0 ≤ 9223372036854775807) : ∃ (v : Int) (ok : Bool),
    (∀ (W : World) (a : Option Addr), Nds W.heap.size W a n n t → Calls Try.prog 41 #[.agg #[.slice a n n], .int .i64 x0] W fun e w' => e = .returned (.tuple #[.int .i64 v, .bool ok]) ∧ Below W.heap.size W w') ∧
    (∀ (W : World) (a : Option Addr), Nds W.heap.size W a n n t → Calls Try.prog 42 #[.agg #[.slice a n n], .int .i64 x0] W fun e w' => e = .returned (.tuple #[.int .i64 v, .bool ok]) ∧ Below W.heap.size W w') := by
  obtain ⟨r, hr⟩ := bool_of (IsT t ∧ 0 ≤ x0 ∧ x0 < n)
  have HR := Lib.hid hr
  have HBa : ∀ (W : World) (a : Option Addr), Hid (Below W.heap.size W (W.alloc (.cells #[.slice a n n] 30))) := fun W a => Lib.hid ((Below.refl _ _).alloc (Nat.le_refl _) _)
  have cGs : Hid (∀ (W : World) (a : Option Addr) (B : Nat), B ≤ W.heap.size → Nds B W a n n t → Calls Try.prog 66 #[.agg #[.slice a n n], .int .i64 x0] W fun e w' => e = .returned (.bool r) ∧ Below W.heap.size W w') := Lib.hid (fun W a B hB hN => l2Good_any t n x0 hn r HR.out W B hB a hN)
  have cGi : Hid (∀ (W : World) (a : Option Addr) (B : Nat), B ≤ W.heap.size → Nds B W a n n t → Calls Try.prog 68 #[.agg #[.slice a n n], .int .i64 x0] W fun e w' => e = .returned (.bool r) ∧ Below W.heap.size W w') := Lib.hid (fun W a B hB hN => isNodeOf_any t n x0 hn r HR.out W B hB a hN)
  clear hr
  cases r with
  | false =>
    refine ⟨0, false, fun W a hN => ?_, fun W a hN => ?_⟩
    · have HB1 := HBa W a
      have HN := Lib.hid (hN.keep HB1.out)
      clear hN HBa
      go_enter Try.func41, Try.ntmps41
      go_wp2_with (first | (go_at_call 66; refine (cGs.out _ a _ HB1.out.size HN.out).mono ?_; rintro e w2 ⟨rfl, hb2⟩))
      go_ret2
      exact ⟨rfl, HB1.out.trans (hb2.mono HB1.out.size)⟩
    · have HB1 := HBa W a
      have HN := Lib.hid (hN.keep HB1.out)
      clear hN HBa
      go_enter Try.func42, Try.ntmps42
      go_wp2_with (first | (go_at_call 68; refine (cGi.out _ a _ HB1.out.size HN.out).mono ?_; rintro e w2 ⟨rfl, hb2⟩))
      go_ret2
      exact ⟨rfl, HB1.out.trans (hb2.mono HB1.out.size)⟩
  | true =>
    obtain ⟨⟨ps, hv⟩, h0, h1⟩ := HR.out.1 rfl
    have hsz := hv.size
    obtain ⟨i, rfl⟩ : ∃ i : Nat, x0 = i := ⟨x0.toNat, by omega⟩
    have hin : i < n := by omega
    by_cases hl : t.length = n
    · obtain ⟨_, x, _, hx⟩ := hv.tells.at (show i < t.length by omega)
      have HV := Lib.hid hv
      have HXx := Lib.hid hx
      clear hv hx
      have cUs : Hid (∀ (W : World) (a : Option Addr) (B : Nat), B ≤ W.heap.size → Nds B W a n n t → Calls Try.prog 71 #[.agg #[.slice a n n], .int .i64 (i : Int)] W fun e w' => ∃ a' c', e = .returned (.slice a' (cnt x (wds t ps)) c') ∧ Below W.heap.size W w') := Lib.hid (fun W a B hB hN => l2Under_any B a n i t ps x W hB hN HV.out HXx.out)
      have cBi : Hid (∀ (W : World) (a : Option Addr) (B : Nat), B ≤ W.heap.size → Nds B W a n n t → Calls Try.prog 72 #[.agg #[.slice a n n], .int .i64 (i : Int)] W fun e w' => ∃ b : Nat, e = .returned (.int .i64 (b : Int)) ∧ Behind t ps i b ∧ Below W.heap.size W w') := Lib.hid (fun W a B hB hN => behindUnder_any B a n n i t ps W hB hN (by omega) HV.out.tells hin)
      obtain ⟨q, hq⟩ : ∃ q, cnt x (wds t ps) = q := ⟨_, rfl⟩
      have HQ := Lib.hid hq
      rw [hq] at cUs
      clear hq
      have HL := Lib.hid hl
      refine ⟨(q : Int), true, fun W a hN => ?_, fun W a hN => ?_⟩
      · have HB1 := HBa W a
        have hbx : (W.alloc (.cells #[.slice a n n] 30)).cell? ⟨W.heap.size, 0, none⟩ = some (.slice a n n) := by simp
        have hlt : W.heap.size < (W.alloc (.cells #[.slice a n n] 30)).heap.size := by simp
        have HN := Lib.hid (hN.keep HB1.out)
        clear hN HBa hl
        go_enter Try.func41, Try.ntmps41
        go_wp2_with (first
          | (go_at_call 66; refine (cGs.out _ a _ HB1.out.size HN.out).mono ?_; rintro e w2 ⟨rfl, hb2⟩; have hbx2 := (hb2.cell (p := ⟨W.heap.size, 0, none⟩) hlt).trans hbx; have HB2 := Lib.hid (HB1.out.trans (hb2.mono HB1.out.size)); have N2 := Lib.hid (HN.out.keep (hb2.mono HB1.out.size)))
          | (go_at_call 71; refine (cUs.out _ a _ HB2.out.size N2.out).mono ?_; rintro e w3 ⟨a3, c3, rfl, hb3⟩; have HB3 := Lib.hid (HB2.out.trans (hb3.mono HB2.out.size)); clear hb3))
        go_ret2
        exact ⟨rfl, HB3.out⟩
      · have HB1 := HBa W a
        have hbx : (W.alloc (.cells #[.slice a n n] 30)).cell? ⟨W.heap.size, 0, none⟩ = some (.slice a n n) := by simp
        have hlt : W.heap.size < (W.alloc (.cells #[.slice a n n] 30)).heap.size := by simp
        have HN := Lib.hid (hN.keep HB1.out)
        clear hN HBa hl
        obtain ⟨b0, o0, _, _, _, e0, _, _, _, _, _, _, _⟩ := HN.out.elem i hin
        subst e0
        have hi0 : (0 : Int) ≤ (i : Int) := by omega
        have hne : ¬ n = i := by omega
        go_enter Try.func42, Try.ntmps42
        go_wp2_with (first
          | (go_at_call 68; refine (cGi.out _ _ _ HB1.out.size HN.out).mono ?_; rintro e w2 ⟨rfl, hb2⟩; have hbx2 := (hb2.cell (p := ⟨W.heap.size, 0, none⟩) hlt).trans hbx; have hlt2 := Nat.lt_of_lt_of_le hlt hb2.size; have HB2 := Lib.hid (HB1.out.trans (hb2.mono HB1.out.size)); have N2 := Lib.hid (HN.out.keep (hb2.mono HB1.out.size))))
        go_region_held3 (fun w' => w'.cell? ⟨W.heap.size, 0, none⟩ = some (.slice (some ⟨b0, o0, none⟩) n n))
          (first
            | exact (hb4.cell (p := ⟨W.heap.size, 0, none⟩) (Nat.lt_of_lt_of_le hlt2 hb3.size)).trans ((hb3.cell (p := ⟨W.heap.size, 0, none⟩) hlt2).trans hbx2)
            | exact (hb3.cell (p := ⟨W.heap.size, 0, none⟩) hlt2).trans hbx2
            | exact hbx2)
          (first
            | (go_at_call 72; refine (cBi.out _ _ _ (by exact HB2.out.drew.size) (by exact N2.out.keep ((Below.refl _ _).drew))).mono ?_; rintro e w3 ⟨bh, rfl, hBh, hb3⟩; have hbn : bh ≤ n := (by have h9 := hBh.le; have h8 := HL.out; omega); have hib : i < bh := hBh.lt; have hbi0 : (i : Int) ≤ (bh : Int) := (by omega); have hbi1 : (bh : Int) ≤ (n : Int) := (by omega); have HE : Hid (ends ((t.take bh).drop i) = q) := Lib.hid (by rw [← cnt_under HV.out hBh HXx.out]; exact HQ.out); have N3 := Lib.hid ((N2.out.keep ((Below.refl _ _).drew.trans (hb3.mono HB2.out.drew.size))).sub (Nat.le_of_lt hib) hbn); have HB3 := Lib.hid (HB2.out.drew.trans (hb3.mono HB2.out.drew.size)))
            | (go_at_call 56; refine (countEnds_any W.heap.size _ _ _ ((t.take bh).drop i) _ (by exact HB3.out.size) (by exact N3.out) (by omega)).mono ?_; rw [HE.out]; rintro e w4 ⟨rfl, hb4⟩))
        go_wp2
        go_ret2
        exact ⟨rfl, HB3.out.trans (hb4.mono HB3.out.size)⟩
    · exact ⟨0, true, fun W a hN => absurd hN.len hl, fun W a hN => absurd hN.len hl⟩

end Go.Proofs.Ytjcaikfejgeknaa
