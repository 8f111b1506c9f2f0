/-
  The number of words under a node: the reference and the program answer the same.
-/
import Derived.Test.YtimengcikjankabUnder
import Derived.Test.YtimengcikjankabGoodN
import Derived.Test.YtimengcikjankabBelC
namespace Go.Proofs.Ytimengcikjankab
open Go.RowKit
set_option linter.unusedVariables false

set_option maxHeartbeats 1000000 in
theorem agreeCountUnder (t : List Nd) (n : Nat) (x0 : Int) (hn : n ≤ 1048576) (hx0 : -9223372036854775808 ≤ x0 ∧ x0 ≤ 9223372036854775807) : ∃ (v : Int) (ok : Bool),
    (∀ (W : World) (a : Option Addr), Nds W.heap.size W a n n t → Calls Try.prog 13 #[.agg #[.slice a n n], .int .i64 x0] W fun e w' => e = .returned (.tuple #[.int .i64 v, .bool ok]) ∧ Below W.heap.size W w') ∧
    (∀ (W : World) (a : Option Addr), Nds W.heap.size W a n n t → Calls Try.prog 14 #[.agg #[.slice a n n], .int .i64 x0] W fun e w' => e = .returned (.tuple #[.int .i64 v, .bool ok]) ∧ Below W.heap.size W w') := by
  obtain ⟨r, hr⟩ := bool_of (IsT t ∧ 0 ≤ x0 ∧ x0 < n)
  have HR := Lib.hid hr
  have HBa : ∀ (W : World) (a : Option Addr), Hid (Below W.heap.size W (W.alloc (.cells #[.slice a n n] 30))) := fun W a => Lib.hid ((Below.refl _ _).alloc (Nat.le_refl _) _)
  have cGs : Hid (∀ (W : World) (a : Option Addr) (B : Nat), B ≤ W.heap.size → Nds B W a n n t → Calls Try.prog 31 #[.agg #[.slice a n n], .int .i64 x0] W fun e w' => e = .returned (.bool r) ∧ Below W.heap.size W w') := Lib.hid (fun W a B hB hN => l2Good_any t n x0 hn r HR.out W B hB a hN)
  have cGi : Hid (∀ (W : World) (a : Option Addr) (B : Nat), B ≤ W.heap.size → Nds B W a n n t → Calls Try.prog 33 #[.agg #[.slice a n n], .int .i64 x0] W fun e w' => e = .returned (.bool r) ∧ Below W.heap.size W w') := Lib.hid (fun W a B hB hN => isNodeOf_any t n x0 hn r HR.out W B hB a hN)
  clear hr
  cases r with
  | false =>
    refine ⟨0, false, fun W a hN => ?_, fun W a hN => ?_⟩
    · have HB1 := HBa W a
      have HN := Lib.hid (hN.keep HB1.out)
      clear hN HBa
      go_enter Try.func13, Try.ntmps13
      go_wp2_with (first | (go_at_call 31; refine (cGs.out _ a _ HB1.out.size HN.out).mono ?_; rintro e w2 ⟨rfl, hb2⟩))
      go_ret2
      exact ⟨rfl, HB1.out.trans (hb2.mono HB1.out.size)⟩
    · have HB1 := HBa W a
      have HN := Lib.hid (hN.keep HB1.out)
      clear hN HBa
      go_enter Try.func14, Try.ntmps14
      go_wp2_with (first | (go_at_call 33; refine (cGi.out _ a _ HB1.out.size HN.out).mono ?_; rintro e w2 ⟨rfl, hb2⟩))
      go_ret2
      exact ⟨rfl, HB1.out.trans (hb2.mono HB1.out.size)⟩
  | true =>
    obtain ⟨⟨ps, hv⟩, h0, h1⟩ := HR.out.1 rfl
    have hsz := hv.size
    obtain ⟨i, rfl⟩ : ∃ i : Nat, x0 = i := ⟨x0.toNat, by omega⟩
    have hin : i < n := by omega
    by_cases hl : t.length = n
    · obtain ⟨_, x, _, hx⟩ := hv.tells.at (show i < t.length by omega)
      have HV := Lib.hid hv
      have HXx := Lib.hid hx
      clear hv hx
      have cUs : Hid (∀ (W : World) (a : Option Addr) (B : Nat), B ≤ W.heap.size → Nds B W a n n t → Calls Try.prog 32 #[.agg #[.slice a n n], .int .i64 (i : Int)] W fun e w' => ∃ a' c', e = .returned (.slice a' (cnt x (wds t ps)) c') ∧ Below W.heap.size W w') := Lib.hid (fun W a B hB hN => l2Under_any B a n i t ps x W hB hN HV.out HXx.out)
      have cBi : Hid (∀ (W : World) (a : Option Addr) (B : Nat), B ≤ W.heap.size → Nds B W a n n t → Calls Try.prog 34 #[.agg #[.slice a n n], .int .i64 (i : Int)] W fun e w' => e = .returned (.int .i64 (cnt x (wds t ps) : Int)) ∧ Below W.heap.size W w') := Lib.hid (fun W a B hB hN => (countBelow_any B a n n i t ps W hB hN HV.out hin).mono fun e w' ⟨b, h1, h2, h3⟩ => by
        rw [h1, cnt_under HV.out h2 HXx.out]
        exact ⟨rfl, h3⟩)
      obtain ⟨q, hq⟩ : ∃ q, cnt x (wds t ps) = q := ⟨_, rfl⟩
      have HQ := Lib.hid hq
      rw [hq] at cUs cBi
      clear hq
      have HL := Lib.hid hl
      refine ⟨(q : Int), true, fun W a hN => ?_, fun W a hN => ?_⟩
      · have HB1 := HBa W a
        have hbx : (W.alloc (.cells #[.slice a n n] 30)).cell? ⟨W.heap.size, 0, none⟩ = some (.slice a n n) := by simp
        have hlt : W.heap.size < (W.alloc (.cells #[.slice a n n] 30)).heap.size := by simp
        have HN := Lib.hid (hN.keep HB1.out)
        clear hN HBa hl
        go_enter Try.func13, Try.ntmps13
        go_wp2_with (first
          | (go_at_call 31; refine (cGs.out _ a _ HB1.out.size HN.out).mono ?_; rintro e w2 ⟨rfl, hb2⟩; have hbx2 := (hb2.cell (p := ⟨W.heap.size, 0, none⟩) hlt).trans hbx; have HB2 := Lib.hid (HB1.out.trans (hb2.mono HB1.out.size)); have N2 := Lib.hid (HN.out.keep (hb2.mono HB1.out.size)))
          | (go_at_call 32; refine (cUs.out _ a _ HB2.out.size N2.out).mono ?_; rintro e w3 ⟨a3, c3, rfl, hb3⟩; have HB3 := Lib.hid (HB2.out.trans (hb3.mono HB2.out.size)); clear hb3))
        go_ret2
        exact ⟨rfl, HB3.out⟩
      · have HB1 := HBa W a
        have hbx : (W.alloc (.cells #[.slice a n n] 30)).cell? ⟨W.heap.size, 0, none⟩ = some (.slice a n n) := by simp
        have hlt : W.heap.size < (W.alloc (.cells #[.slice a n n] 30)).heap.size := by simp
        have HN := Lib.hid (hN.keep HB1.out)
        clear hN HBa hl
        go_enter Try.func14, Try.ntmps14
        go_wp2_with (first
          | (go_at_call 33; refine (cGi.out _ a _ HB1.out.size HN.out).mono ?_; rintro e w2 ⟨rfl, hb2⟩; have hbx2 := (hb2.cell (p := ⟨W.heap.size, 0, none⟩) hlt).trans hbx; have HB2 := Lib.hid (HB1.out.trans (hb2.mono HB1.out.size)); have N2 := Lib.hid (HN.out.keep (hb2.mono HB1.out.size)); clear hb2)
          | (go_at_call 34; refine (cBi.out _ a _ HB2.out.size N2.out).mono ?_; rintro e w3 ⟨rfl, hb3⟩; have HB3 := Lib.hid (HB2.out.trans (hb3.mono HB2.out.size)); clear hb3))
        go_ret2
        exact ⟨rfl, HB3.out⟩
    · exact ⟨0, true, fun W a hN => absurd hN.len hl, fun W a hN => absurd hN.len hl⟩

end Go.Proofs.Ytimengcikjankab
