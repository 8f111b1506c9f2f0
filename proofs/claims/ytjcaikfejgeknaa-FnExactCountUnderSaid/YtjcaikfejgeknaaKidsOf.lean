/-
  The kids of a node: both functions answer the same.
-/
import Derived.Test.YtjcaikfejgeknaaIntS
namespace Go.Proofs.Ytjcaikfejgeknaa
open Go.RowKit
set_option linter.unusedVariables false

/-- an answer of numbers that the call owns -/
def OwnNums (w : World) (l : List Nat) (ok : Bool) (e : Ending) (w' : World) : Prop :=
  ∃ v, e = .returned (.tuple #[v, .bool ok]) ∧ w'.ownsRow w.heap.size 3 1 v l.length (nums l) ∧ Below w.heap.size w w'

set_option maxHeartbeats 1000000 in
theorem agreeKidsOf (t : List Nd) (n : Nat) (x0 : Int) (hn : n ≤ 1048576) (hx0 : -9223372036854775808 ≤ x0 ∧ x0 ≤ 9223372036854775807) : ∃ (l : List Nat) (ok : Bool), l.length ≤ 1000 ∧
    (∀ (W : World) (a : Option Addr), Nds W.heap.size W a n n t → Calls Try.prog 36 #[.agg #[.slice a n n], .int .i64 x0] W (OwnNums W l ok)) ∧
    (∀ (W : World) (a : Option Addr), Nds W.heap.size W a n n t → Calls Try.prog 37 #[.agg #[.slice a n n], .int .i64 x0] W (OwnNums W l ok)) := by
  obtain ⟨r, hr⟩ := bool_of (IsT t ∧ 0 ≤ x0 ∧ x0 < n)
  have HR := Lib.hid hr
  have HBa : ∀ (W : World) (a : Option Addr), Hid (Below W.heap.size W (W.alloc (.cells #[.slice a n n] 30))) := fun W a => Lib.hid ((Below.refl _ _).alloc (Nat.le_refl _) _)
  have cGs : Hid (∀ (W : World) (a : Option Addr) (B : Nat), B ≤ W.heap.size → Nds B W a n n t → Calls Try.prog 66 #[.agg #[.slice a n n], .int .i64 x0] W fun e w' => e = .returned (.bool r) ∧ Below W.heap.size W w') := Lib.hid (fun W a B hB hN => l2Good_any t n x0 hn r HR.out W B hB a hN)
  have cGi : Hid (∀ (W : World) (a : Option Addr) (B : Nat), B ≤ W.heap.size → Nds B W a n n t → Calls Try.prog 68 #[.agg #[.slice a n n], .int .i64 x0] W fun e w' => e = .returned (.bool r) ∧ Below W.heap.size W w') := Lib.hid (fun W a B hB hN => isNodeOf_any t n x0 hn r HR.out W B hB a hN)
  clear hr
  cases r with
  | false =>
    refine ⟨[], false, by simp, fun W a hN => ?_, fun W a hN => ?_⟩
    · have HB1 := HBa W a
      have HN := Lib.hid (hN.keep HB1.out)
      clear hN HBa
      go_enter Try.func36, Try.ntmps36
      go_wp2_with (first | (go_at_call 66; refine (cGs.out _ a _ HB1.out.size HN.out).mono ?_; rintro e w2 ⟨rfl, hb2⟩; have HB2 := Lib.hid (HB1.out.trans (hb2.mono HB1.out.size)); clear hb2))
      go_ret2
      exact ⟨_, rfl, World.ownsRow_lit (base := W.heap.size) (e := 3) (size := 1) w2 #[] 0 HB2.out.size (by unfold maxLen; omega) rfl, HB2.out.alloc HB2.out.size _⟩
    · have HB1 := HBa W a
      have HN := Lib.hid (hN.keep HB1.out)
      clear hN HBa
      go_enter Try.func37, Try.ntmps37
      go_wp2_with (first | (go_at_call 68; refine (cGi.out _ a _ HB1.out.size HN.out).mono ?_; rintro e w2 ⟨rfl, hb2⟩))
      go_ret2
      exact ⟨_, rfl, World.ownsRow_nil _ _ _ _, HB1.out.trans (hb2.mono HB1.out.size)⟩
  | true =>
    obtain ⟨⟨ps, hv⟩, h0, h1⟩ := HR.out.1 rfl
    have hsz := hv.size
    have HV := Lib.hid hv.tells
    clear hv
    obtain ⟨i, rfl⟩ : ∃ i : Nat, x0 = i := ⟨x0.toNat, by omega⟩
    have hin : i < n := by omega
    by_cases hl : t.length = n
    · have hn1 : n ≤ 1000 := by omega
      have hlk := kidsTo_le (t := t) (i := i) n
      have cKs : Hid (∀ (W : World) (a : Option Addr) (B : Nat), B ≤ W.heap.size → Nds B W a n n t → Calls Try.prog 69 #[.agg #[.slice a n n], .int .i64 (i : Int)] W fun e w' => ∃ v, e = .returned v ∧ w'.ownsRow W.heap.size 3 1 v (kidsTo t i n).length (nums (kidsTo t i n)) ∧ Below W.heap.size W w') := Lib.hid (fun W a B hB hN => l2Kids_any B a n n i t W hB hN hn1 hin)
      have cKi : Hid (∀ (W : World) (a : Option Addr) (B : Nat), B ≤ W.heap.size → Nds B W a n n t → Calls Try.prog 70 #[.agg #[.slice a n n], .int .i64 (i : Int)] W fun e w' => ∃ v, e = .returned v ∧ w'.ownsRow W.heap.size 3 1 v (kidsTo t i n).length (nums (kidsTo t i n)) ∧ Below W.heap.size W w') := Lib.hid (fun W a B hB hN => kidsAt_any B a n n i t ps W hB hN hn1 HV.out hin)
      refine ⟨kidsTo t i n, true, by omega, fun W a hN => ?_, fun W a hN => ?_⟩
      · have HB1 := HBa W a
        have hbx : (W.alloc (.cells #[.slice a n n] 30)).cell? ⟨W.heap.size, 0, none⟩ = some (.slice a n n) := by simp
        have hlt : W.heap.size < (W.alloc (.cells #[.slice a n n] 30)).heap.size := by simp
        have HN := Lib.hid (hN.keep HB1.out)
        clear hN HBa hl
        go_enter Try.func36, Try.ntmps36
        go_wp2_with (first
          | (go_at_call 66; refine (cGs.out _ a _ HB1.out.size HN.out).mono ?_; rintro e w2 ⟨rfl, hb2⟩; have hbx2 := (hb2.cell (p := ⟨W.heap.size, 0, none⟩) hlt).trans hbx; have HB2 := Lib.hid (HB1.out.trans (hb2.mono HB1.out.size)); have N2 := Lib.hid (HN.out.keep (hb2.mono HB1.out.size)))
          | (go_at_call 69; refine (cKs.out _ a _ HB2.out.size N2.out).mono ?_; rintro e w3 ⟨v3, rfl, hO3, hb3⟩; have HO3 := Lib.hid (own_down hO3 HB2.out.size); have HB3 := Lib.hid (HB2.out.trans (hb3.mono HB2.out.size)); clear hO3 hb3))
        go_ret2
        exact ⟨_, rfl, HO3.out, HB3.out⟩
      · have HB1 := HBa W a
        have hbx : (W.alloc (.cells #[.slice a n n] 30)).cell? ⟨W.heap.size, 0, none⟩ = some (.slice a n n) := by simp
        have hlt : W.heap.size < (W.alloc (.cells #[.slice a n n] 30)).heap.size := by simp
        have HN := Lib.hid (hN.keep HB1.out)
        clear hN HBa hl
        go_enter Try.func37, Try.ntmps37
        go_wp2_with (first
          | (go_at_call 68; refine (cGi.out _ a _ HB1.out.size HN.out).mono ?_; rintro e w2 ⟨rfl, hb2⟩; have hbx2 := (hb2.cell (p := ⟨W.heap.size, 0, none⟩) hlt).trans hbx; have HB2 := Lib.hid (HB1.out.trans (hb2.mono HB1.out.size)); have N2 := Lib.hid (HN.out.keep (hb2.mono HB1.out.size)))
          | (go_at_call 70; refine (cKi.out _ a _ HB2.out.size N2.out).mono ?_; rintro e w3 ⟨v3, rfl, hO3, hb3⟩; have HO3 := Lib.hid (own_down hO3 HB2.out.size); have HB3 := Lib.hid (HB2.out.trans (hb3.mono HB2.out.size)); clear hO3 hb3))
        go_ret2
        exact ⟨_, rfl, HO3.out, HB3.out⟩
    · exact ⟨[], true, by simp, fun W a hN => absurd hN.len hl, fun W a hN => absurd hN.len hl⟩

end Go.Proofs.Ytjcaikfejgeknaa
