/-
  Whether a word is there: the reference and the program answer the same.
-/
import Derived.Test.YtimengcikjankaaPlace
import Derived.Test.YtimengcikjankaaWordsOf
import Derived.IntWalk
namespace Go.Proofs.Ytimengcikjankaa
open Go.RowKit
set_option linter.unusedVariables false

theorem gateH (t : List Nd) (x0 : ByteArray) : ∃ (q1 q2 : Bool), trieB t = q1 ∧ okW x0 = q2 := ⟨_, _, rfl, rfl⟩

set_option maxHeartbeats 1000000 in
theorem agreeHasWord (t : List Nd) (n : Nat) (x0 : ByteArray) (hn : n ≤ 1048576) (hx0 : x0.size ≤ 9223372036854775807) : ∃ (v : Bool) (ok : Bool),
    (∀ (W : World) (a : Option Addr), Nds W.heap.size W a n n t → Calls Try.prog 25 #[.agg #[.slice a n n], .string x0] W fun e w' => e = .returned (.tuple #[.bool v, .bool ok]) ∧ Below W.heap.size W w') ∧
    (∀ (W : World) (a : Option Addr), Nds W.heap.size W a n n t → Calls Try.prog 26 #[.agg #[.slice a n n], .string x0] W fun e w' => e = .returned (.tuple #[.bool v, .bool ok]) ∧ Below W.heap.size W w') := by
  have cWs := Lib.hid (fun w => l2Word_any x0 w hx0)
  have cWi := Lib.hid (fun w => implIsWord_any x0 w hx0)
  have cTs : Hid (∀ (W : World) (a : Option Addr) (B : Nat), B ≤ W.heap.size → Nds B W a n n t → Calls Try.prog 42 #[.agg #[.slice a n n]] W fun e w' => e = .returned (.bool (trieB t)) ∧ Below W.heap.size W w') := Lib.hid (fun W a B hB hN => l2Trie_any B a n n t W hB hN hn)
  have cTi : Hid (∀ (W : World) (a : Option Addr) (B : Nat), B ≤ W.heap.size → Nds B W a n n t → Calls Try.prog 45 #[.agg #[.slice a n n]] W fun e w' => e = .returned (.bool (trieB t)) ∧ Below W.heap.size W w') := Lib.hid (fun W a B hB hN => isTrie_any B a n n t W hB hN)
  obtain ⟨q1, q2, h1, h2⟩ := gateH t x0
  have G1 := Lib.hid h1
  have G2 := Lib.hid h2
  rw [h1] at cTs cTi
  rw [h2] at cWs cWi
  clear h1 h2
  have HBa : ∀ (W : World) (a : Option Addr), Hid (Below W.heap.size W (W.alloc (.cells #[.slice a n n] 27))) := fun W a => Lib.hid ((Below.refl _ _).alloc (Nat.le_refl _) _)
  cases q1 with
  | false =>
    refine ⟨false, false, fun W a hN => ?_, fun W a hN => ?_⟩
    · have HB1 := HBa W a
      have HN := Lib.hid (hN.keep HB1.out)
      clear hN HBa
      go_enter Try.func25, Try.ntmps25
      go_wp2_with (first | (go_at_call 42; refine (cTs.out _ a _ HB1.out.size HN.out).mono ?_; rintro e w2 ⟨rfl, hb2⟩))
      go_ret2
      exact ⟨rfl, HB1.out.trans (hb2.mono HB1.out.size)⟩
    · have HB1 := HBa W a
      have HN := Lib.hid (hN.keep HB1.out)
      clear hN HBa
      go_enter Try.func26, Try.ntmps26
      go_wp2_with (first | (go_at_call 45; refine (cTi.out _ a _ HB1.out.size HN.out).mono ?_; rintro e w2 ⟨rfl, hb2⟩))
      go_ret2
      exact ⟨rfl, HB1.out.trans (hb2.mono HB1.out.size)⟩
  | true =>
    cases q2 with
    | false =>
      refine ⟨false, false, fun W a hN => ?_, fun W a hN => ?_⟩
      · have HB1 := HBa W a
        have HN := Lib.hid (hN.keep HB1.out)
        clear hN HBa
        go_enter Try.func25, Try.ntmps25
        go_wp2_with (first
          | (go_at_call 42; refine (cTs.out _ a _ HB1.out.size HN.out).mono ?_; rintro e w2 ⟨rfl, hb2⟩)
          | (go_at_call 31; refine (cWs.out _).mono ?_; rintro e w3 ⟨rfl, rfl⟩))
        go_ret2
        exact ⟨rfl, HB1.out.trans (hb2.mono HB1.out.size)⟩
      · have HB1 := HBa W a
        have HN := Lib.hid (hN.keep HB1.out)
        clear hN HBa
        go_enter Try.func26, Try.ntmps26
        go_wp2_with (first
          | (go_at_call 45; refine (cTi.out _ a _ HB1.out.size HN.out).mono ?_; rintro e w2 ⟨rfl, hb2⟩)
          | (go_at_call 10; refine (cWi.out _).mono ?_; rintro e w3 ⟨rfl, hb3⟩))
        go_ret2
        exact ⟨rfl, (HB1.out.trans (hb2.mono HB1.out.size)).trans (hb3.mono (Nat.le_trans HB1.out.size hb2.size))⟩
    | true =>
      obtain ⟨ps, hv⟩ := trieB_iff.1 G1.out
      have HV := Lib.hid hv
      clear hv
      have ht : IsT t := ⟨ps, HV.out⟩
      have cNs : Hid (∀ (W : World) (a : Option Addr) (B : Nat), B ≤ W.heap.size → Nds B W a n n t → Calls Try.prog 43 #[.agg #[.slice a n n]] W fun e w' => ∃ a' n' c', e = .returned (.slice a' n' c') ∧ Wds w'.heap.size w' a' n' c' (wds t ps) ∧ Below W.heap.size W w') := Lib.hid (fun W a B hB hN => (specWords_read B a n n t W hB hN hn ht).mono fun e w' ⟨a', c', h1, h2, h3⟩ => by rw [wordsOf_eq HV.out] at h1 h2; exact ⟨a', _, c', h1, h2, h3⟩)
      have cNi : Hid (∀ (W : World) (a : Option Addr) (B : Nat), B ≤ W.heap.size → Nds B W a n n t → Calls Try.prog 48 #[.agg #[.slice a n n], .string x0] W (PlacePost ps (tx x0) W)) := Lib.hid (fun W a B hB hN => placeOf_any B a n n t ps x0 W hB hN HV.out G2.out)
      obtain ⟨v, hv⟩ := bool_of (tx x0 ∈ wds t ps)
      have HVO := Lib.hid hv
      have cH : Hid (∀ (W : World) (a : Option Addr) (n' c' : Nat), Wds W.heap.size W a n' c' (wds t ps) → Calls Try.prog 47 #[.slice a n' c', .string x0] W fun e w' => e = .returned (.bool v) ∧ W = w') := Lib.hid (fun W a n' c' hW => by
        have := l2Has_any W.heap.size a n' c' (wds t ps) x0 W (Nat.le_refl _) hW hx0
        have e : decide (tx x0 ∈ wds t ps) = v := by rw [Bool.eq_iff_iff, decide_eq_true_eq, HVO.out]
        rwa [e] at this)
      clear hv ht
      refine ⟨v, true, fun W a hN => ?_, fun W a hN => ?_⟩
      · have HB1 := HBa W a
        have hbx : (W.alloc (.cells #[.slice a n n] 27)).cell? ⟨W.heap.size, 0, none⟩ = some (.slice a n n) := by simp
        have hlt : W.heap.size < (W.alloc (.cells #[.slice a n n] 27)).heap.size := by simp
        have HN := Lib.hid (hN.keep HB1.out)
        clear hN HBa
        go_enter Try.func25, Try.ntmps25
        go_wp2_with (first
          | (go_at_call 42; refine (cTs.out _ a _ HB1.out.size HN.out).mono ?_; rintro e w2 ⟨rfl, hb2⟩; have hbx2 := (hb2.cell (p := ⟨W.heap.size, 0, none⟩) hlt).trans hbx; have HB2 := Lib.hid (HB1.out.trans (hb2.mono HB1.out.size)); have N2 := Lib.hid (HN.out.keep (hb2.mono HB1.out.size)))
          | (go_at_call 31; refine (cWs.out _).mono ?_; rintro e w3 ⟨rfl, rfl⟩)
          | (go_at_call 43; refine (cNs.out _ a _ HB2.out.size N2.out).mono ?_; rintro e w3 ⟨a3, n3, c3, rfl, hW3, hb3⟩; have HW3 := Lib.hid hW3; have HB3 := Lib.hid (HB2.out.trans (hb3.mono HB2.out.size)); clear hW3 hb3)
          | (go_at_call 47; refine (cH.out _ _ _ _ HW3.out).mono ?_; rintro e w4 ⟨rfl, rfl⟩))
        go_ret2
        exact ⟨rfl, HB3.out⟩
      · have HB1 := HBa W a
        have hbx : (W.alloc (.cells #[.slice a n n] 27)).cell? ⟨W.heap.size, 0, none⟩ = some (.slice a n n) := by simp
        have hlt : W.heap.size < (W.alloc (.cells #[.slice a n n] 27)).heap.size := by simp
        have hlen := hN.len
        have HLen := Lib.hid hlen
        have HN := Lib.hid (hN.keep HB1.out)
        clear hN HBa hlen
        go_enter Try.func26, Try.ntmps26
        go_wp2_with (first
          | (go_at_call 45; refine (cTi.out _ a _ HB1.out.size HN.out).mono ?_; rintro e w2 ⟨rfl, hb2⟩; have hbx2 := (hb2.cell (p := ⟨W.heap.size, 0, none⟩) hlt).trans hbx; have hlt2 := Nat.lt_of_lt_of_le hlt hb2.size; have HB2 := Lib.hid (HB1.out.trans (hb2.mono HB1.out.size)); have N2 := Lib.hid (HN.out.keep (hb2.mono HB1.out.size)))
          | (go_at_call 10; refine (cWi.out _).mono ?_; rintro e w3 ⟨rfl, hb3⟩; have hbx3 := (hb3.cell (p := ⟨W.heap.size, 0, none⟩) hlt2).trans hbx2; have hlt3 := Nat.lt_of_lt_of_le hlt2 hb3.size; have HB3 := Lib.hid (HB2.out.trans (hb3.mono HB2.out.size)); have N3 := Lib.hid (N2.out.keep (hb3.mono HB2.out.size)))
          | (go_at_call 48; refine (cNi.out _ a _ HB3.out.size N3.out).mono ?_; rintro e w4 ⟨j2, ok2, rfl, hy, hno, hb4⟩; have HY := Lib.hid hy; have HNo := Lib.hid hno; have HB4 := Lib.hid (HB3.out.trans (hb4.mono HB3.out.size)); have hbx4 := (hb4.cell (p := ⟨W.heap.size, 0, none⟩) hlt3).trans hbx3; have N4 := Lib.hid (N3.out.keep (hb4.mono HB3.out.size)); clear hy hno hb4; cases ok2; rotate_left; (have hj := HY.out (by first | rfl | trivial); have hjn : j2 < n := (by have h1 := (List.getElem?_eq_some_iff.1 hj).1; have h2 := HV.out.lenEq; have h3 := HLen.out; omega); obtain ⟨b, o, l, p, e, rfl, hbB, hd, hl, hp, hc1, hc2, hc3⟩ := N4.out.elem j2 hjn; have HJ := Lib.hid hj; have HD := Lib.hid hd; clear hj hd); rotate_left))
        · have HX : Hid (v = false) := Lib.hid (by
            cases v with
            | false => rfl
            | true =>
              have h1 := HVO.out.1 rfl
              exact absurd ((wds_sub t ps).subset h1) (HNo.out (by first | rfl | trivial)).2)
          go_wp2
          go_ret2
          exact ⟨by rw [HX.out]; rfl, HB4.out⟩
        · have hj := HJ.out
          have hd := HD.out
          have HX : Hid (v = e) := Lib.hid (by
            rw [Bool.eq_iff_iff, HVO.out, mem_wds]
            constructor
            · rintro ⟨i, d, h1, h2, h3⟩
              have := asc_inj HV.out.tells.asc h2 hj
              subst this
              rw [hd] at h1
              rw [← Option.some.inj h1] at h3
              exact h3
            · intro h
              exact ⟨j2, _, hd, hj, h⟩)
          clear hj hd
          go_wp2
          go_ret2
          exact ⟨by rw [HX.out]; rfl, HB4.out⟩

end Go.Proofs.Ytimengcikjankaa
