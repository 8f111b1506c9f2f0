/-
  The node of a prefix: the reference and the program answer the same.
-/
import Derived.Test.YtimengcikjankabNodeOf
namespace Go.Proofs.Ytimengcikjankab
open Go.RowKit
set_option linter.unusedVariables false

theorem l1Most_any (x y : Int) (w : World) : Calls Try.prog 25 #[.int .i64 x, .int .i64 y] w fun e w' => e = .returned (.int .i64 (if y < x then x else y)) ∧ w = w' := by
  by_cases h : y < x
  · rw [if_pos h]
    go_enter Try.func25, Try.ntmps25
    go_wp2
    go_ret
    exact ⟨rfl, rfl⟩
  · rw [if_neg h]
    go_enter Try.func25, Try.ntmps25
    go_wp2
    go_ret
    exact ⟨rfl, rfl⟩

theorem ret_two {a b : Int} {p q : Bool} (h : a = b) (k : p = q) : Ending.returned (.tuple #[.int .i64 a, .bool p]) = .returned (.tuple #[.int .i64 b, .bool q]) := by rw [h, k]

/-- both functions' gate: a valid trie and a word -/
theorem gate (t : List Nd) (x0 : ByteArray) : ∃ (q1 q2 : Bool), trieB t = q1 ∧ okW x0 = q2 := ⟨_, _, rfl, rfl⟩

set_option maxHeartbeats 1000000 in
theorem agreeNodeOf (t : List Nd) (n : Nat) (x0 : ByteArray) (hn : n ≤ 1048576) (hx0 : x0.size ≤ 9223372036854775807) : ∃ (v : Int) (ok : Bool),
    (∀ (W : World) (a : Option Addr), Nds W.heap.size W a n n t → Calls Try.prog 9 #[.agg #[.slice a n n], .string x0] W fun e w' => e = .returned (.tuple #[.int .i64 v, .bool ok]) ∧ Below W.heap.size W w') ∧
    (∀ (W : World) (a : Option Addr), Nds W.heap.size W a n n t → Calls Try.prog 11 #[.agg #[.slice a n n], .string x0] W fun e w' => e = .returned (.tuple #[.int .i64 v, .bool ok]) ∧ Below W.heap.size W w') := by
  have cWs := Lib.hid (fun w => l2Word_any x0 w hx0)
  have cWi := Lib.hid (fun w => implIsWord_any x0 w hx0)
  have cTs : Hid (∀ (W : World) (a : Option Addr) (B : Nat), B ≤ W.heap.size → Nds B W a n n t → Calls Try.prog 22 #[.agg #[.slice a n n]] W fun e w' => e = .returned (.bool (trieB t)) ∧ Below W.heap.size W w') := Lib.hid (fun W a B hB hN => l2Trie_any B a n n t W hB hN hn)
  have cTi : Hid (∀ (W : World) (a : Option Addr) (B : Nat), B ≤ W.heap.size → Nds B W a n n t → Calls Try.prog 27 #[.agg #[.slice a n n]] W fun e w' => e = .returned (.bool (trieB t)) ∧ Below W.heap.size W w') := Lib.hid (fun W a B hB hN => isTrie_any B a n n t W hB hN)
  obtain ⟨q1, q2, h1, h2⟩ := gate t x0
  have G1 := Lib.hid h1
  have G2 := Lib.hid h2
  rw [h1] at cTs cTi
  rw [h2] at cWs cWi
  clear h1 h2
  have HBa : ∀ (W : World) (a : Option Addr), Hid (Below W.heap.size W (W.alloc (.cells #[.slice a n n] 30))) := fun W a => Lib.hid ((Below.refl _ _).alloc (Nat.le_refl _) _)
  cases q1 with
  | false =>
    refine ⟨0, false, fun W a hN => ?_, fun W a hN => ?_⟩
    · have HB1 := HBa W a
      have HN := Lib.hid (hN.keep HB1.out)
      clear hN HBa
      go_enter Try.func9, Try.ntmps9
      go_wp2_with (first | (go_at_call 22; refine (cTs.out _ a _ HB1.out.size HN.out).mono ?_; rintro e w2 ⟨rfl, hb2⟩))
      go_ret2
      exact ⟨rfl, HB1.out.trans (hb2.mono HB1.out.size)⟩
    · have HB1 := HBa W a
      have HN := Lib.hid (hN.keep HB1.out)
      clear hN HBa
      go_enter Try.func11, Try.ntmps11
      go_wp2_with (first | (go_at_call 27; refine (cTi.out _ a _ HB1.out.size HN.out).mono ?_; rintro e w2 ⟨rfl, hb2⟩))
      go_ret2
      exact ⟨rfl, HB1.out.trans (hb2.mono HB1.out.size)⟩
  | true =>
    cases q2 with
    | false =>
      refine ⟨0, false, fun W a hN => ?_, fun W a hN => ?_⟩
      · have HB1 := HBa W a
        have HN := Lib.hid (hN.keep HB1.out)
        clear hN HBa
        go_enter Try.func9, Try.ntmps9
        go_wp2_with (first
          | (go_at_call 22; refine (cTs.out _ a _ HB1.out.size HN.out).mono ?_; rintro e w2 ⟨rfl, hb2⟩)
          | (go_at_call 23; refine (cWs.out _).mono ?_; rintro e w3 ⟨rfl, rfl⟩))
        go_ret2
        exact ⟨rfl, HB1.out.trans (hb2.mono HB1.out.size)⟩
      · have HB1 := HBa W a
        have HN := Lib.hid (hN.keep HB1.out)
        clear hN HBa
        go_enter Try.func11, Try.ntmps11
        go_wp2_with (first
          | (go_at_call 27; refine (cTi.out _ a _ HB1.out.size HN.out).mono ?_; rintro e w2 ⟨rfl, hb2⟩)
          | (go_at_call 28; refine (cWi.out _).mono ?_; rintro e w3 ⟨rfl, hb3⟩))
        go_ret2
        exact ⟨rfl, (HB1.out.trans (hb2.mono HB1.out.size)).trans (hb3.mono (Nat.le_trans HB1.out.size hb2.size))⟩
    | true =>
      obtain ⟨ps, hv⟩ := trieB_iff.1 G1.out
      have HV := Lib.hid hv
      clear hv
      have cNs : Hid (∀ (W : World) (a : Option Addr) (B : Nat), B ≤ W.heap.size → Nds B W a n n t → Calls Try.prog 24 #[.agg #[.slice a n n], .string x0] W (NodeNum ps (tx x0) W)) := Lib.hid (fun W a B hB hN => l2Node_any B a n n t ps x0 W hB hN HV.out G2.out)
      have cNi : Hid (∀ (W : World) (a : Option Addr) (B : Nat), B ≤ W.heap.size → Nds B W a n n t → Calls Try.prog 29 #[.agg #[.slice a n n], .string x0] W (PlacePost ps (tx x0) W)) := Lib.hid (fun W a B hB hN => placeOf_any B a n n t ps x0 W hB hN HV.out G2.out)
      have hval : ∃ (v : Int) (ok : Bool), (ok = true ∧ ∃ j : Nat, v = (j : Int) ∧ ps[j]? = some (tx x0)) ∨ (ok = false ∧ v = 0 ∧ tx x0 ∉ ps) := by
        by_cases hm : tx x0 ∈ ps
        · obtain ⟨j, hj⟩ := mem_at hm
          exact ⟨(j : Int), true, .inl ⟨rfl, j, rfl, hj⟩⟩
        · exact ⟨0, false, .inr ⟨rfl, rfl, hm⟩⟩
      obtain ⟨v, ok, hvo⟩ := hval
      have HVO := Lib.hid hvo
      clear hvo
      refine ⟨v, ok, fun W a hN => ?_, fun W a hN => ?_⟩
      · have HB1 := HBa W a
        have hbx : (W.alloc (.cells #[.slice a n n] 30)).cell? ⟨W.heap.size, 0, none⟩ = some (.slice a n n) := by simp
        have hlt : W.heap.size < (W.alloc (.cells #[.slice a n n] 30)).heap.size := by simp
        have HN := Lib.hid (hN.keep HB1.out)
        clear hN HBa
        go_enter Try.func9, Try.ntmps9
        go_wp2_with (first
          | (go_at_call 22; refine (cTs.out _ a _ HB1.out.size HN.out).mono ?_; rintro e w2 ⟨rfl, hb2⟩; have hbx2 := (hb2.cell (p := ⟨W.heap.size, 0, none⟩) hlt).trans hbx; have HB2 := Lib.hid (HB1.out.trans (hb2.mono HB1.out.size)); have N2 := Lib.hid (HN.out.keep (hb2.mono HB1.out.size)))
          | (go_at_call 23; refine (cWs.out _).mono ?_; rintro e w3 ⟨rfl, rfl⟩)
          | (go_at_call 24; refine (cNs.out _ a _ HB2.out.size N2.out).mono ?_; rintro e w3 ⟨r, rfl, hr, hb3⟩; have HRr := Lib.hid hr; have HB3 := Lib.hid (HB2.out.trans (hb3.mono HB2.out.size)); clear hr hb3)
          | (go_at_call 25; refine (l1Most_any _ _ _).mono ?_; rintro e w4 ⟨rfl, rfl⟩))
        all_goals
          go_ret2
          refine ⟨ret_two ?_ ?_, HB3.out⟩
          · rcases HVO.out with ⟨_, j, rfl, hj⟩ | ⟨_, rfl, hm⟩
            · rcases HRr.out with ⟨_, h⟩ | ⟨j2, rfl, hj2⟩
              · exact absurd (at_mem hj) h
              · have := asc_inj HV.out.tells.asc hj hj2
                omega
            · rcases HRr.out with ⟨rfl, h⟩ | ⟨j2, rfl, hj2⟩
              · omega
              · exact absurd (at_mem hj2) hm
          · rcases HVO.out with ⟨rfl, j, rfl, hj⟩ | ⟨rfl, rfl, hm⟩
            · rcases HRr.out with ⟨_, h⟩ | ⟨j2, rfl, hj2⟩
              · exact absurd (at_mem hj) h
              · simp
            · rcases HRr.out with ⟨rfl, h⟩ | ⟨j2, rfl, hj2⟩
              · rfl
              · exact absurd (at_mem hj2) hm
      · have HB1 := HBa W a
        have hbx : (W.alloc (.cells #[.slice a n n] 30)).cell? ⟨W.heap.size, 0, none⟩ = some (.slice a n n) := by simp
        have hlt : W.heap.size < (W.alloc (.cells #[.slice a n n] 30)).heap.size := by simp
        have HN := Lib.hid (hN.keep HB1.out)
        clear hN HBa
        go_enter Try.func11, Try.ntmps11
        go_wp2_with (first
          | (go_at_call 27; refine (cTi.out _ a _ HB1.out.size HN.out).mono ?_; rintro e w2 ⟨rfl, hb2⟩; have hbx2 := (hb2.cell (p := ⟨W.heap.size, 0, none⟩) hlt).trans hbx; have hlt2 := Nat.lt_of_lt_of_le hlt hb2.size; have HB2 := Lib.hid (HB1.out.trans (hb2.mono HB1.out.size)); have N2 := Lib.hid (HN.out.keep (hb2.mono HB1.out.size)))
          | (go_at_call 28; refine (cWi.out _).mono ?_; rintro e w3 ⟨rfl, hb3⟩; have hbx3 := (hb3.cell (p := ⟨W.heap.size, 0, none⟩) hlt2).trans hbx2; have HB3 := Lib.hid (HB2.out.trans (hb3.mono HB2.out.size)); have N3 := Lib.hid (N2.out.keep (hb3.mono HB2.out.size)))
          | (go_at_call 29; refine (cNi.out _ a _ HB3.out.size N3.out).mono ?_; rintro e w4 ⟨j2, ok2, rfl, hy, hno, hb4⟩; have HY := Lib.hid hy; have HNo := Lib.hid hno; have HB4 := Lib.hid (HB3.out.trans (hb4.mono HB3.out.size)); clear hy hno hb4))
        go_ret2
        refine ⟨ret_two ?_ ?_, HB4.out⟩
        · rcases HVO.out with ⟨_, j, rfl, hj⟩ | ⟨_, rfl, hm⟩
          · cases ok2 with
            | true => have := asc_inj HV.out.tells.asc hj (HY.out rfl); omega
            | false => exact absurd (at_mem hj) (HNo.out rfl).2
          · cases ok2 with
            | true => exact absurd (at_mem (HY.out rfl)) hm
            | false => have := (HNo.out rfl).1; omega
        · rcases HVO.out with ⟨rfl, j, rfl, hj⟩ | ⟨rfl, rfl, hm⟩
          · cases ok2 with
            | true => rfl
            | false => exact absurd (at_mem hj) (HNo.out rfl).2
          · cases ok2 with
            | true => exact absurd (at_mem (HY.out rfl)) hm
            | false => rfl

end Go.Proofs.Ytimengcikjankab
