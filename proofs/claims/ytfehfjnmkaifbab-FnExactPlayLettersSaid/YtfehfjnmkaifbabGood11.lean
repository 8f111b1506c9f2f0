/-
  Games on a trie: the tests of the arguments, the reference's and the program's.
-/
import Derived.Test.YtfehfjnmkaifbabOpen11
import Derived.Test.YtfehfjnmkaifbabGvT
namespace Go.Proofs.Ytfehfjnmkaifbab
open Go.RowKit
set_option linter.unusedVariables false

/-- the prefixes of a valid trie -/
noncomputable def psOf (t : List Nd) : List Txt := @dite _ (IsT t) (Classical.propDecidable _) (fun h => Classical.choose h) (fun _ => [])
theorem psOf_eq {t : List Nd} {ps : List Txt} (h : Valid t ps) : psOf t = ps := by
  have hT : IsT t := ⟨ps, h⟩
  unfold psOf
  rw [dif_pos hT]
  exact valid_uniq (Classical.choose_spec hT) h

/-- the place is one of a node of the trie -/
noncomputable def nodeB (t : List Nd) (n : Nat) (x : Int) : Bool := @decide (IsT t ∧ 0 ≤ x ∧ x < n) (Classical.propDecidable _)
theorem nodeB_iff {t : List Nd} {n : Nat} {x : Int} : nodeB t n x = true ↔ IsT t ∧ 0 ≤ x ∧ x < n := by unfold nodeB; simp

noncomputable def gamB (t : List Nd) (n : Nat) (x m : Int) : Bool := nodeB t n x && decide (1 ≤ m ∧ m ≤ 6)
noncomputable def opoB (t : List Nd) (n : Nat) (x m : Int) : Bool := gamB t n x m && opn t (psOf t) m.toNat x.toNat

theorem gam_yes {t : List Nd} {n : Nat} {x m : Int} (h : gamB t n x m = true) : ∃ (ps : List Txt) (i k : Nat), Valid t ps ∧ psOf t = ps ∧ x = (i : Int) ∧ i < n ∧ m = (k : Int) ∧ 1 ≤ k ∧ k ≤ 6 := by
  unfold gamB at h
  rw [Bool.and_eq_true, nodeB_iff, decide_eq_true_iff] at h
  obtain ⟨⟨⟨ps, hv⟩, h1, h2⟩, h3, h4⟩ := h
  exact ⟨ps, x.toNat, m.toNat, hv, psOf_eq hv, by omega, by omega, by omega, by omega, by omega⟩

set_option maxRecDepth 1000000 in
set_option maxHeartbeats 1000000 in
theorem l11Good_any (t : List Nd) (n c : Nat) (x m : Int) (hn : n ≤ 1048576) (W : World) (a : Option Addr) (hN : Nds W.heap.size W a n c t) :
    Calls Try.prog 30 #[.agg #[.slice a n c], .int .i64 x, .int .i64 m] W fun e w' => e = .returned (.bool (gamB t n x m)) ∧ Below W.heap.size W w' := by
  have G1 := Lib.hid (Gv.start hN)
  have hbx := G1.out.box
  have cX := Lib.hid (cap.l2Good_any t n c x hn _ nodeB_iff _ W.heap.size G1.out.bel.size a G1.out.nds)
  have cI := Lib.hid (fun w => l1In_any m 1 6 w)
  unfold gamB
  obtain ⟨q, hq⟩ : ∃ q, nodeB t n x = q := ⟨_, rfl⟩
  rw [hq] at cX ⊢
  clear hq hN
  cases q with
  | false =>
    go_enter Try.func30, Try.ntmps30
    go_wp2_with (first
      | (go_at_call 69; refine cX.out.mono ?_; rintro e w2 ⟨rfl, hb2⟩))
    go_ret
    exact ⟨rfl, G1.out.bel.trans (hb2.mono G1.out.bel.size)⟩
  | true =>
    go_enter Try.func30, Try.ntmps30
    go_wp2_with (first
      | (go_at_call 69; refine cX.out.mono ?_; rintro e w2 ⟨rfl, hb2⟩)
      | (go_at_call 70; refine (cI.out _).mono ?_; rintro e w3 ⟨rfl, rfl⟩))
    go_ret
    exact ⟨ret_bool (by simp), G1.out.bel.trans (hb2.mono G1.out.bel.size)⟩

set_option maxRecDepth 1000000 in
set_option maxHeartbeats 1000000 in
theorem isGame_any (t : List Nd) (n c : Nat) (x m : Int) (hn : n ≤ 1048576) (W : World) (a : Option Addr) (hN : Nds W.heap.size W a n c t) :
    Calls Try.prog 40 #[.agg #[.slice a n c], .int .i64 x, .int .i64 m] W fun e w' => e = .returned (.bool (gamB t n x m)) ∧ Below W.heap.size W w' := by
  have G1 := Lib.hid (Gv.start hN)
  have hbx := G1.out.box
  have cX := Lib.hid (cap.isNodeOf_any t n c x hn _ nodeB_iff _ W.heap.size G1.out.bel.size a G1.out.nds)
  unfold gamB
  obtain ⟨q, hq⟩ : ∃ q, nodeB t n x = q := ⟨_, rfl⟩
  rw [hq] at cX ⊢
  clear hq hN
  cases q with
  | false =>
    go_enter Try.func40, Try.ntmps40
    go_wp2_with (first
      | (go_at_call 76; refine cX.out.mono ?_; rintro e w2 ⟨rfl, hb2⟩))
    go_ret
    exact ⟨rfl, G1.out.bel.trans (hb2.mono G1.out.bel.size)⟩
  | true =>
    by_cases h1 : 1 ≤ m
    · by_cases h6 : m ≤ 6
      · have e : (true && decide (1 ≤ m ∧ m ≤ 6)) = true := by rw [Bool.true_and, decide_eq_true_iff]; exact ⟨h1, h6⟩
        rw [e]
        clear e
        go_enter Try.func40, Try.ntmps40
        go_wp2_with (first
          | (go_at_call 76; refine cX.out.mono ?_; rintro e w2 ⟨rfl, hb2⟩))
        go_ret
        exact ⟨ret_bool (by simp), G1.out.bel.trans (hb2.mono G1.out.bel.size)⟩
      · have e : (true && decide (1 ≤ m ∧ m ≤ 6)) = false := by rw [Bool.true_and, decide_eq_false_iff_not]; exact fun h => h6 h.2
        rw [e]
        clear e
        go_enter Try.func40, Try.ntmps40
        go_wp2_with (first
          | (go_at_call 76; refine cX.out.mono ?_; rintro e w2 ⟨rfl, hb2⟩))
        go_ret
        exact ⟨ret_bool (by simp; omega), G1.out.bel.trans (hb2.mono G1.out.bel.size)⟩
    · have e : (true && decide (1 ≤ m ∧ m ≤ 6)) = false := by rw [Bool.true_and, decide_eq_false_iff_not]; exact fun h => h1 h.1
      rw [e]
      clear e
      go_enter Try.func40, Try.ntmps40
      go_wp2_with (first
        | (go_at_call 76; refine cX.out.mono ?_; rintro e w2 ⟨rfl, hb2⟩))
      go_ret
      exact ⟨rfl, G1.out.bel.trans (hb2.mono G1.out.bel.size)⟩

/-- whether the node is open: both functions' tests -/
theorem l11Open_at {t : List Nd} {n c : Nat} {x m : Int} (h : gamB t n x m = true) (W V : World) (a : Option Addr) (hG : Gv W V a n c t) :
    Calls Try.prog 31 #[.agg #[.slice a n c], .int .i64 x, .int .i64 m] V fun e w' => e = .returned (.bool (opn t (psOf t) m.toNat x.toNat)) ∧ Below V.heap.size V w' := by
  obtain ⟨ps, i, k, hv, rfl, rfl, hi, rfl, h1, h6⟩ := gam_yes h
  exact l11Open_any W.heap.size a n c i k t _ V (Nat.le_of_lt hG.lt) hG.nds hv hi h1 h6

theorem isOpen_at {t : List Nd} {n c : Nat} {x m : Int} (h : gamB t n x m = true) (W V : World) (a : Option Addr) (hG : Gv W V a n c t) :
    Calls Try.prog 42 #[.agg #[.slice a n c, .int .i64 m], .int .i64 x] V fun e w' => e = .returned (.bool (opn t (psOf t) m.toNat x.toNat)) ∧ Below V.heap.size V w' := by
  obtain ⟨ps, i, k, hv, rfl, rfl, hi, rfl, h1, h6⟩ := gam_yes h
  exact isOpen_any W.heap.size a n c i k t _ V (Nat.le_of_lt hG.lt) hG.nds hv hi h1 h6

set_option maxRecDepth 1000000 in
set_option maxHeartbeats 1000000 in
theorem isOpenOf_any (t : List Nd) (n c : Nat) (x m : Int) (hn : n ≤ 1048576) (W : World) (a : Option Addr) (hN : Nds W.heap.size W a n c t) :
    Calls Try.prog 34 #[.agg #[.slice a n c], .int .i64 x, .int .i64 m] W fun e w' => e = .returned (.bool (opoB t n x m)) ∧ Below W.heap.size W w' := by
  have G1 := Lib.hid (Gv.start hN)
  have hbx := G1.out.box
  have cX := Lib.hid (isGame_any t n c x m hn _ a (G1.out.nds.mono G1.out.bel.size))
  have cO := fun (h : gamB t n x m = true) => Lib.hid (fun V (hG : Gv W V a n c t) => isOpen_at h W V a hG)
  unfold opoB
  obtain ⟨q, hq⟩ : ∃ q, gamB t n x m = q := ⟨_, rfl⟩
  rw [hq] at cX ⊢
  clear hN
  cases q with
  | false =>
    clear cO hq
    go_enter Try.func34, Try.ntmps34
    go_wp2_with (first
      | (go_at_call 40; refine cX.out.mono ?_; rintro e w2 ⟨rfl, hb2⟩))
    go_ret
    exact ⟨rfl, G1.out.bel.trans (hb2.mono G1.out.bel.size)⟩
  | true =>
    have cY := cO hq
    clear cO hq
    obtain ⟨r, hr⟩ : ∃ r, opn t (psOf t) m.toNat x.toNat = r := ⟨_, rfl⟩
    rw [hr] at cY ⊢
    clear hr
    have HX := Lib.hid hbx
    clear hbx
    have hbx := HX.out
    go_enter Try.func34, Try.ntmps34
    go_wp2_with (first
      | (go_at_call 40; refine cX.out.mono ?_; rintro e w2 ⟨rfl, hb2⟩; have G2 := Lib.hid (G1.out.on hb2); have hbx2 := G2.out.box)
      | (go_at_call 42; refine (cY.out _ G2.out).mono ?_; rintro e w3 ⟨rfl, hb3⟩; have G3 := Lib.hid (G2.out.on hb3)))
    go_ret
    exact ⟨ret_bool (by simp), G3.out.bel⟩

end Go.Proofs.Ytfehfjnmkaifbab
