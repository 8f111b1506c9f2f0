/-
  A node's place: the reference's test and the program's.
-/
import Derived.Test.YtfehfjnmkaifbabIsTrie
namespace Go.Proofs.Ytfehfjnmkaifbab.cap
open Go.RowKit
set_option linter.unusedVariables false

/-- a node's place -/
theorem l2Good_any (t : List Nd) (n c : Nat) (x0 : Int) (hn : n ≤ 1048576) (r : Bool) (hr : r = true ↔ IsT t ∧ 0 ≤ x0 ∧ x0 < n) (W : World) (B : Nat) (hB : B ≤ W.heap.size) (a : Option Addr) (hN : Nds B W a n c t) :
    Calls Try.prog 69 #[.agg #[.slice a n c], .int .i64 x0] W fun e w' => e = .returned (.bool r) ∧ Below W.heap.size W w' := by
  have HB1 : Hid (Below W.heap.size W (W.alloc (.cells #[.slice a n c] 30))) := Lib.hid ((Below.refl _ _).alloc (Nat.le_refl _) _)
  have hbx : (W.alloc (.cells #[.slice a n c] 30)).cell? ⟨W.heap.size, 0, none⟩ = some (.slice a n c) := by simp
  have hlt : W.heap.size < (W.alloc (.cells #[.slice a n c] 30)).heap.size := by simp
  have HN := Lib.hid (hN.keep (HB1.out.mono hB))
  have HR := Lib.hid hr
  clear hN hr
  have cT := Lib.hid (l2Trie_any B a n c t (W.alloc (.cells #[.slice a n c] 30)) (Nat.le_trans hB HB1.out.size) HN.out hn)
  obtain ⟨q, hq⟩ : ∃ q, trieB t = q := ⟨_, rfl⟩
  have HQ := Lib.hid hq
  rw [hq] at cT
  clear hq
  cases q with
  | false =>
    have HX : Hid (r = false) := Lib.hid (by
      cases r with
      | false => rfl
      | true => exact absurd (HR.out.1 rfl).1 (trieB_not HQ.out))
    go_enter Try.func69, Try.ntmps69
    go_wp2_with (first | (go_at_call 89; refine cT.out.mono ?_; rintro e w2 ⟨rfl, hb2⟩))
    go_ret
    exact ⟨ret_bool HX.out.symm, HB1.out.trans (hb2.mono HB1.out.size)⟩
  | true =>
    have HX : Hid (r = decide (0 ≤ x0 ∧ x0 ≤ (n : Int) - 1)) := Lib.hid (by
      rw [Bool.eq_iff_iff, HR.out, decide_eq_true_eq]
      have := trieB_iff.1 HQ.out
      constructor
      · rintro ⟨_, h1, h2⟩; omega
      · rintro ⟨h1, h2⟩; exact ⟨this, h1, by omega⟩)
    have cI := Lib.hid (fun w => l1In_any x0 0 ((n : Int) - 1) w)
    go_enter Try.func69, Try.ntmps69
    go_wp2_with (first
      | (go_at_call 89; refine cT.out.mono ?_; rintro e w2 ⟨rfl, hb2⟩; have hbx2 := (hb2.cell (p := ⟨W.heap.size, 0, none⟩) hlt).trans hbx)
      | (go_at_call 70; refine (cI.out _).mono ?_; rintro e w3 ⟨rfl, rfl⟩))
    go_ret
    exact ⟨ret_bool (by rw [HX.out]; simp), HB1.out.trans (hb2.mono HB1.out.size)⟩

theorem isNodeOf_any (t : List Nd) (n c : Nat) (x0 : Int) (hn : n ≤ 1048576) (r : Bool) (hr : r = true ↔ IsT t ∧ 0 ≤ x0 ∧ x0 < n) (W : World) (B : Nat) (hB : B ≤ W.heap.size) (a : Option Addr) (hN : Nds B W a n c t) :
    Calls Try.prog 76 #[.agg #[.slice a n c], .int .i64 x0] W fun e w' => e = .returned (.bool r) ∧ Below W.heap.size W w' := by
  have HB1 : Hid (Below W.heap.size W (W.alloc (.cells #[.slice a n c] 30))) := Lib.hid ((Below.refl _ _).alloc (Nat.le_refl _) _)
  have hbx : (W.alloc (.cells #[.slice a n c] 30)).cell? ⟨W.heap.size, 0, none⟩ = some (.slice a n c) := by simp
  have hlt : W.heap.size < (W.alloc (.cells #[.slice a n c] 30)).heap.size := by simp
  have HN := Lib.hid (hN.keep (HB1.out.mono hB))
  have HR := Lib.hid hr
  clear hN hr
  have cT := Lib.hid (isTrie_any B a n c t (W.alloc (.cells #[.slice a n c] 30)) (Nat.le_trans hB HB1.out.size) HN.out)
  obtain ⟨q, hq⟩ : ∃ q, trieB t = q := ⟨_, rfl⟩
  have HQ := Lib.hid hq
  rw [hq] at cT
  clear hq
  cases q with
  | false =>
    have HX : Hid (r = false) := Lib.hid (by
      cases r with
      | false => rfl
      | true => exact absurd (HR.out.1 rfl).1 (trieB_not HQ.out))
    go_enter Try.func76, Try.ntmps76
    go_wp2_with (first | (go_at_call 95; refine cT.out.mono ?_; rintro e w2 ⟨rfl, hb2⟩))
    go_ret
    exact ⟨ret_bool HX.out.symm, HB1.out.trans (hb2.mono HB1.out.size)⟩
  | true =>
    have HX : Hid (r = decide (0 ≤ x0 ∧ x0 < (n : Int))) := Lib.hid (by
      rw [Bool.eq_iff_iff, HR.out, decide_eq_true_eq]
      have := trieB_iff.1 HQ.out
      constructor
      · rintro ⟨_, h1, h2⟩; omega
      · rintro ⟨h1, h2⟩; exact ⟨this, h1, by omega⟩)
    by_cases h0 : 0 ≤ x0
    · go_enter Try.func76, Try.ntmps76
      go_wp2_with (first
        | (go_at_call 95; refine cT.out.mono ?_; rintro e w2 ⟨rfl, hb2⟩; have hbx2 := (hb2.cell (p := ⟨W.heap.size, 0, none⟩) hlt).trans hbx))
      go_ret
      exact ⟨ret_bool (by rw [HX.out]; exact decide_eq_decide.2 (by omega)), HB1.out.trans (hb2.mono HB1.out.size)⟩
    · go_enter Try.func76, Try.ntmps76
      go_wp2_with (first
        | (go_at_call 95; refine cT.out.mono ?_; rintro e w2 ⟨rfl, hb2⟩; have hbx2 := (hb2.cell (p := ⟨W.heap.size, 0, none⟩) hlt).trans hbx))
      go_ret
      exact ⟨ret_bool (by rw [HX.out, decide_eq_false (by omega)]), HB1.out.trans (hb2.mono HB1.out.size)⟩

end Go.Proofs.Ytfehfjnmkaifbab.cap
