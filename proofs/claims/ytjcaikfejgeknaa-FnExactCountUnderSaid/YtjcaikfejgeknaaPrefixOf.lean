/-
  The prefix of a node: the reference and the program answer the same.
-/
import Derived.Test.YtjcaikfejgeknaaPrefixAt
namespace Go.Proofs.Ytjcaikfejgeknaa
open Go.RowKit
set_option linter.unusedVariables false

/-- a node's place -/
theorem l2Good_any (t : List Nd) (n : Nat) (x0 : Int) (hn : n ≤ 1048576) (r : Bool) (hr : r = true ↔ IsT t ∧ 0 ≤ x0 ∧ x0 < n) (W : World) (B : Nat) (hB : B ≤ W.heap.size) (a : Option Addr) (hN : Nds B W a n n t) :
    Calls Try.prog 66 #[.agg #[.slice a n n], .int .i64 x0] W fun e w' => e = .returned (.bool r) ∧ Below W.heap.size W w' := by
  have HB1 : Hid (Below W.heap.size W (W.alloc (.cells #[.slice a n n] 30))) := Lib.hid ((Below.refl _ _).alloc (Nat.le_refl _) _)
  have hbx : (W.alloc (.cells #[.slice a n n] 30)).cell? ⟨W.heap.size, 0, none⟩ = some (.slice a n n) := by simp
  have hlt : W.heap.size < (W.alloc (.cells #[.slice a n n] 30)).heap.size := by simp
  have HN := Lib.hid (hN.keep (HB1.out.mono hB))
  have HR := Lib.hid hr
  clear hN hr
  have cT := Lib.hid (l2Trie_any B a n n t (W.alloc (.cells #[.slice a n n] 30)) (Nat.le_trans hB HB1.out.size) HN.out hn)
  obtain ⟨q, hq⟩ : ∃ q, trieB t = q := ⟨_, rfl⟩
  have HQ := Lib.hid hq
  rw [hq] at cT
  clear hq
  cases q with
  | false =>
    have HX : Hid (r = false) := Lib.hid (by
      cases r with
      | false => rfl
      | true => exact absurd (HR.out.1 rfl).1 (trieB_not HQ.out))
    go_enter Try.func66, Try.ntmps66
    go_wp2_with (first | (go_at_call 51; refine cT.out.mono ?_; rintro e w2 ⟨rfl, hb2⟩))
    go_ret
    exact ⟨ret_bool HX.out.symm, HB1.out.trans (hb2.mono HB1.out.size)⟩
  | true =>
    have HX : Hid (r = decide (0 ≤ x0 ∧ x0 ≤ (n : Int) - 1)) := Lib.hid (by
      rw [Bool.eq_iff_iff, HR.out, decide_eq_true_eq]
      have := trieB_iff.1 HQ.out
      constructor
      · rintro ⟨_, h1, h2⟩; omega
      · rintro ⟨h1, h2⟩; exact ⟨this, h1, by omega⟩)
    have cI := Lib.hid (fun w => l1In_any x0 0 ((n : Int) - 1) w)
    go_enter Try.func66, Try.ntmps66
    go_wp2_with (first
      | (go_at_call 51; refine cT.out.mono ?_; rintro e w2 ⟨rfl, hb2⟩; have hbx2 := (hb2.cell (p := ⟨W.heap.size, 0, none⟩) hlt).trans hbx)
      | (go_at_call 73; refine (cI.out _).mono ?_; rintro e w3 ⟨rfl, rfl⟩))
    go_ret
    exact ⟨ret_bool (by rw [HX.out]; simp), HB1.out.trans (hb2.mono HB1.out.size)⟩

theorem isNodeOf_any (t : List Nd) (n : Nat) (x0 : Int) (hn : n ≤ 1048576) (r : Bool) (hr : r = true ↔ IsT t ∧ 0 ≤ x0 ∧ x0 < n) (W : World) (B : Nat) (hB : B ≤ W.heap.size) (a : Option Addr) (hN : Nds B W a n n t) :
    Calls Try.prog 68 #[.agg #[.slice a n n], .int .i64 x0] W fun e w' => e = .returned (.bool r) ∧ Below W.heap.size W w' := by
  have HB1 : Hid (Below W.heap.size W (W.alloc (.cells #[.slice a n n] 30))) := Lib.hid ((Below.refl _ _).alloc (Nat.le_refl _) _)
  have hbx : (W.alloc (.cells #[.slice a n n] 30)).cell? ⟨W.heap.size, 0, none⟩ = some (.slice a n n) := by simp
  have hlt : W.heap.size < (W.alloc (.cells #[.slice a n n] 30)).heap.size := by simp
  have HN := Lib.hid (hN.keep (HB1.out.mono hB))
  have HR := Lib.hid hr
  clear hN hr
  have cT := Lib.hid (isTrie_any B a n n t (W.alloc (.cells #[.slice a n n] 30)) (Nat.le_trans hB HB1.out.size) HN.out)
  obtain ⟨q, hq⟩ : ∃ q, trieB t = q := ⟨_, rfl⟩
  have HQ := Lib.hid hq
  rw [hq] at cT
  clear hq
  cases q with
  | false =>
    have HX : Hid (r = false) := Lib.hid (by
      cases r with
      | false => rfl
      | true => exact absurd (HR.out.1 rfl).1 (trieB_not HQ.out))
    go_enter Try.func68, Try.ntmps68
    go_wp2_with (first | (go_at_call 20; refine cT.out.mono ?_; rintro e w2 ⟨rfl, hb2⟩))
    go_ret
    exact ⟨ret_bool HX.out.symm, HB1.out.trans (hb2.mono HB1.out.size)⟩
  | true =>
    have HX : Hid (r = decide (0 ≤ x0 ∧ x0 < (n : Int))) := Lib.hid (by
      rw [Bool.eq_iff_iff, HR.out, decide_eq_true_eq]
      have := trieB_iff.1 HQ.out
      constructor
      · rintro ⟨_, h1, h2⟩; omega
      · rintro ⟨h1, h2⟩; exact ⟨this, h1, by omega⟩)
    by_cases h0 : 0 ≤ x0
    · go_enter Try.func68, Try.ntmps68
      go_wp2_with (first
        | (go_at_call 20; refine cT.out.mono ?_; rintro e w2 ⟨rfl, hb2⟩; have hbx2 := (hb2.cell (p := ⟨W.heap.size, 0, none⟩) hlt).trans hbx))
      go_ret
      exact ⟨ret_bool (by rw [HX.out]; exact decide_eq_decide.2 (by omega)), HB1.out.trans (hb2.mono HB1.out.size)⟩
    · go_enter Try.func68, Try.ntmps68
      go_wp2_with (first
        | (go_at_call 20; refine cT.out.mono ?_; rintro e w2 ⟨rfl, hb2⟩; have hbx2 := (hb2.cell (p := ⟨W.heap.size, 0, none⟩) hlt).trans hbx))
      go_ret
      exact ⟨ret_bool (by rw [HX.out, decide_eq_false (by omega)]), HB1.out.trans (hb2.mono HB1.out.size)⟩

theorem agreePrefixOf (t : List Nd) (n : Nat) (x0 : Int) (hn : n ≤ 1048576) (hx0 : -9223372036854775808 ≤ x0 ∧ x0 ≤ 9223372036854775807) : ∃ (v : ByteArray) (ok : Bool),
    (∀ (W : World) (a : Option Addr), Nds W.heap.size W a n n t → Calls Try.prog 34 #[.agg #[.slice a n n], .int .i64 x0] W fun e w' => e = .returned (.tuple #[.string v, .bool ok]) ∧ Below W.heap.size W w') ∧
    (∀ (W : World) (a : Option Addr), Nds W.heap.size W a n n t → Calls Try.prog 35 #[.agg #[.slice a n n], .int .i64 x0] W fun e w' => e = .returned (.tuple #[.string v, .bool ok]) ∧ Below W.heap.size W w') := by
  obtain ⟨r, hr⟩ := bool_of (IsT t ∧ 0 ≤ x0 ∧ x0 < n)
  have HR := Lib.hid hr
  have main : ∀ (v : ByteArray), (r = false → v = ⟨#[]⟩) → (r = true → ∃ (i : Nat) (ps : List Txt), x0 = (i : Int) ∧ i < n ∧ Valid t ps ∧ ps[i]? = some (tx v)) →
    (∀ (W : World) (a : Option Addr), Nds W.heap.size W a n n t → Calls Try.prog 34 #[.agg #[.slice a n n], .int .i64 x0] W fun e w' => e = .returned (.tuple #[.string v, .bool r]) ∧ Below W.heap.size W w') ∧
    (∀ (W : World) (a : Option Addr), Nds W.heap.size W a n n t → Calls Try.prog 35 #[.agg #[.slice a n n], .int .i64 x0] W fun e w' => e = .returned (.tuple #[.string v, .bool r]) ∧ Below W.heap.size W w') := by
    intro v hv0 hv1
    clear hr
    refine ⟨fun W a hN => ?_, fun W a hN => ?_⟩
    all_goals
      have HB1 : Hid (Below W.heap.size W (W.alloc (.cells #[.slice a n n] 30))) := Lib.hid ((Below.refl _ _).alloc (Nat.le_refl _) _)
      have hbx : (W.alloc (.cells #[.slice a n n] 30)).cell? ⟨W.heap.size, 0, none⟩ = some (.slice a n n) := by simp
      have hlt : W.heap.size < (W.alloc (.cells #[.slice a n n] 30)).heap.size := by simp
      have HN := Lib.hid (hN.keep HB1.out)
      clear hN
      obtain ⟨W1, hW1⟩ : ∃ W1, W.alloc (.cells #[.slice a n n] 30) = W1 := ⟨_, rfl⟩
    · have cG := Lib.hid (l2Good_any t n x0 hn r HR.out W1 W.heap.size (by rw [← hW1]; simp) a (by rw [← hW1]; exact HN.out))
      cases r with
      | false =>
        obtain rfl := hv0 rfl
        clear hv0 hv1
        subst hW1
        go_enter Try.func34, Try.ntmps34
        go_wp2_with (first | (go_at_call 66; refine cG.out.mono ?_; rintro e w2 ⟨rfl, hb2⟩))
        go_ret2
        exact ⟨rfl, HB1.out.trans (hb2.mono HB1.out.size)⟩
      | true =>
        obtain ⟨i, ps, rfl, hin, hV, hps⟩ := hv1 rfl
        have HV := Lib.hid hV
        have HPs := Lib.hid hps
        clear hv0 hv1 hV hps
        subst hW1
        go_enter Try.func34, Try.ntmps34
        go_wp2_with (first
          | (go_at_call 66; refine cG.out.mono ?_; rintro e w2 ⟨rfl, hb2⟩; have hbx2 := (hb2.cell (p := ⟨W.heap.size, 0, none⟩) hlt).trans hbx; have HB2 := Lib.hid (HB1.out.trans (hb2.mono HB1.out.size)); have N2 := Lib.hid (HN.out.keep (hb2.mono HB1.out.size)))
          | (go_at_call 67; refine (l2Prefix_any W.heap.size a n n i t _ HB2.out.size N2.out hin).mono ?_; rintro e w3 ⟨s, rfl, _, hp, hb3⟩; have hs := tx_inj (hp ps HV.out.tells HV.out.short _ HPs.out); subst hs))
        go_ret2
        exact ⟨rfl, HB2.out.trans (hb3.mono HB2.out.size)⟩
    · have cG := Lib.hid (isNodeOf_any t n x0 hn r HR.out W1 W.heap.size (by rw [← hW1]; simp) a (by rw [← hW1]; exact HN.out))
      cases r with
      | false =>
        obtain rfl := hv0 rfl
        clear hv0 hv1
        subst hW1
        go_enter Try.func35, Try.ntmps35
        go_wp2_with (first | (go_at_call 68; refine cG.out.mono ?_; rintro e w2 ⟨rfl, hb2⟩))
        go_ret2
        exact ⟨rfl, HB1.out.trans (hb2.mono HB1.out.size)⟩
      | true =>
        obtain ⟨i, ps, rfl, hin, hV, hps⟩ := hv1 rfl
        have HV := Lib.hid hV
        have HPs := Lib.hid hps
        clear hv0 hv1 hV hps
        subst hW1
        go_enter Try.func35, Try.ntmps35
        go_wp2_with (first
          | (go_at_call 68; refine cG.out.mono ?_; rintro e w2 ⟨rfl, hb2⟩; have hbx2 := (hb2.cell (p := ⟨W.heap.size, 0, none⟩) hlt).trans hbx; have HB2 := Lib.hid (HB1.out.trans (hb2.mono HB1.out.size)); have N2 := Lib.hid (HN.out.keep (hb2.mono HB1.out.size)))
          | (go_at_call 59; refine (prefixAt_any W.heap.size a n n i t.length t ps (tx v) _ HB2.out.size N2.out HV.out.tells HPs.out (HV.out.short _ (at_mem HPs.out))).mono ?_; rw [bx_tx]; rintro e w3 ⟨rfl, hb3⟩))
        go_ret2
        exact ⟨rfl, HB2.out.trans (hb3.mono HB2.out.size)⟩
  cases r with
  | false => exact ⟨⟨#[]⟩, false, main _ (fun _ => rfl) (fun h => by cases h)⟩
  | true =>
    obtain ⟨⟨ps, hv⟩, h0, h1⟩ := hr.1 rfl
    by_cases hl : t.length = n
    · obtain ⟨_, x, _, hx⟩ := hv.tells.at (show x0.toNat < t.length by omega)
      exact ⟨bx x, true, main _ (fun h => by cases h) (fun _ => ⟨x0.toNat, ps, by omega, by omega, hv, hx⟩)⟩
    · exact ⟨⟨#[]⟩, true, fun W a hN => absurd hN.len hl, fun W a hN => absurd hN.len hl⟩

end Go.Proofs.Ytjcaikfejgeknaa
