/-
  The walk of the law FnExactJoinStrings: both functions answer the same; nothing that was there is written.
-/
import Derived.Test.YtlkajncgbnkkgaaStrsWalks
import Derived.Test.YtlkajncgbnkkgaaJoinImplWalk
namespace Go.Proofs.Ytlkajncgbnkkgaa.fnExactJoinStrings
open Go.RowKit
set_option linter.unusedVariables false

theorem le_sum : ∀ (zs : List ByteArray) (s : ByteArray), s ∈ zs → s.size ≤ (zs.map (·.size)).sum
  | [], s, h => by simp at h
  | z :: r, s, h => by
    rcases List.mem_cons.1 h with rfl | h
    · simp
    · have := le_sum r s h
      simp
      omega

set_option maxHeartbeats 1000000 in
theorem walk (a0 : Option Addr) (n c : Nat) (z0 : List ByteArray) (sep : ByteArray) (w : World) (w0 : IsStrs w a0 n c z0) (w1 : sep.size ≤ maxLen) :
    Calls Try.prog 5 #[.slice a0 n c, .string sep] w fun e w' => e = .returned (.bool true) ∧ Below w.heap.size w w' := by
  obtain ⟨zs, hz⟩ : ∃ zs, zs = z0.take n := ⟨_, rfl⟩
  have S0 := Lib.hid (show Strs w.heap.size w a0 n c zs from hz ▸ w0.strs)
  have hsep : sep.size ≤ 9223372036854775807 := by unfold maxLen at w1; omega
  clear hz w0 w1
  by_cases hb : 1048576 < sep.size
  · go_enter Try.func5, Try.ntmps5
    go_wp2_with fail
    go_ret
    exact ⟨rfl, Below.refl _ _⟩
  · obtain ⟨q, hq⟩ : ∃ q, sz zs 1048576 = q := ⟨_, rfl⟩
    have cSz := szStringS_any w.heap.size a0 n c zs 1048576 w (Nat.le_refl _) S0.out (by omega) (by omega)
    rw [hq] at cSz
    have CSZ := Lib.hid cSz
    have HQ := Lib.hid hq
    clear cSz hq
    by_cases hl : q < 0
    · go_enter Try.func5, Try.ntmps5
      go_wp2_with (go_at_call 19; refine CSZ.out.mono ?_; rintro e w' ⟨rfl, rfl⟩)
      go_ret
      exact ⟨rfl, Below.refl _ _⟩
    · have hsum := sz_sum zs 1048576 (by rw [HQ.out]; omega)
      have hlen := S0.out.len
      have hN : n + (zs.map (·.size)).sum ≤ 1048576 := by unfold bytesOf at hsum; omega
      have HN := Lib.hid hN
      have hn : n ≤ 1048576 := by omega
      have HE : Hid (∀ s ∈ zs, s.size ≤ 1048576) := Lib.hid (fun s hs => by have := le_sum zs s hs; omega)
      clear hsum hlen hN
      go_enter Try.func5, Try.ntmps5
      go_wp2_with (go_at_call 19; refine CSZ.out.mono ?_; rintro e w' ⟨rfl, rfl⟩)
      -- the first copy, for the model
      refine (toStringS_any w.heap.size a0 n c zs w (Nat.le_refl _) S0.out hn).mono ?_
      rintro e w1 ⟨rfl, st1, hs1, hb1⟩
      have ST1 := Lib.hid st1
      clear st1
      go_wp2_with fail
      refine (spec_join_any (w.heap.size + 1) _ n n zs sep w1 (by omega) ST1.out HE.out hsep).mono ?_
      rintro e w2 ⟨rfl, hb2⟩
      have hb02 := hb1.trans (hb2.mono hb1.size)
      go_wp2_with fail
      refine (toStringS_any w.heap.size a0 n c zs w2 hb02.size (S0.out.keep hb02) hn).mono ?_
      rintro e w3 ⟨rfl, st3, hs3, hb3⟩
      have hb03 := hb02.trans (hb3.mono hb02.size)
      have ST3 := Lib.hid (st3.mono (show w2.heap.size + 1 ≤ w3.heap.size from hs3))
      clear st3
      go_wp2_with fail
      refine (impl_join_any _ n n zs sep w3 ST3.out HN.out hsep).mono ?_
      rintro e w4 ⟨rfl, hb4⟩
      have hb04 := hb03.trans (hb4.mono hb03.size)
      go_wp2_with fail
      refine (toStringS_any w.heap.size a0 n c zs w4 hb04.size (S0.out.keep hb04) hn).mono ?_
      rintro e w5 ⟨rfl, st5, hs5, hb5⟩
      have hb05 := hb04.trans (hb5.mono hb04.size)
      have ST5 := Lib.hid (st5.mono (show w4.heap.size + 1 ≤ w5.heap.size from hs5))
      clear st5
      go_wp2_with fail
      refine (eqStringS_any w5.heap.size _ _ n n n n zs zs w5 (Nat.le_refl _) (((ST3.out.keep hb4).keep (hb5.mono hb4.size)).mono (by have := hb4.size; have := hb5.size; omega)) ST5.out).mono ?_
      rintro e w6 ⟨rfl, hb6⟩
      have hb06 := hb05.trans (hb6.mono hb05.size)
      have hdec : decide (zs = zs) = true := decide_eq_true rfl
      go_wp2_with fail
      go_ret
      exact ⟨rfl, hb06⟩

end Go.Proofs.Ytlkajncgbnkkgaa.fnExactJoinStrings
