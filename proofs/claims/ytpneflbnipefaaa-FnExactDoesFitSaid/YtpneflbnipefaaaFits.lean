/-
  Whether a pattern fits a word: both functions.
-/
import Derived.Test.YtpneflbnipefaaaFitsS
import Derived.Test.YtpneflbnipefaaaFitsI
import Derived.Test.YtpneflbnipefaaaPat
namespace Go.Proofs.Ytpneflbnipefaaa
open Go.RowKit
set_option linter.unusedVariables false

theorem sg_lt {p : ByteArray} (h : okG p = true) : ∀ k (hk : k < p.size), (p[k]'hk).toNat < 128 := fun k hk => by have := okG_sg h hk; unfold Sg at this; omega
theorem low_lt {s : ByteArray} (h : okW s = true) : ∀ k (hk : k < s.size), (s[k]'hk).toNat < 128 ∧ (s[k]'hk).toNat ≠ 63 := fun k hk => by have := okW_low_at h hk; omega

set_option maxRecDepth 1000000 in
set_option maxHeartbeats 1000000 in
theorem agreeDoesFit (p s : ByteArray) (hp : p.size ≤ 1048576) (hs : s.size ≤ 1048576) : ∃ (v ok : Bool),
    (∀ W : World, Calls Try.prog 11 #[.string p, .string s] W fun e w' => e = .returned (.tuple #[.bool v, .bool ok]) ∧ Below W.heap.size W w') ∧
    (∀ W : World, Calls Try.prog 12 #[.string p, .string s] W fun e w' => e = .returned (.tuple #[.bool v, .bool ok]) ∧ Below W.heap.size W w') := by
  have s1 := Lib.hid (fun W => l6Pattern_any p W (by omega))
  have s2 := Lib.hid (fun W => l2Word_any s W (by omega))
  have i1 := Lib.hid (fun W => implIsPattern_any p W (by omega))
  have i2 := Lib.hid (fun W => implIsWord_any s W (by omega))
  cases hg : okG p with
  | false =>
    rw [hg] at s1 i1
    refine ⟨false, false, fun W => ?_, fun W => ?_⟩
    · go_enter Try.func11, Try.ntmps11
      go_wp2_with fail
      refine (s1.out _).mono ?_
      rintro e w1 ⟨rfl, rfl⟩
      go_wp2_with fail
      go_ret2
      exact ⟨rfl, Below.refl _ _⟩
    · go_enter Try.func12, Try.ntmps12
      go_wp2_with fail
      refine (i1.out _).mono ?_
      rintro e w1 ⟨rfl, hb1⟩
      have H1 := Lib.hid hb1
      clear hb1
      go_wp2_with fail
      go_ret2
      exact ⟨rfl, H1.out⟩
  | true =>
    cases hw : okW s with
    | false =>
      rw [hg] at s1 i1
      rw [hw] at s2 i2
      refine ⟨false, false, fun W => ?_, fun W => ?_⟩
      · go_enter Try.func11, Try.ntmps11
        go_wp2_with fail
        refine (s1.out _).mono ?_
        rintro e w1 ⟨rfl, rfl⟩
        go_wp2_with fail
        refine (s2.out _).mono ?_
        rintro e w1 ⟨rfl, rfl⟩
        go_wp2_with fail
        go_ret2
        exact ⟨rfl, Below.refl _ _⟩
      · go_enter Try.func12, Try.ntmps12
        go_wp2_with fail
        refine (i1.out _).mono ?_
        rintro e w1 ⟨rfl, hb1⟩
        have H1 := Lib.hid hb1
        clear hb1
        go_wp2_with fail
        refine (i2.out _).mono ?_
        rintro e w2 ⟨rfl, hb2⟩
        have H2 := Lib.hid (H1.out.trans (hb2.mono H1.out.size))
        clear hb2
        go_wp2_with fail
        go_ret2
        exact ⟨rfl, H2.out⟩
    | true =>
      have cS := Lib.hid (fun W => l6Fits_any p s W (okG_size hg) (okW_size hw))
      have cI := Lib.hid (fun W => fits_any p s W (okG_size hg) (okW_size hw) (sg_lt hg) (low_lt hw))
      rw [hg] at s1 i1
      rw [hw] at s2 i2
      obtain ⟨v, hv⟩ : ∃ v, fit p.data.toList s.data.toList p.size s.size = v := ⟨_, rfl⟩
      rw [hv] at cS cI
      clear hv hg hw
      refine ⟨v, true, fun W => ?_, fun W => ?_⟩
      · go_enter Try.func11, Try.ntmps11
        go_wp2_with fail
        refine (s1.out _).mono ?_
        rintro e w1 ⟨rfl, rfl⟩
        go_wp2_with fail
        refine (s2.out _).mono ?_
        rintro e w1 ⟨rfl, rfl⟩
        go_wp2_with fail
        refine (cS.out _).mono ?_
        rintro e w3 ⟨rfl, hb3⟩
        have H3 := Lib.hid hb3
        clear hb3
        go_wp2_with fail
        go_ret2
        exact ⟨rfl, H3.out⟩
      · go_enter Try.func12, Try.ntmps12
        go_wp2_with fail
        refine (i1.out _).mono ?_
        rintro e w1 ⟨rfl, hb1⟩
        have H1 := Lib.hid hb1
        clear hb1
        go_wp2_with fail
        refine (i2.out _).mono ?_
        rintro e w2 ⟨rfl, hb2⟩
        have H2 := Lib.hid (H1.out.trans (hb2.mono H1.out.size))
        clear hb2
        go_wp2_with fail
        refine (cI.out _).mono ?_
        rintro e w3 ⟨rfl, hb3⟩
        have H3 := Lib.hid (H2.out.trans (hb3.mono H2.out.size))
        clear hb3
        go_wp2_with fail
        go_ret2
        exact ⟨rfl, H3.out⟩

end Go.Proofs.Ytpneflbnipefaaa
