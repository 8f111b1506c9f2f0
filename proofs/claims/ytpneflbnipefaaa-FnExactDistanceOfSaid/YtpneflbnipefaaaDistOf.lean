/-
  DistanceOf of two texts: the reference and the program answer the same.
-/
import Derived.Test.YtpneflbnipefaaaDist2
import Derived.Test.YtpneflbnipefaaaDistS
import Derived.Test.YtpneflbnipefaaaAreW
namespace Go.Proofs.Ytpneflbnipefaaa
open Go.RowKit
set_option linter.unusedVariables false

set_option maxRecDepth 1000000 in
set_option maxHeartbeats 1000000 in
theorem agreeDistanceOf (a b : ByteArray) (ha : a.size ≤ 1048576) (hb : b.size ≤ 1048576) : ∃ (v : Int) (ok : Bool),
    (∀ W : World, Calls Try.prog 15 #[.string a, .string b] W fun e w' => e = .returned (.tuple #[.int .i64 v, .bool ok]) ∧ Below W.heap.size W w') ∧
    (∀ W : World, Calls Try.prog 16 #[.string a, .string b] W fun e w' => e = .returned (.tuple #[.int .i64 v, .bool ok]) ∧ Below W.heap.size W w') := by
  have cA := Lib.hid (fun W => areWords_any a b W (by omega) (by omega))
  have c1 := Lib.hid (fun W => l2Word_any a W (by omega))
  have c2 := Lib.hid (fun W => l2Word_any b W (by omega))
  cases hwa : okW a
  · rw [hwa] at cA c1
    simp only [Bool.false_and] at cA
    refine ⟨0, false, fun W => ?_, fun W => ?_⟩
    · go_enter Try.func15, Try.ntmps15
      go_wp2_with fail
      refine (c1.out _).mono ?_
      rintro e w1 ⟨rfl, rfl⟩
      go_wp2_with fail
      go_ret2
      exact ⟨rfl, Below.refl _ _⟩
    · go_enter Try.func16, Try.ntmps16
      go_wp2_with fail
      refine (cA.out _).mono ?_
      rintro e w1 ⟨rfl, hb1⟩
      have H1 := Lib.hid hb1
      clear hb1
      go_wp2_with fail
      go_ret2
      exact ⟨rfl, H1.out⟩
  cases hwb : okW b
  · rw [hwa, hwb] at cA
    rw [hwa] at c1
    rw [hwb] at c2
    simp only [Bool.true_and] at cA
    refine ⟨0, false, fun W => ?_, fun W => ?_⟩
    · go_enter Try.func15, Try.ntmps15
      go_wp2_with fail
      refine (c1.out _).mono ?_
      rintro e w1 ⟨rfl, rfl⟩
      go_wp2_with fail
      refine (c2.out _).mono ?_
      rintro e w1 ⟨rfl, rfl⟩
      go_wp2_with fail
      go_ret2
      exact ⟨rfl, Below.refl _ _⟩
    · go_enter Try.func16, Try.ntmps16
      go_wp2_with fail
      refine (cA.out _).mono ?_
      rintro e w1 ⟨rfl, hb1⟩
      have H1 := Lib.hid hb1
      clear hb1
      go_wp2_with fail
      go_ret2
      exact ⟨rfl, H1.out⟩
  have h12a := okW_size hwa
  have h12b := okW_size hwb
  have hla : ∀ k (h : k < a.size), (a[k]'h).toNat < 128 := fun k h => by have := okW_low_at hwa h; omega
  have hlb : ∀ k (h : k < b.size), (b[k]'h).toNat < 128 := fun k h => by have := okW_low_at hwb h; omega
  rw [hwa, hwb] at cA
  rw [hwa] at c1
  rw [hwb] at c2
  simp only [Bool.true_and] at cA
  have cS := Lib.hid (fun W => l6Distance_any a b W h12a h12b)
  have cI := Lib.hid (fun W => distance_any a b W h12a h12b hla hlb)
  obtain ⟨v, hv⟩ : ∃ v, ((lev a.data.toList b.data.toList a.size b.size : Nat) : Int) = v := ⟨_, rfl⟩
  rw [hv] at cS cI
  clear hv hla hlb
  refine ⟨v, true, fun W => ?_, fun W => ?_⟩
  · go_enter Try.func15, Try.ntmps15
    go_wp2_with fail
    refine (c1.out _).mono ?_
    rintro e w1 ⟨rfl, rfl⟩
    go_wp2_with fail
    refine (c2.out _).mono ?_
    rintro e w1 ⟨rfl, rfl⟩
    go_wp2_with fail
    refine (cS.out _).mono ?_
    rintro e w2 ⟨rfl, hb2⟩
    have H2 := Lib.hid hb2
    clear hb2
    go_wp2_with fail
    go_ret2
    exact ⟨rfl, H2.out⟩
  · go_enter Try.func16, Try.ntmps16
    go_wp2_with fail
    refine (cA.out _).mono ?_
    rintro e w1 ⟨rfl, hb1⟩
    have H1 := Lib.hid hb1
    clear hb1
    go_wp2_with fail
    refine (cI.out _).mono ?_
    rintro e w2 ⟨rfl, hb2⟩
    have H2 := Lib.hid (H1.out.trans (hb2.mono H1.out.size))
    clear hb2
    go_wp2_with fail
    go_ret2
    exact ⟨rfl, H2.out⟩

end Go.Proofs.Ytpneflbnipefaaa
