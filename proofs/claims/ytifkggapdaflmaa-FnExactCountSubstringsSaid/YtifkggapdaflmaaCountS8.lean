/-
  CountSubstrings: both functions answer the same.
-/
import Derived.Test.YtifkggapdaflmaaSubs8
namespace Go.Proofs.Ytifkggapdaflmaa
open Go.RowKit
set_option linter.unusedVariables false

set_option maxRecDepth 1000000 in
set_option maxHeartbeats 1000000 in
theorem agreeCountSubstrings (s : ByteArray) (hs : s.size ≤ 1048576) : ∃ (v : Int) (ok : Bool),
    (∀ W : World, Calls Try.prog 17 #[.string s] W fun e w' => e = .returned (.tuple #[.int .i64 v, .bool ok]) ∧ Below W.heap.size W w') ∧
    (∀ W : World, Calls Try.prog 18 #[.string s] W fun e w' => e = .returned (.tuple #[.int .i64 v, .bool ok]) ∧ Below W.heap.size W w') := by
  refine ⟨((if okT s = true then prt (tx s) else []).length : Nat), okT s, fun W => ?_, fun W => ?_⟩
  · have cT := Lib.hid (fun W => l8Text_any s W (by omega))
    cases ht : okT s with
    | true =>
      have h16 := okT_size ht
      rw [ht] at cT
      rw [if_pos rfl]
      have cP := Lib.hid (fun W => l8Parts_any s W h16)
      obtain ⟨ps, hps⟩ : ∃ ps, prt (tx s) = ps := ⟨_, rfl⟩
      rw [hps] at cP ⊢
      clear ht hps
      go_enter Try.func17, Try.ntmps17
      go_wp2_with fail
      refine (cT.out _).mono ?_
      rintro e w1 ⟨rfl, rfl⟩
      go_wp2_with fail
      refine (cP.out _).mono ?_
      rintro e w2 ⟨a, n, c, rfl, hW, hb2⟩
      obtain rfl := hW.len
      have HB2 := Lib.hid hb2
      clear hW hb2
      go_wp2
      go_ret2
      exact ⟨rfl, HB2.out⟩
    | false =>
      rw [ht] at cT
      rw [if_neg (by simp)]
      clear ht
      go_enter Try.func17, Try.ntmps17
      go_wp2_with fail
      refine (cT.out _).mono ?_
      rintro e w1 ⟨rfl, rfl⟩
      go_wp2
      go_ret2
      exact ⟨rfl, Below.refl _ _⟩
  · have cS := Lib.hid (implSubs_any s hs W)
    unfold ownS.OwnTexts at cS
    obtain ⟨ws, hws⟩ : ∃ ws, (if okT s = true then prt (tx s) else []) = ws := ⟨_, rfl⟩
    obtain ⟨ok, hok⟩ : ∃ ok, okT s = ok := ⟨_, rfl⟩
    rw [hok] at cS hws ⊢
    rw [hws] at cS ⊢
    clear hws hok
    go_enter Try.func18, Try.ntmps18
    go_wp2_with fail
    refine cS.out.mono ?_
    rintro e w2 ⟨v, rfl, hO, hb⟩
    obtain ⟨a, c, rfl⟩ := own_slice hO
    have HB := Lib.hid hb
    clear hO hb
    go_wp2
    go_ret2
    exact ⟨rfl, HB.out⟩

end Go.Proofs.Ytifkggapdaflmaa
