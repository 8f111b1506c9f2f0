/-
  Whether a pressed tree is valid: the program's function.
-/
import Derived.Test.YtoofpgehkihbcaaOpenP
namespace Go.Proofs.Ytoofpgehkihbcaa
open Go.RowKit
set_option linter.unusedVariables false

set_option maxRecDepth 1000000 in
set_option maxHeartbeats 1000000 in
theorem implIsPressed_any (a : Option Addr) (n c : Nat) (p : List Br) (w : World) (h : Brs w.heap.size w a n c p) (hn : n ≤ 1048576) :
    Calls Try.prog 33 #[.agg #[.slice a n c]] w fun e w' => e = .returned (.bool (pOk p)) ∧ Below w.heap.size w w' := by
  have HB1 : Hid (Below w.heap.size w (w.alloc (.cells #[.slice a n c] 30))) := Lib.hid ((Below.refl _ _).alloc (Nat.le_refl _) _)
  have cO := Lib.hid (implOpen_any w.heap.size a n c p (w.alloc (.cells #[.slice a n c] 30)) HB1.out.size (h.keep HB1.out) hn)
  clear h
  obtain ⟨ok, hok⟩ : ∃ ok, pOk p = ok := ⟨_, rfl⟩
  obtain ⟨tt, htt⟩ : ∃ tt, pT p = tt := ⟨_, rfl⟩
  rw [hok, htt] at cO
  rw [hok]
  clear hok htt
  go_enter Try.func33, Try.ntmps33
  go_wp2_with fail
  refine cO.out.mono ?_
  rintro e w2 ⟨v2, rfl, hO2, hb2⟩
  obtain ⟨a2, c2, rfl⟩ := own_slice hO2
  have HB2 := Lib.hid (HB1.out.trans (hb2.mono HB1.out.size))
  clear hb2 hO2
  go_wp2
  go_ret
  exact ⟨rfl, HB2.out.alloc HB2.out.size _⟩

end Go.Proofs.Ytoofpgehkihbcaa
