/-
  PlainCode: both functions answer the same.
-/
import Derived.Test.YthjafoacnfgjhabPlainS10
import Derived.Test.YthjafoacnfgjhabPlainP10
import Derived.Test.YthjafoacnfgjhabPosI10
import Derived.Test.YthjafoacnfgjhabPutW
namespace Go.Proofs.Ythjafoacnfgjhab
open Go.RowKit
set_option linter.unusedVariables false

noncomputable def plL (l : List Int) : List Txt := if posB l = true then (outp l 14).2 else []

set_option maxRecDepth 1000000 in
set_option maxHeartbeats 1000000 in
theorem specPlainCode_any (a : Option Addr) (n c : Nat) (l : List Int) (w : World) (h : Ints w.heap.size w a n c l) :
    Calls Try.prog 14 #[.slice a n c] w fun e w' => ∃ v, e = .returned (.tuple #[v, .bool (posB l)]) ∧ w'.ownsRow w.heap.size 9 1 v (plL l).length (tcs (plL l)) ∧ Below w.heap.size w w' := by
  have cA0 := l10Possible_any w.heap.size a n c l w (Nat.le_refl _) h
  by_cases hp : posB l = true
  · have ho : nOk l 14 = true := by unfold posB at hp; simp only [Bool.and_eq_true] at hp; exact hp.1
    have hn12 : n ≤ 12 := by have := (nOk_len ho).2; rw [h.len] at this; exact this
    have HL : Hid (plL l = (outp l 14).2 ∧ (outp l 14).2.length = n) := Lib.hid (by
      refine ⟨by unfold plL; rw [if_pos hp], by rw [(outp_ok l 14).2, h.len]⟩)
    have cP := Lib.hid (l10Plain_any w.heap.size a n c l w (Nat.le_refl _) h hn12)
    rw [hp] at cA0 ⊢
    have cA := Lib.hid cA0
    clear h hp ho cA0
    go_enter Try.func14, Try.ntmps14
    go_wp2_with fail
    refine cA.out.mono ?_
    rintro e w1 ⟨rfl, rfl⟩
    go_wp2_with fail
    refine cP.out.mono ?_
    rintro e w2 ⟨v, rfl, hO, hb⟩
    have HO := Lib.hid hO
    have HB := Lib.hid hb
    clear hO hb
    go_wp2_with fail
    go_ret2
    exact ⟨_, rfl, by rw [HL.out.1, HL.out.2]; exact HO.out, HB.out⟩
  · have hp' : posB l = false := by simpa using hp
    have HL : Hid (plL l = []) := Lib.hid (by unfold plL; rw [if_neg hp])
    rw [hp'] at cA0 ⊢
    have cA := Lib.hid cA0
    have HO0 : Hid ((w.alloc (.cells #[] 9)).ownsRow w.heap.size 9 1 (.slice (some ⟨w.heap.size, 0, none⟩) 0 0) 0 []) := Lib.hid (World.ownsRow_lit w #[] 0 (Nat.le_refl _) (by unfold maxLen; omega) rfl)
    have HB0 : Hid (Below w.heap.size w (w.alloc (.cells #[] 9))) := Lib.hid ((Below.refl _ _).alloc (Nat.le_refl _) _)
    clear h hp hp' cA0
    go_enter Try.func14, Try.ntmps14
    go_wp2_with fail
    refine cA.out.mono ?_
    rintro e w1 ⟨rfl, rfl⟩
    go_wp2_with fail
    go_ret2
    exact ⟨_, rfl, by rw [HL.out]; exact HO0.out, HB0.out⟩

set_option maxRecDepth 1000000 in
set_option maxHeartbeats 1000000 in
theorem implPlainCode_any (a : Option Addr) (n c : Nat) (l : List Int) (w : World) (h : Ints w.heap.size w a n c l) :
    Calls Try.prog 16 #[.slice a n c] w fun e w' => ∃ v, e = .returned (.tuple #[v, .bool (posB l)]) ∧ w'.ownsRow w.heap.size 9 1 v (plL l).length (tcs (plL l)) ∧ Below w.heap.size w w' := by
  have cA0 := implArePossible_any w.heap.size a n c l w (Nat.le_refl _) h
  by_cases hp : posB l = true
  · have ho : nOk l 14 = true := by unfold posB at hp; simp only [Bool.and_eq_true] at hp; exact hp.1
    have hn12 : n ≤ 12 := by have := (nOk_len ho).2; rw [h.len] at this; exact this
    rw [hp] at cA0 ⊢
    have e1 : plL l = (outp l 14).2 := by unfold plL; rw [if_pos hp]
    have e2 : (outp l 14).2.length = n := by rw [(outp_ok l 14).2, h.len]
    rw [e1, e2]
    exact implPlain_any w.heap.size a n c l w (Nat.le_refl _) h hn12 _ cA0
  · have hp' : posB l = false := by simpa using hp
    have HL : Hid (plL l = []) := Lib.hid (by unfold plL; rw [if_neg hp])
    obtain ⟨ok, hok⟩ : ∃ ok, nOk l 14 = ok := ⟨_, rfl⟩
    rw [hp', hok] at cA0
    rw [hp']
    have cA := Lib.hid cA0
    clear h hp hp' cA0 hok
    go_enter Try.func16, Try.ntmps16
    go_wp2_with fail
    refine cA.out.mono ?_
    rintro e w1 ⟨rfl, rfl⟩
    go_wp2_with fail
    go_ret2
    exact ⟨_, rfl, by rw [HL.out]; exact ⟨rfl, .inl ⟨rfl, rfl⟩⟩, Below.refl _ _⟩

theorem agreePlainCode (l : List Int) (hl : l.length ≤ 1048576) : ∃ (ok : Bool) (L : List Txt), L.length ≤ 1000 ∧ (∀ x ∈ L, x.length ≤ 9223372036854775807) ∧
    (∀ (W : World) (a : Option Addr) (n c : Nat), Ints W.heap.size W a n c l → Calls Try.prog 14 #[.slice a n c] W fun e w' => ∃ v, e = .returned (.tuple #[v, .bool ok]) ∧ w'.ownsRow W.heap.size 9 1 v L.length (L.map (fun x => Value.string (bx x))) ∧ Below W.heap.size W w') ∧
    (∀ (W : World) (a : Option Addr) (n c : Nat), Ints W.heap.size W a n c l → Calls Try.prog 16 #[.slice a n c] W fun e w' => ∃ v, e = .returned (.tuple #[v, .bool ok]) ∧ w'.ownsRow W.heap.size 9 1 v L.length (L.map (fun x => Value.string (bx x))) ∧ Below W.heap.size W w') := by
  refine ⟨posB l, plL l, ?_, ?_, fun W a n c h => specPlainCode_any a n c l W h, fun W a n c h => implPlainCode_any a n c l W h⟩
  · unfold plL
    split
    · rename_i hp
      have ho : nOk l 14 = true := by unfold posB at hp; simp only [Bool.and_eq_true] at hp; exact hp.1
      have := (nOk_len ho).2
      rw [(outp_ok l 14).2]
      omega
    · simp
  · unfold plL
    split
    · intro x hx
      have := outp_short l 14 (Nat.le_refl _) x hx
      omega
    · simp

end Go.Proofs.Ythjafoacnfgjhab
