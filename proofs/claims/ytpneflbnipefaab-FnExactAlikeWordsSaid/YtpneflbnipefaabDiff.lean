/-
  The difference of two words of the same length: the reference and the program answer the same.
-/
import Derived.Test.YtpneflbnipefaabPat
import Derived.Test.YtpneflbnipefaabDp
import Derived.Test.YtpneflbnipefaabBas
import Derived.Test.YtpneflbnipefaabIter
import Derived.Deep.QuietTactic
import Derived.BigQuiet
namespace Go.Proofs.Ytpneflbnipefaab
open Go.RowKit
set_option linter.unusedVariables false

/-- at how many of the first k places two texts differ -/
def dif (x y : Txt) : Nat → Nat
  | 0 => 0
  | k + 1 => dif x y k + mism x y k k
theorem dif_le (x y : Txt) : ∀ k, dif x y k ≤ k
  | 0 => Nat.le_refl _
  | k + 1 => by have := dif_le x y k; have := mism_le x y k k; rw [dif]; omega

/-- letters at a place, compared -/
theorem ne_yes {a b : Nat} (h : ¬ a = b) : ((a : Int) != (b : Int)) = true := by simp; omega
theorem ne_no {a b : Nat} (h : a = b) : ((a : Int) != (b : Int)) = false := by subst h; simp

set_option maxRecDepth 1000000 in
set_option maxHeartbeats 1000000 in
theorem l6Difference_any (a b : ByteArray) (w : World) (h : a.size = b.size) (ha : a.size ≤ 12) :
    Calls Try.prog 35 #[.string a, .string b] w fun e w' => e = .returned (.int .i64 (dif a.data.toList b.data.toList a.size)) ∧ Below w.heap.size w w' := by
  go_enter Try.func35, Try.ntmps35
  go_wp2
  go_loopw [5, 6] (fun q i wr => ∃ k d : Nat, k ≤ a.size ∧ i = .int .i64 k ∧ q = .int .i64 d ∧ d ≤ k ∧ Hid (dif a.data.toList b.data.toList k = d) ∧ Hid (Below w.heap.size w wr)) (fun _ i _ => a.size - (intOf i).toNat)
  case atStart => exact ⟨0, 0, Nat.zero_le _, rfl, rfl, Nat.le_refl _, Lib.hid rfl, Lib.hid (Below.refl _ _)⟩
  case round =>
    obtain ⟨k, d, hk, rfl, rfl, hd, HD, HB⟩ := hrel
    by_cases hlt : k < a.size
    · have hlt2 : k < b.size := by omega
      by_cases he : a[k].toNat = b[k].toNat
      · have HN : Hid (dif a.data.toList b.data.toList (k + 1) = d) := Lib.hid (by rw [dif, HD.out, mism_eq hlt hlt2 he]; rfl)
        have hne := ne_no he
        clear he
        go_wp2
        go_quiet (fail)
        go_wp2
        go_roundw
        case rel => exact ⟨k + 1, d, by omega, by go_num, by go_num, by omega, HN, Lib.hid (below_drewN HB.out _)⟩
        case measure => simp [intOf]; omega
      · have HN : Hid (dif a.data.toList b.data.toList (k + 1) = d + 1) := Lib.hid (by rw [dif, HD.out, mism_ne hlt hlt2 he])
        have hne := ne_yes he
        clear he
        go_wp2
        go_quiet (fail)
        go_wp2
        go_roundw
        case rel => exact ⟨k + 1, d + 1, by omega, by go_num, by go_num, by omega, HN, Lib.hid (below_drewN HB.out _)⟩
        case measure => simp [intOf]; omega
    · have e : k = a.size := by omega
      subst e
      go_wp2
      go_ret
      exact ⟨ret_num (by rw [HD.out]), HB.out⟩

set_option maxRecDepth 1000000 in
set_option maxHeartbeats 1000000 in
theorem difference_any (a b : ByteArray) (w : World) (h : a.size = b.size) (ha : a.size ≤ 12) (hl : ∀ k (h : k < a.size), (a[k]'h).toNat < 128) :
    Calls Try.prog 42 #[.string a, .string b] w fun e w' => e = .returned (.int .i64 (dif a.data.toList b.data.toList a.size)) ∧ Below w.heap.size w w' := by
  have HL := Lib.hid hl
  clear hl
  go_enter Try.func42, Try.ntmps42
  go_wp2
  go_loopw [5, 6] (fun q i wr => ∃ k d : Nat, k ≤ a.size ∧ (∃ v : Value, i = v) ∧ q = .int .i64 d ∧ d ≤ k ∧ Hid (dif a.data.toList b.data.toList k = d) ∧ Hid (wr.heap[w.heap.size]? = some (.stringIter a k)) ∧ Hid (Below w.heap.size w wr)) (fun _ _ wr => a.size - wr.iterPos w.heap.size)
  case atStart => exact ⟨0, 0, Nat.zero_le _, ⟨_, rfl⟩, rfl, Nat.le_refl _, Lib.hid rfl, Lib.hid (World.iter_heap w a 0), Lib.hid ((Below.refl _ _).alloc (Nat.le_refl _) _)⟩
  case round =>
    obtain ⟨k, d, hk, ⟨v, rfl⟩, rfl, hd, HD, HIt, HB⟩ := hrel
    have hpos0 : wr.iterPos w.heap.size = k := by simp [World.iterPos, HIt.out]
    have HP0 := Lib.hid hpos0
    clear hpos0
    by_cases hlt : k < a.size
    · have hlt2 : k < b.size := by omega
      have hnx := fun ty => Lib.run_next_ascii_at (P := Try.prog) wr w.heap.size a k ty HIt.out hlt (HL.out k hlt)
      obtain ⟨W1, hW1⟩ : ∃ W1, wr.iterAt w.heap.size a (k + 1) = W1 := ⟨_, rfl⟩
      have HI1 : Hid (W1.heap[w.heap.size]? = some (.stringIter a (k + 1))) := Lib.hid (by rw [← hW1]; exact Lib.iterAt_heap wr _ a k (k + 1) HIt.out)
      have HB1 : Hid (Below w.heap.size w W1) := Lib.hid (by rw [← hW1]; exact Lib.below_iterAt HB.out (Nat.le_refl _) a (k + 1))
      simp only [hW1] at hnx
      clear hW1
      by_cases he : a[k].toNat = b[k].toNat
      · have HN : Hid (dif a.data.toList b.data.toList (k + 1) = d) := Lib.hid (by rw [dif, HD.out, mism_eq hlt hlt2 he]; rfl)
        have hne := ne_no he
        clear he
        go_wp2
        go_quiet (fail)
        go_wp2
        go_roundw
        case rel => exact ⟨k + 1, d, by omega, ⟨_, rfl⟩, by go_num, by omega, HN, Lib.hid HI1.out, Lib.hid (below_drewN HB1.out _)⟩
        case measure =>
          have e1 : (W1.drewN nq).iterPos w.heap.size = k + 1 := by have := HI1.out; simp [World.iterPos, this]
          rw [HP0.out, e1]
          omega
      · have HN : Hid (dif a.data.toList b.data.toList (k + 1) = d + 1) := Lib.hid (by rw [dif, HD.out, mism_ne hlt hlt2 he])
        have hne := ne_yes he
        clear he
        go_wp2
        go_quiet (fail)
        go_wp2
        go_roundw
        case rel => exact ⟨k + 1, d + 1, by omega, ⟨_, rfl⟩, by go_num, by omega, HN, Lib.hid HI1.out, Lib.hid (below_drewN HB1.out _)⟩
        case measure =>
          have e1 : (W1.drewN nq).iterPos w.heap.size = k + 1 := by have := HI1.out; simp [World.iterPos, this]
          rw [HP0.out, e1]
          omega
    · have hnx := fun ty => Lib.run_next_end_at (P := Try.prog) wr w.heap.size a k ty HIt.out hlt
      have e : k = a.size := by omega
      subst e
      go_wp2
      go_ret
      exact ⟨ret_num (by rw [HD.out]), HB.out⟩

end Go.Proofs.Ytpneflbnipefaab
