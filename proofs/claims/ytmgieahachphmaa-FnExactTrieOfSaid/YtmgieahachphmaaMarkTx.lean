/-
  The text of a law's mark.
-/
import Derived.Test.YtmgieahachphmaaOwn
import Derived.Test.YtmgieahachphmaaMarkT
import Derived.Laws.BytesArg
import Derived.Deep.RegionHeld3
import Derived.Deep.QuietTactic
import Derived.BigQuiet
import Derived.Lib.Hide
import Derived.Lib.Strings
import Derived.WalkSpells
import Derived.WalkSmall
namespace Go.Proofs.Ytmgieahachphmaa
open Go.RowKit
set_option linter.unusedVariables false

/-- the digits of j ahead of m, at most f of them -/
def mtl : Nat → Nat → ByteArray → ByteArray
  | 0, _, m => m
  | f + 1, j, m => if j = 0 then m else mtl f (j / 10) (strOfNums [48 + (j : Int) % 10] ++ m)

theorem mtl_zero (f : Nat) (m : ByteArray) : mtl f 0 m = m := by cases f <;> simp [mtl]
theorem mtl_succ (f j : Nat) (m : ByteArray) (h : 0 < j) : mtl (f + 1) j m = mtl f (j / 10) (strOfNums [48 + (j : Int) % 10] ++ m) := by
  rw [mtl, if_neg (by omega)]

/-- the text of the mark k -/
def mt (k : Nat) : ByteArray := if k = 0 then ⟨#[109, 48]⟩ else ⟨#[109]⟩ ++ mtl k k ⟨#[]⟩

theorem mt_zero : mt 0 = ⟨#[109, 48]⟩ := rfl
theorem mt_pos {k : Nat} (h : 0 < k) : mt k = ⟨#[109]⟩ ++ mtl k k ⟨#[]⟩ := if_neg (by omega)

theorem ret_strM {a b : ByteArray} (h : b = a) : Ending.returned (.string a) = .returned (.string b) := by rw [h]

set_option maxHeartbeats 1000000 in
theorem markText_any (k : Nat) (w : World) (hk : k ≤ 1000000000) :
    Calls Try.prog 40 #[.int .i64 (k : Int)] w fun e w' => e = .returned (.string (mt k)) ∧ Below w.heap.size w w' := by
  by_cases h0 : k = 0
  · subst h0
    go_enter Try.func40, Try.ntmps40
    go_wp2
    go_ret
    exact ⟨ret_strM mt_zero, Below.refl _ _⟩
  · have h1 : ¬ ((k : Int) ≤ 0) := by omega
    have HP := Lib.hid (mt_pos (show 0 < k by omega))
    have hcv : ∀ (W : World) (j : Nat), (convert 71 9 (.slice (some ⟨W.heap.size, 0, none⟩) 1 1)).run Try.prog (W.alloc (.cells #[.int .u8 (48 + (j : Int) % 10)] 5)) = .ok (.string (strOfNums [48 + (j : Int) % 10])) (W.alloc (.cells #[.int .u8 (48 + (j : Int) % 10)] 5)) := fun W j =>
      run_convert_bytes_arg _ 71 5 Try.underlying71 Try.underlying5 W.heap.size 0 1 1 [48 + (j : Int) % 10] rfl (fun i hi => by
        obtain rfl : i = 0 := by omega
        exact by simp) 9 Try.underlying9
    go_enter Try.func40, Try.ntmps40
    go_wp2
    go_loopw [0, 3] (fun n o wr => ∃ (j f : Nat) (m : ByteArray), n = .int .i64 j ∧ o = .string m ∧ j ≤ 1000000000 ∧ m.size + f ≤ 1000000000 ∧ j ≤ f ∧ Hid (mtl f j m = mtl k k ⟨#[]⟩) ∧ Below w.heap.size w wr) (fun n _ _ => (intOf n).toNat)
    case atStart => exact ⟨k, k, ⟨#[]⟩, rfl, rfl, hk, by show 0 + k ≤ _; omega, Nat.le_refl _, Lib.hid rfl, Below.refl _ _⟩
    case round =>
      obtain ⟨j, f, m, rfl, rfl, hj, hm, hjf, HM, hb⟩ := hrel
      by_cases hp : 0 < j
      · have hp' : (0 : Int) < (j : Int) := by omega
        obtain ⟨f', rfl⟩ : ∃ f', f = f' + 1 := ⟨f - 1, by omega⟩
        have HN := Lib.hid ((mtl_succ f' j m hp).symm.trans HM.out)
        obtain ⟨d, hd⟩ : ∃ d, strOfNums [48 + (j : Int) % 10] = d := ⟨_, rfl⟩
        have hds : d.size = 1 := by rw [← hd]; rfl
        have hds' : d.size ≤ 1 := by omega
        have cv := hcv wr j
        rw [hd] at cv
        rw [hd] at HN
        clear hd hcv hds
        go_wp2
        go_roundw
        case rel => exact ⟨j / 10, f', d ++ m, by go_num, rfl, by omega, by rw [ByteArray.size_append]; omega, by omega, HN, hb.alloc hb.size _⟩
        case measure => simp [intOf]; omega
      · have hp' : ¬ (0 : Int) < (j : Int) := by omega
        have e : j = 0 := by omega
        subst e
        have HE : Hid (mt k = ⟨#[109]⟩ ++ m) := Lib.hid (by rw [HP.out, ← HM.out, mtl_zero])
        clear hcv
        go_wp2
        go_ret
        exact ⟨ret_strM HE.out, hb⟩

theorem grown_of_below {a w : World} {row : Option Nat} (h : Below a.heap.size a w) : a.grownBy w row := ⟨h.os, h.tape, h.output, h.size, fun k hk _ => h.block k hk⟩

end Go.Proofs.Ytmgieahachphmaa
