/-
  How far a word may be: the gates of the laws on words that are near or alike.
-/
import Derived.Test.YtipkdoplgjgkpacTrie
import Derived.Test.YtipkdoplgjgkpacNds
import Derived.Test.YtipkdoplgjgkpacOkW
import Derived.Test.YtipkdoplgjgkpacIsTrie
import Derived.Test.YtipkdoplgjgkpacFreeM
namespace Go.Proofs.Ytipkdoplgjgkpac.cap
open Go.RowKit
set_option linter.unusedVariables false

def farB (z : Int) : Bool := decide (0 ≤ z ∧ z ≤ 3)

theorem eq_same {a b : Nat} (h : a = b) : ((a : Int) == (b : Int)) = true := by subst h; simp
theorem eq_diff {a b : Nat} (h : ¬ a = b) : ((a : Int) == (b : Int)) = false := by simp; omega

set_option maxHeartbeats 1000000 in
theorem l6Good_any (B : Nat) (a : Option Addr) (n c : Nat) (t : List Nd) (s : ByteArray) (z : Int) (w : World) (hB : B ≤ w.heap.size) (h : Nds B w a n c t) (hn : n ≤ 1048576) (hs : s.size ≤ 1048576) :
    Calls Try.prog 46 #[.agg #[.slice a n c], .string s, .int .i64 z] w fun e w' => e = .returned (.bool (trieB t && okW s && farB z)) ∧ Below w.heap.size w w' := by
  have HB1 : Hid (Below w.heap.size w (w.alloc (.cells #[.slice a n c] 30))) := Lib.hid ((Below.refl _ _).alloc (Nat.le_refl _) _)
  have hbx := (cellNew w (.slice a n c) 30).1
  have cT := Lib.hid (l2Trie_any B a n c t (w.alloc (.cells #[.slice a n c] 30)) (Nat.le_trans hB HB1.out.size) (h.keep (HB1.out.mono hB)) hn)
  have cW := Lib.hid (fun w => l2Word_any s w (by omega))
  have cF := Lib.hid (fun w => l1In_any z 0 3 w)
  have hf : decide ((0 : Int) ≤ z ∧ z ≤ 3) = farB z := rfl
  obtain ⟨q1, hq1⟩ : ∃ q1, trieB t = q1 := ⟨_, rfl⟩
  obtain ⟨q2, hq2⟩ : ∃ q2, okW s = q2 := ⟨_, rfl⟩
  obtain ⟨q3, hq3⟩ : ∃ q3, farB z = q3 := ⟨_, rfl⟩
  rw [hq1] at cT ⊢
  rw [hq2] at cW ⊢
  rw [hf, hq3] at cF
  rw [hq3]
  clear hq1 hq2 hq3 hf h
  cases q1
  · go_enter Try.func46, Try.ntmps46
    go_wp2_with fail
    refine cT.out.mono ?_
    rintro e w2 ⟨rfl, hb2⟩
    have HB2 := Lib.hid (HB1.out.trans (hb2.mono HB1.out.size))
    clear hb2 hbx
    go_wp2_with fail
    go_ret
    exact ⟨rfl, HB2.out⟩
  · cases q2
    · go_enter Try.func46, Try.ntmps46
      go_wp2_with fail
      refine cT.out.mono ?_
      rintro e w2 ⟨rfl, hb2⟩
      have HB2 := Lib.hid (HB1.out.trans (hb2.mono HB1.out.size))
      clear hb2 hbx
      go_wp2_with fail
      refine (cW.out _).mono ?_
      rintro e w3 ⟨rfl, rfl⟩
      go_wp2_with fail
      go_ret
      exact ⟨rfl, HB2.out⟩
    · go_enter Try.func46, Try.ntmps46
      go_wp2_with fail
      refine cT.out.mono ?_
      rintro e w2 ⟨rfl, hb2⟩
      have HB2 := Lib.hid (HB1.out.trans (hb2.mono HB1.out.size))
      clear hb2 hbx
      go_wp2_with fail
      refine (cW.out _).mono ?_
      rintro e w3 ⟨rfl, rfl⟩
      go_wp2_with fail
      refine (cF.out _).mono ?_
      rintro e w3 ⟨rfl, rfl⟩
      go_wp2_with fail
      go_ret
      exact ⟨ret_bool (by simp), HB2.out⟩

theorem isFar_any (z : Int) (w : World) : Calls Try.prog 50 #[.int .i64 z] w fun e w' => e = .returned (.bool (farB z)) ∧ w = w' := by
  by_cases h1 : 0 ≤ z
  · by_cases h2 : z ≤ 3
    · have hf : farB z = true := by unfold farB; rw [decide_eq_true_eq]; omega
      rw [hf]
      clear hf
      go_enter Try.func50, Try.ntmps50
      go_wp2
      go_ret
      exact ⟨ret_bool (by first | (simp; done) | (simp; omega)), rfl⟩
    · have hf : farB z = false := by unfold farB; rw [decide_eq_false_iff_not]; omega
      rw [hf]
      clear hf
      go_enter Try.func50, Try.ntmps50
      go_wp2
      go_ret
      exact ⟨ret_bool (by first | (simp; done) | (simp; omega)), rfl⟩
  · have hf : farB z = false := by unfold farB; rw [decide_eq_false_iff_not]; omega
    rw [hf]
    clear hf
    go_enter Try.func50, Try.ntmps50
    go_wp2
    go_ret
    exact ⟨ret_bool (by first | (simp; done) | (simp; omega)), rfl⟩

end Go.Proofs.Ytipkdoplgjgkpac.cap
