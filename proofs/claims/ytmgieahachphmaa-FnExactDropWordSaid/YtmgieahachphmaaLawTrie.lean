/-
  What stays in the laws on functions that return a trie: the reference's answer, the program's answer, and what their boxes hold.
-/
import Derived.Test.YtmgieahachphmaaImplTrieOf
import Derived.Test.YtmgieahachphmaaMarkN
import Derived.Test.YtmgieahachphmaaOwnTrie
import Derived.Test.YtmgieahachphmaaLawNds
import Derived.Test.YtmgieahachphmaaLawTwo
namespace Go.Proofs.Ytmgieahachphmaa
open Go.RowKit
set_option linter.unusedVariables false


set_option maxRecDepth 1000000 in
set_option maxHeartbeats 1000000 in
theorem specTrieOf_any (B : Nat) (a : Option Addr) (n c : Nat) (xs : List Txt) (w : World) (hB : B ≤ w.heap.size) (h : Wds B w a n c xs) (hn : n ≤ 1048576) :
    Calls Try.prog 21 #[.slice a n c] w (ReadRes w (tofT xs) (setOk xs)) := by
  have cS := Lib.hid (l2Set_any B a n c xs (w.alloc (.cells #[.slice none 0 0] 30)) (by simp; omega) (h.keep ((Below.refl _ _).alloc hB _)) hn)
  have HBx0 := Lib.hid (Boxed.new w 30 (.slice none 0 0))
  have HB0 : Hid (Below w.heap.size w (w.alloc (.cells #[.slice none 0 0] 30))) := Lib.hid ((Below.refl _ _).alloc (Nat.le_refl _) _)
  have HZ0 : Hid ((w.alloc (.cells #[.slice none 0 0] 30)).heap.size = w.heap.size + 1) := Lib.hid (by simp)
  obtain ⟨ok, hok⟩ : ∃ ok, setOk xs = ok := ⟨_, rfl⟩
  obtain ⟨tt, htt⟩ : ∃ tt, tofT xs = tt := ⟨_, rfl⟩
  rw [hok] at cS ⊢
  rw [htt]
  have HOK := Lib.hid hok
  have HTT := Lib.hid htt
  clear hok htt h
  go_enter Try.func21, Try.ntmps21
  go_wp2_with fail
  obtain ⟨W1, hW1⟩ : ∃ W1, w.alloc (.cells #[.slice none 0 0] 30) = W1 := ⟨_, rfl⟩
  rw [hW1] at HBx0 HB0 HZ0 cS ⊢
  clear hW1
  refine cS.out.mono ?_
  rintro e w2 ⟨a2, n2, c2, rfl, hW2, hb2⟩
  have HW2 := Lib.hid hW2
  have HB2 := Lib.hid hb2
  have hrc := (box_stay HBx0.out hb2).cell
  have hrf := (box_stay HBx0.out hb2).frozen
  clear hW2 hb2
  cases ok with
  | false =>
    obtain rfl : tt = [] := HTT.out.symm.trans (tofT_no HOK.out)
    go_wp2
    refine bodyPost_ret (v := .tuple #[.agg #[.slice none 0 0], .bool false]) (by simp [results, Try.results21, go_sem, hrc]) rfl ⟨_, _, rfl, nds_nil _ _, (HB0.out.trans (HB2.out.mono (by have := HZ0.out; omega))).setCell (Nat.le_refl _) _⟩
  | true =>
    obtain rfl : tt = made (setOf xs) := HTT.out.symm.trans (tofT_yes HOK.out)
    have hW2 := HW2.out rfl
    have h40 := (setOk_words HOK.out).2
    have hl2 := hW2.len
    have cO := Lib.hid (l2Of_any w2.heap.size a2 n2 c2 (setOf xs) w2 (Nat.le_refl _) hW2 (by omega) (setOk_words HOK.out).1)
    clear hW2 hl2 h40 hrc hrf
    go_wp2_with (go_at_call 43; refine cO.out.mono ?_; rintro e w3 ⟨a3, n3, c3, ps, rfl, hN3, hP3, _, hb3⟩; rw [made_of hP3] at hN3; obtain rfl := hN3.len; have HN3 := Lib.hid hN3; have HB3 := Lib.hid hb3; clear hN3 hP3 hb3; have hrc := (box_stay (box_stay HBx0.out HB2.out) HB3.out).cell; have hrf := (box_stay (box_stay HBx0.out HB2.out) HB3.out).frozen)
    refine bodyPost_ret (v := .tuple #[.agg #[.slice a3 (made (setOf xs)).length c3], .bool true]) (by simp [results, Try.results21, go_sem, hrc]) rfl ⟨_, _, rfl, ?_, ((HB0.out.trans (HB2.out.mono (by have := HZ0.out; omega))).trans (HB3.out.mono (by have := HZ0.out; have := HB2.out.size; omega))).setCell (Nat.le_refl _) _⟩
    have := HN3.out.box (box_stay (box_stay HBx0.out HB2.out) HB3.out) (.slice a3 (made (setOf xs)).length c3)
    simpa [World.setCell] using this

end Go.Proofs.Ytmgieahachphmaa
