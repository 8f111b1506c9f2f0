/-
  The trie of the words of a trie that stand to none of its others: the reference's FirstWords.
-/
import Derived.Test.YtpneflbnipefaabFirst
import Derived.Test.YtpneflbnipefaabGvR
import Derived.Test.YtpneflbnipefaabOW
import Derived.Test.YtpneflbnipefaabIsTrie
namespace Go.Proofs.Ytpneflbnipefaab
open Go.RowKit
set_option linter.unusedVariables false

theorem wordsW (t : List Nd) : ∀ x ∈ wordsOf t, IsW x := by
  by_cases ht : IsT t
  · obtain ⟨ps, hv⟩ := ht
    intro x hx
    rw [wordsOf_eq hv] at hx
    exact hv.wordsW x hx
  · intro x hx
    rw [wordsOf_no ht] at hx
    cases hx

noncomputable def listFirstWords (t : List Nd) : List Txt := frst (wordsOf t) true (wordsOf t).length

theorem listFirstWords_short {t : List Nd} : ∀ x ∈ listFirstWords t, x.length ≤ 9223372036854775807 := fun x hx => by
  have := wordsOf_short t x (frst_sub _ _ _ x hx)
  omega

set_option maxRecDepth 1000000 in
set_option maxHeartbeats 2000000 in
theorem specFirstWords_any (a : Option Addr) (n c : Nat) (t : List Nd) (W : World) (hN : Nds W.heap.size W a n c t) (hn : n ≤ 1048576) :
    Calls Try.prog 25 #[.agg #[.slice a n c]] W (ReadRes W (resT (trieB t) (listFirstWords t)) (resK (trieB t) (listFirstWords t))) := by
  have G1 := Lib.hid (GvR.start hN)
  have cT := Lib.hid (fun (W' : World) (G : GvR W W' a n c t) => l2Trie_any W.heap.size a n c t W' G.size G.gv.nds hn)
  have cW := Lib.hid (fun (W' : World) (G : GvR W W' a n c t) (ht : IsT t) => specWords_own W.heap.size a n c t W' G.size G.gv.nds hn ht)
  obtain ⟨q, hq⟩ : ∃ q, trieB t = q := ⟨_, rfl⟩
  have HQ := Lib.hid hq
  have HSo := Lib.hid (wordsOf_short t)
  have h40 := wordsOf_size t
  have HW := Lib.hid (wordsW t)
  rw [hq] at cT ⊢
  have HE : Hid (listFirstWords t = frst (wordsOf t) true (wordsOf t).length) := Lib.hid rfl
  obtain ⟨us, hus⟩ : ∃ us, wordsOf t = us := ⟨_, rfl⟩
  obtain ⟨xs, hxs⟩ : ∃ xs, listFirstWords t = xs := ⟨_, rfl⟩
  rw [hus] at cW HE HSo h40 HW
  rw [hxs] at HE ⊢
  obtain ⟨m, hm⟩ : ∃ m, us.length = m := ⟨_, rfl⟩
  have HM := Lib.hid hm
  rw [hm] at cW h40 HE
  obtain ⟨tt, htt⟩ : ∃ tt, resT q xs = tt := ⟨_, rfl⟩
  obtain ⟨ok, hok⟩ : ∃ ok, resK q xs = ok := ⟨_, rfl⟩
  rw [htt, hok]
  have HTT := Lib.hid htt
  have HOK := Lib.hid hok
  have HLm : Hid (xs.length ≤ m) := Lib.hid (by rw [HE.out]; exact (frst_len us true m (by omega)).1)
  clear hN hq hus hxs hm htt hok
  have hbx := G1.out.box
  go_enter Try.func25, Try.ntmps25
  go_wp2_with fail
  refine (cT.out _ G1.out).mono ?_
  rintro e w2 ⟨rfl, hb2⟩
  have G2 := Lib.hid (G1.out.on hb2)
  clear hbx hb2
  cases q with
  | false =>
    obtain rfl : tt = [] := HTT.out.symm
    obtain rfl : ok = false := HOK.out.symm
    have hrc := G2.out.res.cell
    have hrf := G2.out.res.frozen
    go_wp2_with fail
    exact bodyPost_ret (v := .tuple #[.agg #[.slice none 0 0], .bool false]) (by simp [results, Try.results25, go_sem, hrc]) rfl G2.out.readNo
  | true =>
    have hbx := G2.out.box
    go_wp2_with fail
    refine (cW.out _ G2.out (trieB_iff.1 HQ.out)).mono ?_
    rintro e w5 ⟨a5, c5, rfl, hO5, hb5⟩
    have G5 := Lib.hid (G2.out.on hb5)
    have cF : Hid (Calls Try.prog 57 #[.slice a5 m c5, .bool true] w5 fun e w' => ∃ a' c', e = .returned (.slice a' xs.length c') ∧ Wds w'.heap.size w' a' xs.length c' xs ∧ Below w5.heap.size w5 w') := Lib.hid (by
      have hl : us.length = m := HM.out
      have hO6 := hO5
      rw [← hl] at hO6
      obtain ⟨a6, c6, e6, hW6⟩ := own_wds hO6 (fun x hx => by have := HSo.out x hx; omega)
      injection e6 with e7 _ e8
      have := l5First_any w5.heap.size a5 m c5 true us w5 (Nat.le_refl _) (by rw [← hl, e7, e8]; exact hW6) (by omega) HW.out
      rwa [← HE.out] at this)
    clear hbx hO5 hb5
    go_wp2_with fail
    refine cF.out.mono ?_
    rintro e w6 ⟨a6, c6, rfl, hW6, hb6⟩
    have G6 := Lib.hid (G5.out.on hb6)
    have cM : Hid (Calls Try.prog 56 #[.slice a6 xs.length c6] w6 (ReadRes w6 tt ok)) := Lib.hid (by
      rw [← HTT.out, ← HOK.out]
      exact l5Made_any w6.heap.size a6 _ c6 xs w6 (Nat.le_refl _) hW6 (by have := HLm.out; omega))
    clear hW6 hb6 HTT HOK
    go_wp2_with fail
    refine cM.out.mono ?_
    rintro e w7 ⟨a7, c7, rfl, hN7, hb7⟩
    have G7 := Lib.hid (G6.out.on hb7)
    have HN7 := Lib.hid hN7
    clear hN7 hb7
    have hrc := G7.out.res.cell
    have hrf := G7.out.res.frozen
    go_wp2_with fail
    exact bodyPost_ret (v := .tuple #[.agg #[.slice a7 tt.length c7], .bool ok]) (by simp [results, Try.results25, go_sem, hrc]) rfl (G7.out.read HN7.out)

end Go.Proofs.Ytpneflbnipefaab
