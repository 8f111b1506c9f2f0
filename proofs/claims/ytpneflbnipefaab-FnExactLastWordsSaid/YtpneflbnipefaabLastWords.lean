/-
  The trie of the words of a trie that stand to none of its others: the reference's LastWords.
-/
import Derived.Test.YtpneflbnipefaabFirst
import Derived.Test.YtpneflbnipefaabGvR
import Derived.Test.YtpneflbnipefaabOW
import Derived.Test.YtpneflbnipefaabIsTrie
import Derived.Test.YtpneflbnipefaabFrst
import Derived.Test.YtpneflbnipefaabWwLast
import Derived.Test.YtpneflbnipefaabImplTrieOf
namespace Go.Proofs.Ytpneflbnipefaab
open Go.RowKit
set_option linter.unusedVariables false

theorem wordsW (t : List Nd) : ∀ x ∈ wordsOf t, IsW x := by
  by_cases ht : IsT t
  · obtain ⟨ps, hv⟩ := ht
    intro x hx
    rw [wordsOf_eq hv] at hx
    exact hv.wordsW x hx
  · intro x hx
    rw [wordsOf_no ht] at hx
    cases hx

noncomputable def listLastWords (t : List Nd) : List Txt := frst (wordsOf t) false (wordsOf t).length

theorem listLastWords_short {t : List Nd} : ∀ x ∈ listLastWords t, x.length ≤ 9223372036854775807 := fun x hx => by
  have := wordsOf_short t x (frst_sub _ _ _ x hx)
  omega

set_option maxRecDepth 1000000 in
set_option maxHeartbeats 2000000 in
theorem specLastWords_any (a : Option Addr) (n c : Nat) (t : List Nd) (W : World) (hN : Nds W.heap.size W a n c t) (hn : n ≤ 1048576) :
    Calls Try.prog 28 #[.agg #[.slice a n c]] W (ReadRes W (resT (trieB t) (listLastWords t)) (resK (trieB t) (listLastWords t))) := by
  have G1 := Lib.hid (GvR.start hN)
  have cT := Lib.hid (fun (W' : World) (G : GvR W W' a n c t) => l2Trie_any W.heap.size a n c t W' G.size G.gv.nds hn)
  have cW := Lib.hid (fun (W' : World) (G : GvR W W' a n c t) (ht : IsT t) => specWords_own W.heap.size a n c t W' G.size G.gv.nds hn ht)
  obtain ⟨q, hq⟩ : ∃ q, trieB t = q := ⟨_, rfl⟩
  have HQ := Lib.hid hq
  have HSo := Lib.hid (wordsOf_short t)
  have h40 := wordsOf_size t
  have HW := Lib.hid (wordsW t)
  rw [hq] at cT ⊢
  have HE : Hid (listLastWords t = frst (wordsOf t) false (wordsOf t).length) := Lib.hid rfl
  obtain ⟨us, hus⟩ : ∃ us, wordsOf t = us := ⟨_, rfl⟩
  obtain ⟨xs, hxs⟩ : ∃ xs, listLastWords t = xs := ⟨_, rfl⟩
  rw [hus] at cW HE HSo h40 HW
  rw [hxs] at HE ⊢
  obtain ⟨m, hm⟩ : ∃ m, us.length = m := ⟨_, rfl⟩
  have HM := Lib.hid hm
  rw [hm] at cW h40 HE
  obtain ⟨tt, htt⟩ : ∃ tt, resT q xs = tt := ⟨_, rfl⟩
  obtain ⟨ok, hok⟩ : ∃ ok, resK q xs = ok := ⟨_, rfl⟩
  rw [htt, hok]
  have HTT := Lib.hid htt
  have HOK := Lib.hid hok
  have HLm : Hid (xs.length ≤ m) := Lib.hid (by rw [HE.out]; exact (frst_len us false m (by omega)).1)
  clear hN hq hus hxs hm htt hok
  have hbx := G1.out.box
  go_enter Try.func28, Try.ntmps28
  go_wp2_with fail
  refine (cT.out _ G1.out).mono ?_
  rintro e w2 ⟨rfl, hb2⟩
  have G2 := Lib.hid (G1.out.on hb2)
  clear hbx hb2
  cases q with
  | false =>
    obtain rfl : tt = [] := HTT.out.symm
    obtain rfl : ok = false := HOK.out.symm
    have hrc := G2.out.res.cell
    have hrf := G2.out.res.frozen
    go_wp2_with fail
    exact bodyPost_ret (v := .tuple #[.agg #[.slice none 0 0], .bool false]) (by simp [results, Try.results28, go_sem, hrc]) rfl G2.out.readNo
  | true =>
    have hbx := G2.out.box
    go_wp2_with fail
    refine (cW.out _ G2.out (trieB_iff.1 HQ.out)).mono ?_
    rintro e w5 ⟨a5, c5, rfl, hO5, hb5⟩
    have G5 := Lib.hid (G2.out.on hb5)
    have cF : Hid (Calls Try.prog 57 #[.slice a5 m c5, .bool false] w5 fun e w' => ∃ a' c', e = .returned (.slice a' xs.length c') ∧ Wds w'.heap.size w' a' xs.length c' xs ∧ Below w5.heap.size w5 w') := Lib.hid (by
      have hl : us.length = m := HM.out
      have hO6 := hO5
      rw [← hl] at hO6
      obtain ⟨a6, c6, e6, hW6⟩ := own_wds hO6 (fun x hx => by have := HSo.out x hx; omega)
      injection e6 with e7 _ e8
      have := l5First_any w5.heap.size a5 m c5 false us w5 (Nat.le_refl _) (by rw [← hl, e7, e8]; exact hW6) (by omega) HW.out
      rwa [← HE.out] at this)
    clear hbx hO5 hb5
    go_wp2_with fail
    refine cF.out.mono ?_
    rintro e w6 ⟨a6, c6, rfl, hW6, hb6⟩
    have G6 := Lib.hid (G5.out.on hb6)
    have cM : Hid (Calls Try.prog 56 #[.slice a6 xs.length c6] w6 (ReadRes w6 tt ok)) := Lib.hid (by
      rw [← HTT.out, ← HOK.out]
      exact l5Made_any w6.heap.size a6 _ c6 xs w6 (Nat.le_refl _) hW6 (by have := HLm.out; omega))
    clear hW6 hb6 HTT HOK
    go_wp2_with fail
    refine cM.out.mono ?_
    rintro e w7 ⟨a7, c7, rfl, hN7, hb7⟩
    have G7 := Lib.hid (G6.out.on hb7)
    have HN7 := Lib.hid hN7
    clear hN7 hb7
    have hrc := G7.out.res.cell
    have hrf := G7.out.res.frozen
    go_wp2_with fail
    exact bodyPost_ret (v := .tuple #[.agg #[.slice a7 tt.length c7], .bool ok]) (by simp [results, Try.results28, go_sem, hrc]) rfl (G7.out.read HN7.out)

end Go.Proofs.Ytpneflbnipefaab

namespace Go.Proofs.Ytpneflbnipefaab
open Go.RowKit
set_option linter.unusedVariables false

set_option maxRecDepth 1000000 in
set_option maxHeartbeats 1000000 in
theorem lastClo_any (B : Nat) (a : Option Addr) (n c q0 : Nat) (t : List Nd) (ps : List Txt) (y : EW t ps) (hv : Valid t ps) (w : World) (hB : B ≤ w.heap.size) (hN : Nds B w a n c t) (hbx : w.cell? ⟨q0, 0, none⟩ = some (.slice a n c)) :
    Calls Try.prog 62 #[.int .i64 (y.i : Int), .string (bx y.x), .pointer (some ⟨q0, 0, none⟩)] w fun e w' => e = .returned (.bool (lastP ps y.val)) ∧ Below w.heap.size w w' := by
  have hyn : y.i < n := by
    obtain ⟨d, hd, _⟩ := y.en
    have := (List.getElem?_eq_some_iff.1 hd).1
    have := hN.len
    omega
  have hn481 : n ≤ 481 := by have := hv.size; have := hN.len; omega
  have cA := Lib.hid (isAlone_any B a n c y.i t ps w hB hN (by omega) hv.tells hyn)
  have HV := Lib.hid hv
  clear hN hB hv
  go_enter Try.func62, Try.ntmps62
  go_wp2_with fail
  refine cA.out.mono ?_
  rintro e w2 ⟨b, rfl, hb, hb2⟩
  have HX : Hid (decide (b = y.i + 1) = lastP ps y.val) := Lib.hid (by
    rw [Bool.eq_iff_iff, aln_iff HV.out.tells y hb, lastP_aln])
  have HB2 := Lib.hid hb2
  clear hb hb2 hbx
  obtain ⟨q, hq⟩ : ∃ q, decide (b = y.i + 1) = q := ⟨_, rfl⟩
  rw [hq] at HX ⊢
  clear hq
  go_wp2_with fail
  go_ret
  exact ⟨ret_bool HX.out, HB2.out⟩

set_option maxRecDepth 1000000 in
set_option maxHeartbeats 2000000 in
theorem implLastWords_any (a : Option Addr) (n c : Nat) (t : List Nd) (W : World) (hN : Nds W.heap.size W a n c t) :
    Calls Try.prog 29 #[.agg #[.slice a n c]] W (TrieRes W (resT (trieB t) (listLastWords t)) (resK (trieB t) (listLastWords t))) := by
  have G1 := Lib.hid (GvR.start hN)
  have cT := Lib.hid (fun (W' : World) (G : GvR W W' a n c t) => isTrie_any W.heap.size a n c t W' G.size G.gv.nds)
  have HSh := Lib.hid (listLastWords_short (t := t))
  have cW : Hid (IsT t → ∀ (W' : World), GvR W W' a n c t → Calls Try.prog 40 #[.agg #[.slice a n c], .func (.func 62) #[] #[.pointer (some ⟨W.heap.size, 0, none⟩)]] W' fun e w' => ∃ v, e = .returned v ∧ w'.ownsRow W'.heap.size 9 1 v (listLastWords t).length ((listLastWords t).map fun x => Value.string (bx x)) ∧ Below W'.heap.size W' w') := Lib.hid (fun ht W' G => by
    obtain ⟨ps, hv⟩ := ht
    have := (callsIn_wide (n := 5)).1 (wwLastWords.where_in 5 (by omega) a n c W.heap.size t ps hv (lastP ps) W' (G.gv.nds.mono G.size) (fun W2 y h2 => lastClo_any W.heap.size a n c W.heap.size t ps y hv W2 (Nat.le_trans G.size h2.size) (G.gv.nds.keep (h2.mono G.size)) (G.on h2).box))
    have e : listLastWords t = ((pls t ps t.length).filter (lastP ps)).map Prod.snd := by
      unfold listLastWords
      rw [wordsOf_eq hv]
      exact frst_last hv
    rw [← e] at this
    exact this)
  obtain ⟨q, hq⟩ : ∃ q, trieB t = q := ⟨_, rfl⟩
  have HQ := Lib.hid hq
  rw [hq] at cT ⊢
  obtain ⟨xs, hxs⟩ : ∃ xs, listLastWords t = xs := ⟨_, rfl⟩
  rw [hxs] at HSh cW ⊢
  obtain ⟨tt, htt⟩ : ∃ tt, resT q xs = tt := ⟨_, rfl⟩
  obtain ⟨ok, hok⟩ : ∃ ok, resK q xs = ok := ⟨_, rfl⟩
  rw [htt, hok]
  have HTT := Lib.hid htt
  have HOK := Lib.hid hok
  clear hN hq hxs htt hok
  have hbx := G1.out.box
  go_enter Try.func29, Try.ntmps29
  go_wp2_with fail
  refine (cT.out _ G1.out).mono ?_
  rintro e w2 ⟨rfl, hb2⟩
  have G2 := Lib.hid (G1.out.on hb2)
  clear hbx hb2
  cases q with
  | false =>
    obtain rfl : tt = [] := HTT.out.symm
    obtain rfl : ok = false := HOK.out.symm
    have hrc := G2.out.res.cell
    have hrf := G2.out.res.frozen
    go_wp2_with fail
    exact bodyPost_ret (v := .tuple #[.agg #[.slice none 0 0], .bool false]) (by simp [results, Try.results29, go_sem, hrc]) rfl G2.out.ownNo
  | true =>
    have hbx := G2.out.box
    go_wp2_with fail
    refine (cW.out (trieB_iff.1 HQ.out) _ G2.out).mono ?_
    rintro e w5 ⟨v5, rfl, hO5, hb5⟩
    have G5 := Lib.hid (G2.out.on hb5)
    have cM : Hid (Calls Try.prog 60 #[v5] w5 (TrieRes w5 tt ok)) := Lib.hid (by
      obtain ⟨a6, c6, rfl, hW6⟩ := own_wds hO5 HSh.out
      rw [← HTT.out, ← HOK.out, (resT_yes xs).1, (resT_yes xs).2]
      exact implTrieOf_any w5.heap.size a6 _ c6 xs w5 (Nat.le_refl _) hW6)
    clear hO5 hb5 hbx HTT HOK
    go_wp2_with fail
    refine cM.out.mono ?_
    rintro e w7 ⟨v7, rfl, hO7, hb7⟩
    obtain ⟨a7, c7, rfl⟩ := own_slice hO7
    have G7 := Lib.hid (G5.out.on hb7)
    have HO7 := Lib.hid hO7
    clear hO7 hb7
    have hrc := G7.out.res.cell
    have hrf := G7.out.res.frozen
    go_wp2_with fail
    exact bodyPost_ret (v := .tuple #[.agg #[.slice a7 tt.length c7], .bool ok]) (by simp [results, Try.results29, go_sem, hrc]) rfl (G7.out.own HO7.out G5.out.size)

theorem agreeLastWords (t : List Nd) (n : Nat) (hn : n ≤ 1048576) : ∃ (tt : List Nd) (ok : Bool), Fits tt ∧ tt.length ≤ 481 ∧
    (∀ (W : World) (a : Option Addr), Nds W.heap.size W a n n t → Calls Try.prog 28 #[.agg #[.slice a n n]] W (ReadRes W tt ok)) ∧
    (∀ (W : World) (a : Option Addr), Nds W.heap.size W a n n t → Calls Try.prog 29 #[.agg #[.slice a n n]] W (TrieRes W tt ok)) :=
  ⟨_, _, resT_fits _ _, resT_len _ _, fun W a hN => specLastWords_any a n n t W hN hn, fun W a hN => implLastWords_any a n n t W hN⟩

end Go.Proofs.Ytpneflbnipefaab
