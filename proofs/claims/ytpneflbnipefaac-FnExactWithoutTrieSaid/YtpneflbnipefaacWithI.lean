/-
  The words of two tries that the other has not: the program.
-/
import Derived.Test.YtpneflbnipefaacGv2
import Derived.Test.YtpneflbnipefaacWithS
import Derived.Test.YtpneflbnipefaacMeetClo
import Derived.Test.YtpneflbnipefaacWwMiss
import Derived.Test.YtpneflbnipefaacImplTrieOf
import Derived.Test.YtpneflbnipefaacFreeM
import Derived.Deep.RegionHeld3
namespace Go.Proofs.Ytpneflbnipefaac
open Go.RowKit
set_option linter.unusedVariables false

set_option maxRecDepth 1000000 in
set_option maxHeartbeats 2000000 in
theorem missing_any (m j : Nat) (us : List Txt) (B : Nat) (a : Option Addr) (n c : Nat) (t : List Nd) (ht : IsT t) (W : World) (hB : B ≤ W.heap.size) (hN : Nds B W a n c t) (hS : SetIs W m j us) :
    Calls Try.prog 43 #[.map (some m), .agg #[.slice a n c]] W fun e w' => ∃ v, e = .returned v ∧ w'.ownsRow W.heap.size 9 1 v (those (wordsOf t) us false).length ((those (wordsOf t) us false).map fun x => Value.string (bx x)) ∧ Below W.heap.size W w' := by
  have HB1 : Hid (Below W.heap.size W ((W.alloc (.cells #[.map (some m)] 51)).alloc (.cells #[.slice a n c] 28))) := Lib.hid (((Below.refl _ _).alloc (Nat.le_refl _) _).alloc (by simp) _)
  have c0 := cellOld (.cells #[.slice a n c] 28) (cellNew W (.map (some m)) 51).1
  have c1 := (cellNew (W.alloc (.cells #[.map (some m)] 51)) (.slice a n c) 28).1
  rw [World.size_alloc] at c1
  have hq := World.block_lt_of_cell? _ _ c0
  have cW : Hid (Calls Try.prog 38 #[.agg #[.slice a n c], .func (.func 63) #[] #[.pointer (some ⟨W.heap.size, 0, none⟩)]] ((W.alloc (.cells #[.map (some m)] 51)).alloc (.cells #[.slice a n c] 28)) fun e w' => ∃ v, e = .returned v ∧ w'.ownsRow ((W.alloc (.cells #[.map (some m)] 51)).alloc (.cells #[.slice a n c] 28)).heap.size 9 1 v (those (wordsOf t) us false).length ((those (wordsOf t) us false).map fun x => Value.string (bx x)) ∧ Below ((W.alloc (.cells #[.map (some m)] 51)).alloc (.cells #[.slice a n c] 28)).heap.size ((W.alloc (.cells #[.map (some m)] 51)).alloc (.cells #[.slice a n c] 28)) w') := Lib.hid (by
    obtain ⟨ps, hv⟩ := ht
    have hS1 := hS.below HB1.out hS.lt
    have := (callsIn_wide (n := 5)).1 (wwMiss.where_in 5 (by omega) a n c W.heap.size t ps hv (fun z => inB us false z.2) ((W.alloc (.cells #[.map (some m)] 51)).alloc (.cells #[.slice a n c] 28)) ((hN.keep (HB1.out.mono hB)).mono (Nat.le_trans hB HB1.out.size)) (fun W2 y h2 => by
      have h9 := missClo_any m j W.heap.size us (y.i : Int) y.x (by have := hv.short y.x (at_mem y.at'); unfold maxLen; omega) W2 (hS1.below h2 hS1.lt) ((h2.cell (p := ⟨W.heap.size, 0, none⟩) hq).trans c0)
      have e9 : inB us false y.val.2 = !decide (y.x ∈ us) := by
        show (decide (y.x ∈ us) == false) = _
        simp
      show Calls _ _ _ _ (fun e W' => e = .returned (.bool (inB us false y.val.2)) ∧ _)
      rw [e9]
      exact h9))
    have e : those (wordsOf t) us false = ((pls t ps t.length).filter (fun z => inB us false z.2)).map Prod.snd := by
      unfold those
      rw [wordsOf_eq hv, ← pls_all hv, List.filter_map]
      rfl
    rw [← e] at this
    exact this)
  obtain ⟨xs, hxs⟩ : ∃ xs, those (wordsOf t) us false = xs := ⟨_, rfl⟩
  rw [hxs] at cW ⊢
  clear hxs hS hN
  go_enter Try.func43, Try.ntmps43
  go_wp2_with fail
  refine cW.out.mono ?_
  rintro e w2 ⟨v2, rfl, hO2, hb2⟩
  have HO2 := Lib.hid (own_down hO2 HB1.out.size)
  have HB2 := Lib.hid (HB1.out.trans (hb2.mono HB1.out.size))
  clear hO2 hb2
  go_wp2_with fail
  go_ret
  exact ⟨_, rfl, HO2.out, HB2.out⟩

set_option maxRecDepth 1000000 in
set_option maxHeartbeats 4000000 in
theorem implWithoutTrie_any (a : Option Addr) (n c : Nat) (t : List Nd) (b : Option Addr) (k d : Nat) (u : List Nd) (W : World) (hN : Nds W.heap.size W a n c t) (hM : Nds W.heap.size W b k d u) :
    Calls Try.prog 17 #[.agg #[.slice a n c], .agg #[.slice b k d]] W (TrieRes W (resT (trieB t && trieB u) (withL t u)) (resK (trieB t && trieB u) (withL t u))) := by
  have G1 := Lib.hid (Gv2R.start hN hM)
  have cT := Lib.hid (fun (W' : World) (G : Gv2R W W' a n c t b k d u) => areTries_any W.heap.size a n c t b k d u W' G.size G.gv.nds G.gv.mds)
  obtain ⟨r, hr⟩ : ∃ r, (trieB t && trieB u) = r := ⟨_, rfl⟩
  have HR := Lib.hid hr
  rw [hr] at cT ⊢
  have HSh : Hid (∀ x ∈ withL t u, x.length ≤ 9223372036854775807) := Lib.hid (fun x hx => by have := wordsOf_short t x (those_sub hx); omega)
  have cFi : Hid (IsT u → ∀ (W' : World) (m : Nat), Gv2R W W' a n c t b k d u → W.heap.size ≤ m → SetIs W' m 0 [] → Calls Try.prog 36 #[.map (some m), .agg #[.slice b k d]] W' fun e w' => e = .returned (.map (some m)) ∧ (∃ j, SetIs w' m j (wordsOf u)) ∧ W'.grownBy w' (some m)) := Lib.hid (fun hu W' m G hm hS => by
    obtain ⟨ps, hv⟩ := hu
    have := (callsIn_wide (n := 5)).1 (fill_in 5 (by omega) m 0 W.heap.size [] b k d u ps hv W' hm hS G.gv.mds)
    rw [← wordsOf_eq hv] at this
    exact this)
  have cWw : Hid (IsT t → ∀ (W' : World) (m j : Nat), Gv2R W W' a n c t b k d u → SetIs W' m j (wordsOf u) → Calls Try.prog 43 #[.map (some m), .agg #[.slice a n c]] W' fun e w' => ∃ v, e = .returned v ∧ w'.ownsRow W'.heap.size 9 1 v (withL t u).length ((withL t u).map fun x => Value.string (bx x)) ∧ Below W'.heap.size W' w') := Lib.hid (fun ht W' m j G hS => missing_any m j (wordsOf u) W.heap.size a n c t ht W' G.size G.gv.nds hS)
  obtain ⟨us, hus⟩ : ∃ us, wordsOf u = us := ⟨_, rfl⟩
  obtain ⟨xs, hxs⟩ : ∃ xs, withL t u = xs := ⟨_, rfl⟩
  rw [hus] at cFi cWw
  rw [hxs] at HSh cWw ⊢
  obtain ⟨tt, htt⟩ : ∃ tt, resT r xs = tt := ⟨_, rfl⟩
  obtain ⟨ok, hok⟩ : ∃ ok, resK r xs = ok := ⟨_, rfl⟩
  rw [htt, hok]
  have HTT := Lib.hid htt
  have HOK := Lib.hid hok
  clear hN hM hr hus hxs htt hok
  obtain ⟨hbx, hby⟩ := G1.out.see
  have hmm := @run_makeMap Try.prog
  go_enter Try.func17, Try.ntmps17
  go_wp2_with fail
  refine (cT.out _ G1.out).mono ?_
  rintro e w2 ⟨rfl, hb2⟩
  have G2 := Lib.hid (G1.out.on hb2)
  clear hbx hby hb2
  obtain ⟨hbx, hby⟩ := G2.out.see
  cases r with
  | false =>
    obtain rfl : tt = [] := HTT.out.symm
    obtain rfl : ok = false := HOK.out.symm
    have hrc := G2.out.res.cell
    have hrf := G2.out.res.frozen
    go_wp2_with fail
    exact bodyPost_ret (v := .tuple #[.agg #[.slice none 0 0], .bool false]) (by simp [results, Try.results17, go_sem, hrc]) rfl G2.out.ownNo
  | true =>
    have HIt : Hid (IsT t ∧ IsT u) := Lib.hid (by
      have := HR.out
      rw [Bool.and_eq_true] at this
      exact ⟨trieB_iff.1 this.1, trieB_iff.1 this.2⟩)
    have hs2 : W.heap.size ≤ w2.heap.size := G2.out.size
    have HGd : Hid (Gv2R W w2.drew a n c t b k d u) := Lib.hid (G2.out.on (Below.refl _ _).drew)
    have HB3 : Hid (Below w2.heap.size w2 (w2.alloc (.map #[] 0)).drew) := Lib.hid ((Below.refl _ _).alloc (Nat.le_refl _) _).drew
    have HGm : Hid (Gv2R W (w2.alloc (.map #[] 0)).drew a n c t b k d u) := Lib.hid (G2.out.on HB3.out)
    have cF := Lib.hid (cFi.out HIt.out.2 (w2.alloc (.map #[] 0)).drew w2.heap.size HGm.out hs2 ((SetIs.made w2).kept rfl))
    have cM : Hid (∀ (W' W'' : World) (v : Value), W''.ownsRow W'.heap.size 9 1 v xs.length (xs.map fun x => Value.string (bx x)) → Calls Try.prog 37 #[v] W'' (TrieRes W'' tt ok)) := Lib.hid (fun W' W'' v hO => by
      obtain ⟨a6, c6, rfl, hW6⟩ := own_wds hO HSh.out
      rw [← HTT.out, ← HOK.out, (resT_yes xs).1, (resT_yes xs).2]
      exact implTrieOf_any W''.heap.size a6 _ c6 xs W'' (Nat.le_refl _) hW6)
    clear hs2
    go_wp2_with fail
    go_region_held3 (fun w' => w'.cell? ⟨W.heap.size, 0, none⟩ = some (.slice a n c) ∧ w'.cell? ⟨W.heap.size + 1, 0, none⟩ = some (.slice b k d))
      (first
        | with_reducible exact (hG7.gv.set _).see
        | with_reducible exact hG7.see
        | with_reducible exact hG6.see
        | with_reducible exact hG4.see
        | with_reducible exact HGm.out.see
        | with_reducible exact HGd.out.see)
      (first
        | (go_at_call 36; refine cF.out.mono ?_; rintro e w4 ⟨rfl, ⟨j, hS4⟩, hg4⟩; have hG4 := G2.out.on (HB3.out.trans (gb_below hg4 HB3.out.size (Nat.le_refl _))); clear hg4)
        | (go_at_call 43; refine (cWw.out HIt.out.1 _ _ _ hG4 hS4).mono ?_; rintro e w6 ⟨v6, rfl, hO6, hb6⟩; have hG6 := hG4.on hb6; clear hb6)
        | (go_at_call 37; refine (cM.out _ _ _ (by exact hO6)).mono ?_; rintro e w7 ⟨v7, rfl, hO7, hb7⟩; obtain ⟨a7, c7, rfl⟩ := own_slice hO7; have hG7 := hG6.on hb7; have hrc := hG7.res.cell; have hrf := hG7.res.frozen))
    go_wp2
    exact bodyPost_ret (v := .tuple #[.agg #[.slice a7 tt.length c7], .bool ok]) (by simp [results, Try.results17, go_sem, hrc]) rfl (hG7.own hO7 hG6.size)

theorem agreeWithoutTrie (t u : List Nd) (n k : Nat) (hn : n ≤ 1048576) (hk : k ≤ 1048576) : ∃ (tt : List Nd) (ok : Bool), Fits tt ∧ tt.length ≤ 481 ∧
    (∀ (W : World) (a b : Option Addr), Nds W.heap.size W a n n t → Nds W.heap.size W b k k u → Calls Try.prog 16 #[.agg #[.slice a n n], .agg #[.slice b k k]] W (ReadRes W tt ok)) ∧
    (∀ (W : World) (a b : Option Addr), Nds W.heap.size W a n n t → Nds W.heap.size W b k k u → Calls Try.prog 17 #[.agg #[.slice a n n], .agg #[.slice b k k]] W (TrieRes W tt ok)) :=
  ⟨_, _, resT_fits _ _, resT_len _ _, fun W a b hN hM => specWithoutTrie_any a n n t b k k u W hN hM hn hk, fun W a b hN hM => implWithoutTrie_any a n n t b k k u W hN hM⟩

end Go.Proofs.Ytpneflbnipefaac
