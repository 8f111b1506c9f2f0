/-
  The words of two tries that both have: the program.
-/
import Derived.Test.YtpneflbnipefaacGv2
import Derived.Test.YtpneflbnipefaacMeetS
import Derived.Test.YtpneflbnipefaacMeetClo
import Derived.Test.YtpneflbnipefaacWwMeet
import Derived.Test.YtpneflbnipefaacImplTrieOf
namespace Go.Proofs.Ytpneflbnipefaac
open Go.RowKit
set_option linter.unusedVariables false

set_option maxRecDepth 1000000 in
set_option maxHeartbeats 4000000 in
theorem implMeetTries_any (a : Option Addr) (n c : Nat) (t : List Nd) (b : Option Addr) (k d : Nat) (u : List Nd) (W : World) (hN : Nds W.heap.size W a n c t) (hM : Nds W.heap.size W b k d u) :
    Calls Try.prog 12 #[.agg #[.slice a n c], .agg #[.slice b k d]] W (TrieRes W (resT (trieB t && trieB u) (meetL t u)) (resK (trieB t && trieB u) (meetL t u))) := by
  have G1 := Lib.hid (Gv2R.start hN hM)
  have cT := Lib.hid (fun (W' : World) (G : Gv2R W W' a n c t b k d u) => areTries_any W.heap.size a n c t b k d u W' G.size G.gv.nds G.gv.mds)
  obtain ⟨r, hr⟩ : ∃ r, (trieB t && trieB u) = r := ⟨_, rfl⟩
  have HR := Lib.hid hr
  rw [hr] at cT ⊢
  have HSh : Hid (∀ x ∈ meetL t u, x.length ≤ 9223372036854775807) := Lib.hid (fun x hx => by have := wordsOf_short t x (those_sub hx); omega)
  have cFi : Hid (IsT u → ∀ (W' : World) (m : Nat), Gv2R W W' a n c t b k d u → W.heap.size ≤ m → SetIs W' m 0 [] → Calls Try.prog 36 #[.map (some m), .agg #[.slice b k d]] W' fun e w' => e = .returned (.map (some m)) ∧ (∃ j, SetIs w' m j (wordsOf u)) ∧ W'.grownBy w' (some m)) := Lib.hid (fun hu W' m G hm hS => by
    obtain ⟨ps, hv⟩ := hu
    have := (callsIn_wide (n := 5)).1 (fill_in 5 (by omega) m 0 W.heap.size [] b k d u ps hv W' hm hS G.gv.mds)
    rw [← wordsOf_eq hv] at this
    exact this)
  have cWw : Hid (IsT t → ∀ (W' : World) (m j q0 : Nat), Gv2R W W' a n c t b k d u → SetIs W' m j (wordsOf u) → W'.cell? ⟨q0, 0, none⟩ = some (.map (some m)) → Calls Try.prog 38 #[.agg #[.slice a n c], .func (.func 39) #[] #[.pointer (some ⟨q0, 0, none⟩)]] W' fun e w' => ∃ v, e = .returned v ∧ w'.ownsRow W'.heap.size 9 1 v (meetL t u).length ((meetL t u).map fun x => Value.string (bx x)) ∧ Below W'.heap.size W' w') := Lib.hid (fun ht W' m j q0 G hS hbx => by
    obtain ⟨ps, hv⟩ := ht
    have hq := World.block_lt_of_cell? _ _ hbx
    have := (callsIn_wide (n := 5)).1 (wwMeet.where_in 5 (by omega) a n c q0 t ps hv (fun z => inB (wordsOf u) true z.2) W' (G.gv.nds.mono G.size) (fun W2 y h2 => by
      have h9 := meetClo_any m j q0 (wordsOf u) (y.i : Int) y.x (by have := hv.short y.x (at_mem y.at'); unfold maxLen; omega) W2 (hS.below h2 hS.lt) ((h2.cell (p := ⟨q0, 0, none⟩) hq).trans hbx)
      have e9 : inB (wordsOf u) true y.val.2 = decide (y.x ∈ wordsOf u) := by
        show (decide (y.x ∈ wordsOf u) == true) = _
        simp
      show Calls _ _ _ _ (fun e W' => e = .returned (.bool (inB (wordsOf u) true y.val.2)) ∧ _)
      rw [e9]
      exact h9))
    have e : meetL t u = ((pls t ps t.length).filter (fun z => inB (wordsOf u) true z.2)).map Prod.snd := by
      unfold meetL those
      rw [wordsOf_eq hv, ← pls_all hv, List.filter_map]
      rfl
    rw [← e] at this
    exact this)
  obtain ⟨us, hus⟩ : ∃ us, wordsOf u = us := ⟨_, rfl⟩
  obtain ⟨xs, hxs⟩ : ∃ xs, meetL t u = xs := ⟨_, rfl⟩
  rw [hus] at cFi cWw
  rw [hxs] at HSh cWw ⊢
  obtain ⟨tt, htt⟩ : ∃ tt, resT r xs = tt := ⟨_, rfl⟩
  obtain ⟨ok, hok⟩ : ∃ ok, resK r xs = ok := ⟨_, rfl⟩
  rw [htt, hok]
  have HTT := Lib.hid htt
  have HOK := Lib.hid hok
  clear hN hM hr hus hxs htt hok
  obtain ⟨hbx, hby⟩ := G1.out.see
  have hmm := @run_makeMap Try.prog
  go_enter Try.func12, Try.ntmps12
  go_wp2_with fail
  refine (cT.out _ G1.out).mono ?_
  rintro e w2 ⟨rfl, hb2⟩
  have G2 := Lib.hid (G1.out.on hb2)
  clear hbx hby hb2
  obtain ⟨hbx, hby⟩ := G2.out.see
  cases r with
  | false =>
    obtain rfl : tt = [] := HTT.out.symm
    obtain rfl : ok = false := HOK.out.symm
    have hrc := G2.out.res.cell
    have hrf := G2.out.res.frozen
    go_wp2_with fail
    exact bodyPost_ret (v := .tuple #[.agg #[.slice none 0 0], .bool false]) (by simp [results, Try.results12, go_sem, hrc]) rfl G2.out.ownNo
  | true =>
    have HIt : Hid (IsT t ∧ IsT u) := Lib.hid (by
      have := HR.out
      rw [Bool.and_eq_true] at this
      exact ⟨trieB_iff.1 this.1, trieB_iff.1 this.2⟩)
    have hs2 : W.heap.size ≤ w2.heap.size := G2.out.size
    have HB3 : Hid (Below w2.heap.size w2 (w2.alloc (.map #[] 0))) := Lib.hid ((Below.refl _ _).alloc (Nat.le_refl _) _)
    have G3 := Lib.hid (G2.out.on HB3.out)
    have hby3 := (G3.out.see).2
    have cF := Lib.hid (cFi.out HIt.out.2 _ w2.heap.size G3.out hs2 (SetIs.made w2))
    go_wp2_with fail
    refine cF.out.mono ?_
    rintro e w4 ⟨rfl, ⟨j, hS4⟩, hg4⟩
    have HB4 := Lib.hid (HB3.out.trans (gb_below hg4 HB3.out.size (Nat.le_refl _)))
    have G4 := Lib.hid (G2.out.on HB4.out)
    have HS4 := Lib.hid hS4
    have hlt4 := hS4.lt
    obtain ⟨hbx4, hby4⟩ := G4.out.see
    clear hg4 hS4 hbx hby hby3 cF
    have HB5 : Hid (Below w4.heap.size w4 (w4.alloc (.cells #[.map (some w2.heap.size)] 51))) := Lib.hid ((Below.refl _ _).alloc (Nat.le_refl _) _)
    have G5 := Lib.hid (G4.out.on HB5.out)
    have hbx5 := (G5.out.see).1
    have hq5 : (w4.alloc (.cells #[.map (some w2.heap.size)] 51)).cell? ⟨w4.heap.size, 0, none⟩ = some (.map (some w2.heap.size)) := (cellNew w4 _ _).1
    have cW := Lib.hid (cWw.out HIt.out.1 _ w2.heap.size j w4.heap.size G5.out (HS4.out.below HB5.out hlt4) hq5)
    clear hbx4 hby4
    go_wp2_with fail
    refine cW.out.mono ?_
    rintro e w6 ⟨v6, rfl, hO6, hb6⟩
    have G6 := Lib.hid (G5.out.on hb6)
    have cM : Hid (Calls Try.prog 37 #[v6] w6 (TrieRes w6 tt ok)) := Lib.hid (by
      obtain ⟨a6, c6, rfl, hW6⟩ := own_wds hO6 HSh.out
      rw [← HTT.out, ← HOK.out, (resT_yes xs).1, (resT_yes xs).2]
      exact implTrieOf_any w6.heap.size a6 _ c6 xs w6 (Nat.le_refl _) hW6)
    clear hO6 hb6 hbx5 hq5 cW
    go_wp2_with fail
    refine cM.out.mono ?_
    rintro e w7 ⟨v7, rfl, hO7, hb7⟩
    obtain ⟨a7, c7, rfl⟩ := own_slice hO7
    have G7 := Lib.hid (G6.out.on hb7)
    have HO7 := Lib.hid hO7
    clear hO7 hb7
    have hrc := G7.out.res.cell
    have hrf := G7.out.res.frozen
    go_wp2_with fail
    exact bodyPost_ret (v := .tuple #[.agg #[.slice a7 tt.length c7], .bool ok]) (by simp [results, Try.results12, go_sem, hrc]) rfl (G7.out.own HO7.out G6.out.size)

theorem agreeMeetTries (t u : List Nd) (n k : Nat) (hn : n ≤ 1048576) (hk : k ≤ 1048576) : ∃ (tt : List Nd) (ok : Bool), Fits tt ∧ tt.length ≤ 481 ∧
    (∀ (W : World) (a b : Option Addr), Nds W.heap.size W a n n t → Nds W.heap.size W b k k u → Calls Try.prog 10 #[.agg #[.slice a n n], .agg #[.slice b k k]] W (ReadRes W tt ok)) ∧
    (∀ (W : World) (a b : Option Addr), Nds W.heap.size W a n n t → Nds W.heap.size W b k k u → Calls Try.prog 12 #[.agg #[.slice a n n], .agg #[.slice b k k]] W (TrieRes W tt ok)) :=
  ⟨_, _, resT_fits _ _, resT_len _ _, fun W a b hN hM => specMeetTries_any a n n t b k k u W hN hM hn hk, fun W a b hN hM => implMeetTries_any a n n t b k k u W hN hM⟩

end Go.Proofs.Ytpneflbnipefaac
