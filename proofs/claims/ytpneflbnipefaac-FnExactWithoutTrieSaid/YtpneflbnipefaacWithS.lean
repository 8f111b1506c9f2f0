/-
  The words of two tries that the other has not: the reference.
-/
import Derived.Test.YtpneflbnipefaacGv2
import Derived.Test.YtpneflbnipefaacThose
namespace Go.Proofs.Ytpneflbnipefaac
open Go.RowKit
set_option linter.unusedVariables false

noncomputable def withL (t u : List Nd) : List Txt := those (wordsOf t) (wordsOf u) false

set_option maxRecDepth 1000000 in
set_option maxHeartbeats 2000000 in
theorem specWithoutTrie_any (a : Option Addr) (n c : Nat) (t : List Nd) (b : Option Addr) (k d : Nat) (u : List Nd) (W : World) (hN : Nds W.heap.size W a n c t) (hM : Nds W.heap.size W b k d u) (hn : n ≤ 1048576) (hk : k ≤ 1048576) :
    Calls Try.prog 16 #[.agg #[.slice a n c], .agg #[.slice b k d]] W (ReadRes W (resT (trieB t && trieB u) (withL t u)) (resK (trieB t && trieB u) (withL t u))) := by
  have G1 := Lib.hid (Gv2R.start hN hM)
  have cT := Lib.hid (fun (W' : World) (G : Gv2R W W' a n c t b k d u) => l5Two_any W.heap.size a n c t b k d u W' G.size G.gv.nds G.gv.mds hn hk)
  have cA := Lib.hid (fun (W' : World) (G : Gv2R W W' a n c t b k d u) (ht : IsT t) => l2Words_ownW W.heap.size a n c t W' G.size G.gv.nds hn ht)
  have cB := Lib.hid (fun (W' : World) (G : Gv2R W W' a n c t b k d u) (ht : IsT u) => l2Words_ownW W.heap.size b k d u W' G.size G.gv.mds hk ht)
  have h40 := wordsOf_size t
  have h41 := wordsOf_size u
  obtain ⟨r, hr⟩ : ∃ r, (trieB t && trieB u) = r := ⟨_, rfl⟩
  have HR := Lib.hid hr
  rw [hr] at cT ⊢
  have HSh1 : Hid (∀ x ∈ wordsOf t, x.length ≤ 9223372036854775807) := Lib.hid (fun x hx => by have := wordsOf_short t x hx; omega)
  have HSh3 : Hid (∀ x ∈ wordsOf t, x.length ≤ 1048576) := Lib.hid (fun x hx => by have := wordsOf_short t x hx; omega)
  have HSh2 : Hid (∀ x ∈ wordsOf u, x.length ≤ 9223372036854775807) := Lib.hid (fun x hx => by have := wordsOf_short u x hx; omega)
  have HDef : Hid (those (wordsOf t) (wordsOf u) false = withL t u) := Lib.hid rfl
  obtain ⟨ws, hws⟩ : ∃ ws, wordsOf t = ws := ⟨_, rfl⟩
  obtain ⟨us, hus⟩ : ∃ us, wordsOf u = us := ⟨_, rfl⟩
  obtain ⟨xs, hxs⟩ : ∃ xs, withL t u = xs := ⟨_, rfl⟩
  rw [hws] at cA h40 HDef HSh1 HSh3
  rw [hus] at cB h41 HDef HSh2
  rw [hxs] at HDef ⊢
  obtain ⟨m1, hm1⟩ : ∃ m, ws.length = m := ⟨_, rfl⟩
  obtain ⟨m2, hm2⟩ : ∃ m, us.length = m := ⟨_, rfl⟩
  rw [hm1] at cA h40
  rw [hm2] at cB h41
  obtain ⟨tt, htt⟩ : ∃ tt, resT r xs = tt := ⟨_, rfl⟩
  obtain ⟨ok, hok⟩ : ∃ ok, resK r xs = ok := ⟨_, rfl⟩
  rw [htt, hok]
  have HTT := Lib.hid htt
  have HOK := Lib.hid hok
  have HL1 := Lib.hid hm1
  have HL2 := Lib.hid hm2
  clear hN hM hr hws hus hxs htt hok hm1 hm2
  obtain ⟨hbx, hby⟩ := G1.out.see
  obtain ⟨i0, hii, hz0, hz1, hz2⟩ := info_parts infoS
  go_enter Try.func16, Try.ntmps16
  go_wp2_with fail
  refine (cT.out _ G1.out).mono ?_
  rintro e w2 ⟨rfl, hb2⟩
  have G2 := Lib.hid (G1.out.on hb2)
  clear hbx hby hb2
  obtain ⟨hbx, hby⟩ := G2.out.see
  cases r with
  | false =>
    obtain rfl : tt = [] := HTT.out.symm
    obtain rfl : ok = false := HOK.out.symm
    have hrc := G2.out.res.cell
    have hrf := G2.out.res.frozen
    go_wp2_with fail
    exact bodyPost_ret (v := .tuple #[.agg #[.slice none 0 0], .bool false]) (by simp [results, Try.results16, go_sem, hrc]) rfl G2.out.readNo
  | true =>
    have HIt : Hid (IsT t ∧ IsT u) := Lib.hid (by
      have := HR.out
      rw [Bool.and_eq_true] at this
      exact ⟨trieB_iff.1 this.1, trieB_iff.1 this.2⟩)
    have HLx : Hid (xs.length ≤ 1000) := Lib.hid (by have := those_len ws us false; rw [HDef.out] at this; have := HL1.out; omega)
    have cTh : Hid (∀ (W' : World) (a3 a4 : Option Addr) (c3 c4 : Nat), Wds W'.heap.size W' a3 m1 c3 ws → Wds W'.heap.size W' a4 m2 c4 us → Calls Try.prog 32 #[.slice a3 m1 c3, .slice a4 m2 c4, .bool false] W' fun e w' => ∃ a' c', e = .returned (.slice a' xs.length c') ∧ Wds w'.heap.size w' a' xs.length c' xs ∧ Below W'.heap.size W' w') := Lib.hid (fun W' a3 a4 c3 c4 h3 h4 => by
      have := l5Those_any W'.heap.size a3 m1 c3 a4 m2 c4 false ws us W' (Nat.le_refl _) h3 h4 (by omega) HSh3.out
      rw [HDef.out] at this
      exact this)
    have cM : Hid (∀ (W' : World) (a5 : Option Addr) (c5 : Nat), Wds W'.heap.size W' a5 xs.length c5 xs → Calls Try.prog 31 #[.slice a5 xs.length c5] W' (ReadRes W' tt ok)) := Lib.hid (fun W' a5 c5 h5 => by
      rw [← HTT.out, ← HOK.out, (resT_yes xs).1, (resT_yes xs).2]
      exact l5Made_any W'.heap.size a5 _ c5 xs W' (Nat.le_refl _) h5 (by have := HLx.out; omega))
    have HGd : Hid (Gv2R W w2.drew a n c t b k d u) := Lib.hid (G2.out.on (Below.refl _ _).drew)
    go_wp2_with fail
    go_region_held3 (fun w' => w'.cell? ⟨W.heap.size, 0, none⟩ = some (.slice a n c) ∧ w'.cell? ⟨W.heap.size + 1, 0, none⟩ = some (.slice b k d))
      (first
        | with_reducible exact (hG6.gv.set _).see
        | with_reducible exact hG6.see
        | with_reducible exact hG5.see
        | with_reducible exact hG4.see
        | with_reducible exact hG3.see
        | with_reducible exact HGd.out.see)
      (first
        | (have hg := hG3; clear hg; go_at_call 33; refine (cB.out _ hG3 HIt.out.2).mono ?_; rintro e w4 ⟨v4, rfl, hO4, hb4⟩; have hG4 := hG3.on hb4; obtain ⟨a4, c4, rfl, hW4⟩ := own_wds hO4 HSh2.out; have hW34 := (hW3.keep hb4).mono hb4.size; clear hb4 hO4)
        | (go_at_call 33; refine (cA.out _ HGd.out HIt.out.1).mono ?_; rintro e w3 ⟨v3, rfl, hO3, hb3⟩; have hG3 := HGd.out.on hb3; obtain ⟨a3, c3, rfl, hW3⟩ := own_wds hO3 HSh1.out; clear hb3 hO3)
        | (go_at_call 32; refine (cTh.out _ _ _ _ _ hW34 hW4).mono ?_; rintro e w5 ⟨a5, c5, rfl, hW5, hb5⟩; have hG5 := hG4.on hb5; clear hb5)
        | (go_at_call 31; refine (cM.out _ _ _ (by exact hW5)).mono ?_; rintro e w6 ⟨a6, c6, rfl, hN6, hb6⟩; have hG6 := hG5.on hb6; have hrc := hG6.res.cell; have hrf := hG6.res.frozen))
    go_wp2
    exact bodyPost_ret (v := .tuple #[.agg #[.slice a6 tt.length c6], .bool ok]) (by simp [results, Try.results16, go_sem, hrc]) rfl (hG6.read hN6)


end Go.Proofs.Ytpneflbnipefaac
