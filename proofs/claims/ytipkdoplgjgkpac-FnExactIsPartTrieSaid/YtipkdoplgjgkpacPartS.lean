/-
  Whether a trie has all words of another: the reference.
-/
import Derived.Test.YtipkdoplgjgkpacGv2
import Derived.Test.YtipkdoplgjgkpacWithL
import Derived.Deep.RegionHeld3
namespace Go.Proofs.Ytipkdoplgjgkpac
open Go.RowKit
set_option linter.unusedVariables false

set_option maxRecDepth 1000000 in
set_option maxHeartbeats 4000000 in
theorem specIsPartTrie_any (a : Option Addr) (n c : Nat) (t : List Nd) (b : Option Addr) (k d : Nat) (u : List Nd) (v : Bool) (r : Bool) (hr : (trieB t && trieB u) = r) (hv : (r = false → v = false) ∧ (r = true → (((withL t u).length : Int) == 0) = v)) (W : World) (hN : Nds W.heap.size W a n c t) (hM : Nds W.heap.size W b k d u) (hn : n ≤ 1048576) (hk : k ≤ 1048576) :
    Calls Try.prog 11 #[.agg #[.slice a n c], .agg #[.slice b k d]] W fun e w' => e = .returned (.tuple #[.bool v, .bool r]) ∧ Below W.heap.size W w' := by
  have G1 := Lib.hid (Gv2.start hN hM)
  have cT := Lib.hid (fun (W' : World) (G : Gv2 W W' a n c t b k d u) => l5Two_any W.heap.size a n c t b k d u W' G.size G.nds G.mds hn hk)
  have cA := Lib.hid (fun (W' : World) (G : Gv2 W W' a n c t b k d u) (ht : IsT t) => l2Words_ownW W.heap.size a n c t W' G.size G.nds hn ht)
  have cB := Lib.hid (fun (W' : World) (G : Gv2 W W' a n c t b k d u) (ht : IsT u) => l2Words_ownW W.heap.size b k d u W' G.size G.mds hk ht)
  have h40 := wordsOf_size t
  have h41 := wordsOf_size u
  have HR := Lib.hid hr
  have HVV := Lib.hid hv
  rw [hr] at cT
  have HSh1 : Hid (∀ x ∈ wordsOf t, x.length ≤ 9223372036854775807) := Lib.hid (fun x hx => by have := wordsOf_short t x hx; omega)
  have HSh3 : Hid (∀ x ∈ wordsOf t, x.length ≤ 1048576) := Lib.hid (fun x hx => by have := wordsOf_short t x hx; omega)
  have HSh2 : Hid (∀ x ∈ wordsOf u, x.length ≤ 9223372036854775807) := Lib.hid (fun x hx => by have := wordsOf_short u x hx; omega)
  have HSh4 : Hid (∀ x ∈ wordsOf u, x.length ≤ 1048576) := Lib.hid (fun x hx => by have := wordsOf_short u x hx; omega)
  have HDef : Hid (those (wordsOf t) (wordsOf u) false = withL t u) := Lib.hid rfl
  have HDef2 : Hid (those (wordsOf u) (wordsOf t) false = withL u t) := Lib.hid rfl
  clear hN hM hr hv
  obtain ⟨ws, hws⟩ : ∃ ws, wordsOf t = ws := ⟨_, rfl⟩
  obtain ⟨us, hus⟩ : ∃ us, wordsOf u = us := ⟨_, rfl⟩
  obtain ⟨xs, hxs⟩ : ∃ xs, withL t u = xs := ⟨_, rfl⟩
  obtain ⟨ys, hys⟩ : ∃ xs, withL u t = xs := ⟨_, rfl⟩
  rw [hws] at cA h40 HDef HDef2 HSh1 HSh3
  rw [hus] at cB h41 HDef HDef2 HSh2 HSh4
  rw [hxs] at HDef HVV
  rw [hys] at HDef2
  obtain ⟨m1, hm1⟩ : ∃ m, ws.length = m := ⟨_, rfl⟩
  obtain ⟨m2, hm2⟩ : ∃ m, us.length = m := ⟨_, rfl⟩
  obtain ⟨m3, hm3⟩ : ∃ m, xs.length = m := ⟨_, rfl⟩
  obtain ⟨m4, hm4⟩ : ∃ m, ys.length = m := ⟨_, rfl⟩
  rw [hm1] at cA h40
  rw [hm2] at cB h41
  rw [hm3] at HVV
  skip
  have HL1 := Lib.hid hm1
  have HL2 := Lib.hid hm2
  have HL3 := Lib.hid hm3
  have HL4 := Lib.hid hm4
  clear hws hus hxs hys hm1 hm2 hm3 hm4
  obtain ⟨hbx, hby⟩ := G1.out.see
  obtain ⟨i0, hii, hz0, hz1, hz2⟩ := info_parts infoS
  go_enter Try.func11, Try.ntmps11
  go_wp2_with fail
  refine (cT.out _ G1.out).mono ?_
  rintro e w2 ⟨rfl, hb2⟩
  have G2 := Lib.hid (G1.out.on hb2)
  clear hbx hby hb2
  obtain ⟨hbx, hby⟩ := G2.out.see
  cases r with
  | false =>
    obtain rfl := HVV.out.1 rfl
    go_wp2_with fail
    go_ret2
    exact ⟨rfl, G2.out.bel⟩
  | true =>
    have HIt : Hid (IsT t ∧ IsT u) := Lib.hid (by
      have := HR.out
      rw [Bool.and_eq_true] at this
      exact ⟨trieB_iff.1 this.1, trieB_iff.1 this.2⟩)
    have hm3 : m3 ≤ 1000 := by have := those_len ws us false; rw [HDef.out] at this; have h1 := HL1.out; have h2 := HL3.out; omega
    have hm4 : m4 ≤ 1000 := by have := those_len us ws false; rw [HDef2.out] at this; have h1 := HL2.out; have h2 := HL4.out; omega
    have cTh : Hid (∀ (W' : World) (a3 a4 : Option Addr) (c3 c4 : Nat), Wds W'.heap.size W' a3 m1 c3 ws → Wds W'.heap.size W' a4 m2 c4 us → Calls Try.prog 34 #[.slice a3 m1 c3, .slice a4 m2 c4, .bool false] W' fun e w' => ∃ a' c', e = .returned (.slice a' m3 c') ∧ Below W'.heap.size W' w') := Lib.hid (fun W' a3 a4 c3 c4 h3 h4 => by
      have := l5Those_any W'.heap.size a3 m1 c3 a4 m2 c4 false ws us W' (Nat.le_refl _) h3 h4 (by omega) HSh3.out
      rw [HDef.out, HL3.out] at this
      exact this.mono (fun e w' ⟨x1, x2, x3, x4, x5⟩ => ⟨x1, x2, x3, x5⟩))
    have cTh2 : Hid (∀ (W' : World) (a3 a4 : Option Addr) (c3 c4 : Nat), Wds W'.heap.size W' a3 m1 c3 ws → Wds W'.heap.size W' a4 m2 c4 us → Calls Try.prog 34 #[.slice a4 m2 c4, .slice a3 m1 c3, .bool false] W' fun e w' => ∃ a' c', e = .returned (.slice a' m4 c') ∧ Below W'.heap.size W' w') := Lib.hid (fun W' a3 a4 c3 c4 h3 h4 => by
      have := l5Those_any W'.heap.size a4 m2 c4 a3 m1 c3 false us ws W' (Nat.le_refl _) h4 h3 (by omega) HSh4.out
      rw [HDef2.out, HL4.out] at this
      exact this.mono (fun e w' ⟨x1, x2, x3, x4, x5⟩ => ⟨x1, x2, x3, x5⟩))
    have HGd : Hid (Gv2 W w2.drew a n c t b k d u) := Lib.hid (G2.out.on (Below.refl _ _).drew)
    have hvv := HVV.out.2 rfl
    go_wp2_with fail
    go_region_held3 (fun w' => w'.cell? ⟨W.heap.size, 0, none⟩ = some (.slice a n c) ∧ w'.cell? ⟨W.heap.size + 1, 0, none⟩ = some (.slice b k d))
      (first
        | with_reducible exact hG5.see
        | with_reducible exact hG4.see
        | with_reducible exact hG3.see
        | with_reducible exact HGd.out.see)
      (first
        | (have hg := hG3; clear hg; go_at_call 35; refine (cB.out _ hG3 HIt.out.2).mono ?_; rintro e w4 ⟨v4, rfl, hO4, hb4⟩; have hG4 := hG3.on hb4; obtain ⟨a4, c4, rfl, hW4⟩ := own_wds hO4 HSh2.out; have hW34 := (hW3.keep hb4).mono hb4.size; clear hb4 hO4)
        | (go_at_call 35; refine (cA.out _ HGd.out HIt.out.1).mono ?_; rintro e w3 ⟨v3, rfl, hO3, hb3⟩; have hG3 := HGd.out.on hb3; obtain ⟨a3, c3, rfl, hW3⟩ := own_wds hO3 HSh1.out; clear hb3 hO3)
        | (go_at_call 34; refine (cTh.out _ _ _ _ _ hW34 hW4).mono ?_; rintro e w5 ⟨a5, c5, rfl, hb5⟩; have hG5 := hG4.on hb5; clear hb5))
    go_wp2
    go_ret2
    exact ⟨rfl, hG5.bel⟩

end Go.Proofs.Ytipkdoplgjgkpac
