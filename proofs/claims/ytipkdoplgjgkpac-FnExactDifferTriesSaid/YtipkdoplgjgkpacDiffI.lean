/-
  How many words just one of two tries has: the program.
-/
import Derived.Test.YtipkdoplgjgkpacGv2
import Derived.Test.YtipkdoplgjgkpacDiffS
import Derived.Test.YtipkdoplgjgkpacMiss
import Derived.IntWalk
import Derived.Deep.RegionHeld3
namespace Go.Proofs.Ytipkdoplgjgkpac
open Go.RowKit
set_option linter.unusedVariables false

set_option maxRecDepth 1000000 in
set_option maxHeartbeats 4000000 in
theorem implDifferTries_any (a : Option Addr) (n c : Nat) (t : List Nd) (b : Option Addr) (k d : Nat) (u : List Nd) (v : Int) (r : Bool) (hr : (trieB t && trieB u) = r) (hv : (r = false → v = 0) ∧ (r = true → v = ((withL t u).length : Int) + ((withL u t).length : Int))) (W : World) (hN : Nds W.heap.size W a n c t) (hM : Nds W.heap.size W b k d u) :
    Calls Try.prog 16 #[.agg #[.slice a n c], .agg #[.slice b k d]] W fun e w' => e = .returned (.tuple #[.int .i64 v, .bool r]) ∧ Below W.heap.size W w' := by
  have G1 := Lib.hid (Gv2.start hN hM)
  have cT := Lib.hid (fun (W' : World) (G : Gv2 W W' a n c t b k d u) => areTries_any W.heap.size a n c t b k d u W' G.size G.nds G.mds)
  have HR := Lib.hid hr
  have HVV := Lib.hid hv
  have cF1 : Hid (IsT u → ∀ (w2 W' : World) (q : Nat) (ws : List Txt), Gv2 W w2 a n c t b k d u → Below w2.heap.size w2 W' → SetIs W' w2.heap.size q ws → Calls Try.prog 38 #[.map (some w2.heap.size), .agg #[.slice b k d]] W' fun e w' => e = .returned (.map (some w2.heap.size)) ∧ (∃ j, SetIs w' w2.heap.size j (wordsOf u)) ∧ Below w2.heap.size w2 w') := Lib.hid (fun hu w2 W' q ws G hb hS => by
    obtain ⟨ps, hv⟩ := hu
    have := (callsIn_wide (n := 5)).1 (fill_in 5 (by omega) w2.heap.size q W.heap.size ws b k d u ps hv W' G.size hS (G.on hb).mds)
    rw [← wordsOf_eq hv] at this
    exact this.mono (fun e w' ⟨h1, h2, h3⟩ => ⟨h1, h2, hb.trans (gb_below h3 hb.size (Nat.le_refl _))⟩))
  have cF2 : Hid (IsT t → ∀ (w2 W' : World) (q : Nat) (ws : List Txt), Gv2 W w2 a n c t b k d u → Below w2.heap.size w2 W' → SetIs W' w2.heap.size q ws → Calls Try.prog 38 #[.map (some w2.heap.size), .agg #[.slice a n c]] W' fun e w' => e = .returned (.map (some w2.heap.size)) ∧ (∃ j, SetIs w' w2.heap.size j (wordsOf t)) ∧ Below w2.heap.size w2 w') := Lib.hid (fun hu w2 W' q ws G hb hS => by
    obtain ⟨ps, hv⟩ := hu
    have := (callsIn_wide (n := 5)).1 (fill_in 5 (by omega) w2.heap.size q W.heap.size ws a n c t ps hv W' G.size hS (G.on hb).nds)
    rw [← wordsOf_eq hv] at this
    exact this.mono (fun e w' ⟨h1, h2, h3⟩ => ⟨h1, h2, hb.trans (gb_below h3 hb.size (Nat.le_refl _))⟩))
  have cM1 : Hid (IsT t → ∀ (w2 W' : World) (j : Nat), Gv2 W w2 a n c t b k d u → Below w2.heap.size w2 W' → SetIs W' w2.heap.size j (wordsOf u) → Calls Try.prog 41 #[.map (some w2.heap.size), .agg #[.slice a n c]] W' fun e w' => ∃ a' c', e = .returned (.slice a' (withL t u).length c') ∧ Below w2.heap.size w2 w' ∧ SetIs w' w2.heap.size j (wordsOf u)) := Lib.hid (fun ht w2 W' j G hb hS => (missing_any w2.heap.size j (wordsOf u) W.heap.size a n c t ht W' (G.on hb).size (G.on hb).nds hS).mono (fun e w' ⟨v, h1, h2, h3⟩ => by
    obtain ⟨a', c', rfl⟩ := own_slice h2
    exact ⟨a', c', h1, hb.trans (h3.mono hb.size), hS.below h3 hS.lt⟩))
  have cM2 : Hid (IsT u → ∀ (w2 W' : World) (j : Nat), Gv2 W w2 a n c t b k d u → Below w2.heap.size w2 W' → SetIs W' w2.heap.size j (wordsOf t) → Calls Try.prog 41 #[.map (some w2.heap.size), .agg #[.slice b k d]] W' fun e w' => ∃ a' c', e = .returned (.slice a' (withL u t).length c') ∧ Below w2.heap.size w2 w' ∧ SetIs w' w2.heap.size j (wordsOf t)) := Lib.hid (fun ht w2 W' j G hb hS => (missing_any w2.heap.size j (wordsOf t) W.heap.size b k d u ht W' (G.on hb).size (G.on hb).mds hS).mono (fun e w' ⟨v, h1, h2, h3⟩ => by
    obtain ⟨a', c', rfl⟩ := own_slice h2
    exact ⟨a', c', h1, hb.trans (h3.mono hb.size), hS.below h3 hS.lt⟩))
  have hm3 : (withL t u).length ≤ 1000 := by have h1 := those_len (wordsOf t) (wordsOf u) false; have h2 := wordsOf_size t; unfold withL; omega
  have hm4 : (withL u t).length ≤ 1000 := by have h1 := those_len (wordsOf u) (wordsOf t) false; have h2 := wordsOf_size u; unfold withL; omega
  rw [hr] at cT
  obtain ⟨ts, hts⟩ : ∃ ws, wordsOf t = ws := ⟨_, rfl⟩
  obtain ⟨us, hus⟩ : ∃ us, wordsOf u = us := ⟨_, rfl⟩
  obtain ⟨m3, h3⟩ : ∃ m, (withL t u).length = m := ⟨_, rfl⟩
  obtain ⟨m4, h4⟩ : ∃ m, (withL u t).length = m := ⟨_, rfl⟩
  rw [hts] at cF2 cM2
  rw [hus] at cF1 cM1
  rw [h3] at cM1 HVV hm3
  rw [h4] at cM2 HVV hm4
  clear hN hM hr hv hts hus h3 h4
  obtain ⟨hbx, hby⟩ := G1.out.see
  have hmm := @run_makeMap Try.prog
  go_enter Try.func16, Try.ntmps16
  go_wp2_with fail
  refine (cT.out _ G1.out).mono ?_
  rintro e w2 ⟨rfl, hb2⟩
  have G2 := Lib.hid (G1.out.on hb2)
  clear hbx hby hb2
  obtain ⟨hbx, hby⟩ := G2.out.see
  cases r with
  | false =>
    obtain rfl := HVV.out.1 rfl
    go_wp2_with fail
    go_ret2
    exact ⟨rfl, G2.out.bel⟩
  | true =>
    obtain rfl := HVV.out.2 rfl
    have HIt : Hid (IsT t ∧ IsT u) := Lib.hid (by
      have := HR.out
      rw [Bool.and_eq_true] at this
      exact ⟨trieB_iff.1 this.1, trieB_iff.1 this.2⟩)
    have HSee : Hid (∀ W', Below w2.heap.size w2 W' → W'.cell? ⟨W.heap.size, 0, none⟩ = some (.slice a n c) ∧ W'.cell? ⟨W.heap.size + 1, 0, none⟩ = some (.slice b k d)) := Lib.hid (fun W' hb => (G2.out.on hb).see)
    have cF1' := Lib.hid (fun W' q ws hb hS => cF1.out HIt.out.2 w2 W' q ws G2.out hb hS)
    have cF2' := Lib.hid (fun W' q ws hb hS => cF2.out HIt.out.1 w2 W' q ws G2.out hb hS)
    have cM1' := Lib.hid (fun W' j hb hS => cM1.out HIt.out.1 w2 W' j G2.out hb hS)
    have cM2' := Lib.hid (fun W' j hb hS => cM2.out HIt.out.2 w2 W' j G2.out hb hS)
    have HB3 : Hid (Below w2.heap.size w2 (w2.alloc (.map #[] 0))) := Lib.hid ((Below.refl _ _).alloc (Nat.le_refl _) _)
    have HS3 : Hid (SetIs (w2.alloc (.map #[] 0)) w2.heap.size 0 []) := Lib.hid (SetIs.made w2)
    have HEnd : Hid (∀ w', Below w2.heap.size w2 w' → Below W.heap.size W w') := Lib.hid (fun w' hb => (G2.out.on hb).bel)
    have hw1 : IntKind.i64.wrap ((m3 : Int) + (m4 : Int)) = (m3 : Int) + (m4 : Int) := IntWalk.i64_in _ (by omega)
    clear cF1 cF2 cM1 cM2 cT hbx hby G1
    go_wp2_with fail
    obtain ⟨m, hm⟩ : ∃ m, w2.heap.size = m := ⟨_, rfl⟩
    obtain ⟨w3, hw3⟩ : ∃ w3, w2.alloc (.map #[] 0) = w3 := ⟨_, rfl⟩
    rw [hm] at HSee cF1' cF2' cM1' cM2' HB3 HS3 HEnd ⊢
    rw [hw3] at HB3 HS3 ⊢
    clear hm hw3
    have HBd : Hid (Below m w2 w3.drew) := Lib.hid HB3.out.drew
    have HSd : Hid (SetIs w3.drew m 0 []) := Lib.hid (HS3.out.kept rfl)
    obtain ⟨hbx, hby⟩ := HSee.out _ HBd.out
    go_region_held3 (fun w' => w'.cell? ⟨W.heap.size, 0, none⟩ = some (.slice a n c) ∧ w'.cell? ⟨W.heap.size + 1, 0, none⟩ = some (.slice b k d))
      (first
        | with_reducible exact HSee.out _ hb6
        | with_reducible exact HSee.out _ hb4
        | with_reducible exact HSee.out _ HBd.out)
      (first
        | (go_at_call 38; refine (cF1'.out _ _ _ HBd.out HSd.out).mono ?_; rintro e w4 ⟨rfl, ⟨j4, hS4⟩, hb4⟩)
        | (go_at_call 41; refine (cM1'.out _ _ hb4 hS4).mono ?_; rintro e w6 ⟨a6, c6, rfl, hb6, hS6⟩))
    have HB6 := Lib.hid hb6
    have HS6 := Lib.hid hS6
    clear hb4 hS4 hb6 hS6 hbx hby HBd HSd
    go_wp2_with fail
    have HBd : Hid (Below m w2 w6.drew) := Lib.hid HB6.out.drew
    have HSd : Hid (SetIs w6.drew m j4 us) := Lib.hid (HS6.out.kept rfl)
    obtain ⟨hbx, hby⟩ := HSee.out _ HBd.out
    go_region_held3 (fun w' => w'.cell? ⟨W.heap.size, 0, none⟩ = some (.slice a n c) ∧ w'.cell? ⟨W.heap.size + 1, 0, none⟩ = some (.slice b k d))
      (first
        | with_reducible exact HSee.out _ hb8
        | with_reducible exact HSee.out _ hb7
        | with_reducible exact HSee.out _ HBd.out)
      (first
        | (go_at_call 38; refine (cF2'.out _ _ _ HBd.out HSd.out).mono ?_; rintro e w7 ⟨rfl, ⟨j7, hS7⟩, hb7⟩)
        | (go_at_call 41; refine (cM2'.out _ _ hb7 hS7).mono ?_; rintro e w8 ⟨a8, c8, rfl, hb8, hS8⟩))
    go_wp2
    go_ret2
    exact ⟨rfl, HEnd.out _ hb8⟩

theorem agreeDifferTries (t u : List Nd) (n k : Nat) (hn : n ≤ 1048576) (hk : k ≤ 1048576) : ∃ (v : Int) (ok : Bool),
    (∀ (W : World) (a b : Option Addr), Nds W.heap.size W a n n t → Nds W.heap.size W b k k u → Calls Try.prog 15 #[.agg #[.slice a n n], .agg #[.slice b k k]] W fun e w' => e = .returned (.tuple #[.int .i64 v, .bool ok]) ∧ Below W.heap.size W w') ∧
    (∀ (W : World) (a b : Option Addr), Nds W.heap.size W a n n t → Nds W.heap.size W b k k u → Calls Try.prog 16 #[.agg #[.slice a n n], .agg #[.slice b k k]] W fun e w' => e = .returned (.tuple #[.int .i64 v, .bool ok]) ∧ Below W.heap.size W w') := by
  have hv : ((trieB t && trieB u) = false → (if (trieB t && trieB u) = true then ((withL t u).length : Int) + ((withL u t).length : Int) else 0) = 0) ∧ ((trieB t && trieB u) = true → (if (trieB t && trieB u) = true then ((withL t u).length : Int) + ((withL u t).length : Int) else 0) = ((withL t u).length : Int) + ((withL u t).length : Int)) := ⟨fun h => by rw [h]; rfl, fun h => if_pos h⟩
  exact ⟨_, _, fun W a b hN hM => specDifferTries_any a n n t b k k u _ _ rfl hv W hN hM hn hk, fun W a b hN hM => implDifferTries_any a n n t b k k u _ _ rfl hv W hN hM⟩

end Go.Proofs.Ytipkdoplgjgkpac
