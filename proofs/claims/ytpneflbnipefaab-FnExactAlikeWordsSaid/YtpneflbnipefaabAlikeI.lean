/-
  All words of a trie that are alike: the program, and both together.
-/
import Derived.Test.YtpneflbnipefaabAlike
import Derived.Deep.RegionHeld3
namespace Go.Proofs.Ytpneflbnipefaab.cap
open Go.RowKit
set_option linter.unusedVariables false

theorem isFar_any (z : Int) (w : World) : Calls Try.prog 39 #[.int .i64 z] w fun e w' => e = .returned (.bool (farB z)) ∧ w = w' := by
  by_cases h1 : 0 ≤ z
  · by_cases h2 : z ≤ 3
    · have hf : farB z = true := by unfold farB; rw [decide_eq_true_eq]; omega
      rw [hf]
      clear hf
      go_enter Try.func39, Try.ntmps39
      go_wp2
      go_ret
      exact ⟨ret_bool (by first | (simp; done) | (simp; omega)), rfl⟩
    · have hf : farB z = false := by unfold farB; rw [decide_eq_false_iff_not]; omega
      rw [hf]
      clear hf
      go_enter Try.func39, Try.ntmps39
      go_wp2
      go_ret
      exact ⟨ret_bool (by first | (simp; done) | (simp; omega)), rfl⟩
  · have hf : farB z = false := by unfold farB; rw [decide_eq_false_iff_not]; omega
    rw [hf]
    clear hf
    go_enter Try.func39, Try.ntmps39
    go_wp2
    go_ret
    exact ⟨ret_bool (by first | (simp; done) | (simp; omega)), rfl⟩

set_option maxRecDepth 1000000 in
set_option maxHeartbeats 2000000 in
theorem alkClo_any (q0 q1 : Nat) (s x : ByteArray) (z : Int) (i : Int) (w : World) (hx : okW x = true) (h0 : w.cell? ⟨q0, 0, none⟩ = some (.string s)) (h1 : w.cell? ⟨q1, 0, none⟩ = some (.int .i64 z)) (hs : s.size ≤ 1048576) :
    Calls Try.prog 41 #[.int .i64 i, .string x, .pointer (some ⟨q0, 0, none⟩), .pointer (some ⟨q1, 0, none⟩)] w fun e w' => e = .returned (.bool (decide (x.size = s.size ∧ ((dif x.data.toList s.data.toList x.size : Nat) : Int) ≤ z))) ∧ Below w.heap.size w w' := by
  have hx12 := okW_size hx
  have hxl : ∀ k (h : k < x.size), (x[k]'h).toNat < 128 := fun k hk => by have := okW_low_at hx hk; omega
  by_cases hle : x.size = s.size
  · have cD := Lib.hid (fun w => difference_any x s w hle hx12 hxl)
    have ht1 := eq_same hle
    obtain ⟨d, hd⟩ : ∃ d, dif x.data.toList s.data.toList x.size = d := ⟨_, rfl⟩
    rw [hd] at cD
    have hres : decide (x.size = s.size ∧ ((dif x.data.toList s.data.toList x.size : Nat) : Int) ≤ z) = decide ((d : Int) ≤ z) := by rw [hd]; simp [hle]
    rw [hres]
    clear hres hd hle hx hxl
    go_enter Try.func41, Try.ntmps41
    go_wp2_with fail
    go_region_held3 (fun w' => w'.cell? ⟨q0, 0, none⟩ = some (.string s) ∧ w'.cell? ⟨q1, 0, none⟩ = some (.int .i64 z))
      (first | exact ⟨h0, h1⟩ | exact hk4)
      ((go_at_call 42; refine (cD.out _).mono ?_; rintro e w4 ⟨rfl, hb4⟩; have hk4 : w4.cell? ⟨q0, 0, none⟩ = some (.string s) ∧ w4.cell? ⟨q1, 0, none⟩ = some (.int .i64 z) := ⟨(hb4.cell (p := ⟨q0, 0, none⟩) (World.block_lt_of_cell? _ _ h0)).trans h0, (hb4.cell (p := ⟨q1, 0, none⟩) (World.block_lt_of_cell? _ _ h1)).trans h1⟩))
    all_goals
      have HB4 : Hid (Below w.heap.size w w4) := Lib.hid (by first | exact hb4 | exact (Below.refl _ _).drew.trans hb4 | exact hb4.drew | exact (Below.refl _ _).drew.trans hb4.drew)
      go_wp2_with fail
      go_ret
      exact ⟨ret_bool (by first | rfl | (simp; done) | (simp; omega)), by first | exact HB4.out | exact HB4.out.drew⟩
  · have ht1 := eq_diff hle
    have hres : decide (x.size = s.size ∧ ((dif x.data.toList s.data.toList x.size : Nat) : Int) ≤ z) = false := by simp [hle]
    rw [hres]
    clear hres hle hx hxl
    go_enter Try.func41, Try.ntmps41
    go_wp2_with fail
    go_quiet (fail)
    go_wp2_with fail
    go_ret
    exact ⟨rfl, below_drewN (Below.refl _ _) _⟩

set_option maxRecDepth 1000000 in
set_option maxHeartbeats 2000000 in
theorem implAlk (t : List Nd) (n c : Nat) (s : ByteArray) (z : Int) (hn : n ≤ 1048576) (hs : s.size ≤ 1048576) (xs : List Txt) (ok : Bool) (hok : ok = (trieB t && okW s && farB z)) (hy : ok = true → xs = alkL t s z) (hno : ok = false → xs = []) (W : World) (a : Option Addr) (hN : Nds W.heap.size W a n c t) :
    Calls Try.prog 12 #[.agg #[.slice a n c], .string s, .int .i64 z] W (ownS.OwnTexts W xs ok) := by
  have G1 := Lib.hid (Gv.start hN)
  have cT := Lib.hid (fun W w a (G : Gv W w a n c t) => isTrie_any W.heap.size a n c t w G.bel.size G.nds)
  have cP := Lib.hid (fun w => implIsWord_any s w (by omega))
  have cF := Lib.hid (fun w => isFar_any z w)
  have HOk := Lib.hid hok
  have HY := Lib.hid hy
  have HNo := Lib.hid hno
  have hbp0 := (cellNew (W.alloc (.cells #[.slice a n c] 31)) (.string s) 9).1
  have hbp := cellOld (.cells #[.int .i64 z] 3) hbp0
  have hbq := (cellNew ((W.alloc (.cells #[.slice a n c] 31)).alloc (.cells #[.string s] 9)) (.int .i64 z) 3).1
  simp only [World.size_alloc] at hbp hbq
  have G1' : Hid (Gv W (((W.alloc (.cells #[.slice a n c] 31)).alloc (.cells #[.string s] 9)).alloc (.cells #[.int .i64 z] 3)) a n c t) := Lib.hid (G1.out.on (((Below.refl _ _).alloc (Nat.le_refl _) _).alloc (by simp) _))
  have hsz1 : (((W.alloc (.cells #[.slice a n c] 31)).alloc (.cells #[.string s] 9)).alloc (.cells #[.int .i64 z] 3)).heap.size = W.heap.size + 3 := by simp
  have HBP : Hid (∀ W', Below (((W.alloc (.cells #[.slice a n c] 31)).alloc (.cells #[.string s] 9)).alloc (.cells #[.int .i64 z] 3)).heap.size (((W.alloc (.cells #[.slice a n c] 31)).alloc (.cells #[.string s] 9)).alloc (.cells #[.int .i64 z] 3)) W' → W'.cell? ⟨W.heap.size + 1, 0, none⟩ = some (.string s) ∧ W'.cell? ⟨W.heap.size + 1 + 1, 0, none⟩ = some (.int .i64 z)) := Lib.hid (fun W' h => ⟨(h.cell (p := ⟨W.heap.size + 1, 0, none⟩) (by rw [hsz1]; show W.heap.size + 1 < W.heap.size + 3; omega)).trans hbp, (h.cell (p := ⟨W.heap.size + 1 + 1, 0, none⟩) (by rw [hsz1]; show W.heap.size + 1 + 1 < W.heap.size + 3; omega)).trans hbq⟩)
  have hbx := G1'.out.box
  obtain ⟨W1, hW1⟩ : ∃ W1, (((W.alloc (.cells #[.slice a n c] 31)).alloc (.cells #[.string s] 9)).alloc (.cells #[.int .i64 z] 3)) = W1 := ⟨_, rfl⟩
  have HW1 := Lib.hid hW1
  rw [hW1] at G1' HBP
  obtain ⟨q1, hq1⟩ : ∃ q1, trieB t = q1 := ⟨_, rfl⟩
  obtain ⟨q2, hq2⟩ : ∃ q2, okW s = q2 := ⟨_, rfl⟩
  obtain ⟨q3, hq3⟩ : ∃ q3, farB z = q3 := ⟨_, rfl⟩
  have HQ := Lib.hid hq1
  rw [hq1] at cT HOk
  rw [hq2] at cP HOk
  rw [hq3] at cF HOk
  clear hq1 hq2 hq3 hN hok hy hno hsz1 hW1 hbp0
  cases q1 with
  | false =>
    go_enter Try.func12, Try.ntmps12
    go_wp2_with fail
    rw [HW1.out]
    refine (cT.out _ _ _ G1'.out).mono ?_
    rintro e w2 ⟨rfl, hb2⟩
    have G2 := Lib.hid (G1'.out.on hb2)
    clear hb2 hbx hbp hbq
    go_wp2_with fail
    go_ret2
    have e1 := HNo.out (by rw [HOk.out]; rfl)
    exact ⟨_, by rw [HOk.out]; rfl, by rw [e1]; exact World.ownsRow_nil _ _ _ _, G2.out.bel⟩
  | true =>
    cases q2 with
    | false =>
      go_enter Try.func12, Try.ntmps12
      go_wp2_with fail
      rw [HW1.out]
      refine (cT.out _ _ _ G1'.out).mono ?_
      rintro e w2 ⟨rfl, hb2⟩
      have G2 := Lib.hid (G1'.out.on hb2)
      have hbp2 := (HBP.out w2 hb2).1
      clear hb2 hbx hbp hbq
      go_wp2_with fail
      refine (cP.out _).mono ?_
      rintro e w3 ⟨rfl, hb3⟩
      have G3 := Lib.hid (G2.out.on hb3)
      clear hb3 hbp2
      go_wp2_with fail
      go_ret2
      have e1 := HNo.out (by rw [HOk.out]; rfl)
      exact ⟨_, by rw [HOk.out]; rfl, by rw [e1]; exact World.ownsRow_nil _ _ _ _, G3.out.bel⟩
    | true =>
     cases q3 with
     | false =>
      go_enter Try.func12, Try.ntmps12
      go_wp2_with fail
      rw [HW1.out]
      refine (cT.out _ _ _ G1'.out).mono ?_
      rintro e w2 ⟨rfl, hb2⟩
      have G2 := Lib.hid (G1'.out.on hb2)
      have hbp2 := (HBP.out w2 hb2).1
      have HB2 := Lib.hid hb2
      clear hb2 hbx hbp hbq
      go_wp2_with fail
      refine (cP.out _).mono ?_
      rintro e w3 ⟨rfl, hb3⟩
      have G3 := Lib.hid (G2.out.on hb3)
      have hbq3 := (HBP.out w3 (HB2.out.trans (hb3.mono HB2.out.size))).2
      clear hb3 hbp2
      go_wp2_with fail
      refine (cF.out _).mono ?_
      rintro e w4 ⟨rfl, rfl⟩
      go_wp2_with fail
      go_ret2
      have e1 := HNo.out (by rw [HOk.out]; rfl)
      exact ⟨_, by rw [HOk.out]; rfl, by rw [e1]; exact World.ownsRow_nil _ _ _ _, G3.out.bel⟩
     | true =>
      have HXs := Lib.hid (HY.out (by rw [HOk.out]; rfl))
      clear HY HNo
      have cW : Hid (∀ (W' : World), Below W1.heap.size W1 W' → Gv W W' a n c t → Calls Try.prog 40 #[.agg #[.slice a n c], .func (.func 41) #[] #[.pointer (some ⟨W.heap.size + 1, 0, none⟩), .pointer (some ⟨W.heap.size + 1 + 1, 0, none⟩)]] W' fun e w' => ∃ v, e = .returned v ∧ w'.ownsRow W'.heap.size 9 1 v xs.length (xs.map fun x => Value.string (bx x)) ∧ Below W'.heap.size W' w') := Lib.hid (fun W' h' G => by
        obtain ⟨ps, hv⟩ := trieB_iff.1 HQ.out
        have := (callsIn_wide (n := 5)).1 (wwAlikeWords.where_in 5 (by omega) a n c (W.heap.size + 1) (W.heap.size + 1 + 1) t ps hv (fun q => alkB s z q.2) W' (G.nds.mono G.bel.size) (fun W2 y h2 => by
          have hyw : okW (bx y.x) = true := okW_iff.2 (by
            obtain ⟨d, hd, he⟩ := y.en
            exact hv.isW y.x (at_mem y.at'))
          have hcc := HBP.out W2 (h'.trans (h2.mono h'.size))
          have h9 := alkClo_any (W.heap.size + 1) (W.heap.size + 1 + 1) s (bx y.x) z (y.i : Int) W2 hyw hcc.1 hcc.2 hs
          have e7 : decide ((bx y.x).size = s.size ∧ ((dif (bx y.x).data.toList s.data.toList (bx y.x).size : Nat) : Int) ≤ z) = alkB s z y.x := by rw [bx_size]; rfl
          rw [e7] at h9
          exact h9))
        have e : xs = ((pls t ps t.length).filter (fun q => alkB s z q.2)).map Prod.snd := by
          rw [HXs.out]
          unfold alkL
          rw [wordsOf_eq hv, ← pls_all hv, List.filter_map]
          rfl
        rw [← e] at this
        exact this)
      go_enter Try.func12, Try.ntmps12
      go_wp2_with fail
      rw [HW1.out]
      refine (cT.out _ _ _ G1'.out).mono ?_
      rintro e w2 ⟨rfl, hb2⟩
      have G2 := Lib.hid (G1'.out.on hb2)
      have hbp2 := (HBP.out w2 hb2).1
      have HB2 := Lib.hid hb2
      clear hb2 hbx hbp hbq
      go_wp2_with fail
      refine (cP.out _).mono ?_
      rintro e w3 ⟨rfl, hb3⟩
      have G3 := Lib.hid (G2.out.on hb3)
      have HB3 := Lib.hid (HB2.out.trans (hb3.mono HB2.out.size))
      have hbq3 := (HBP.out w3 HB3.out).2
      have hbx3 := G3.out.box
      clear hb3 hbp2
      go_wp2_with fail
      refine (cF.out _).mono ?_
      rintro e w4 ⟨rfl, rfl⟩
      go_wp2_with fail
      refine (cW.out _ HB3.out G3.out).mono ?_
      rintro e w5 ⟨v5, rfl, hO5, hb5⟩
      have G5 := Lib.hid (G3.out.on hb5)
      have HO5 := Lib.hid (own_down hO5 G3.out.bel.size)
      clear hO5 hb5 hbx3 hbq3
      go_wp2_with fail
      go_ret2
      exact ⟨_, by rw [HOk.out]; rfl, HO5.out, G5.out.bel⟩

theorem alkL_facts (t : List Nd) (s : ByteArray) (z : Int) : (alkL t s z).length ≤ 1000 ∧ ∀ x ∈ alkL t s z, x.length ≤ 9223372036854775807 := by
  unfold alkL
  refine ⟨?_, fun x hx => ?_⟩
  · have h1 := List.length_filter_le (alkB s z) (wordsOf t)
    have h2 := wordsOf_size t
    omega
  · have := wordsOf_short t x (List.mem_filter.1 hx).1
    omega

theorem agreeAlikeWords (t : List Nd) (n c : Nat) (s : ByteArray) (z : Int) (hn : n ≤ 1048576) (hs : s.size ≤ 1048576) : ∃ (xs : List Txt) (ok : Bool), xs.length ≤ 1000 ∧ (∀ x ∈ xs, x.length ≤ 9223372036854775807) ∧
    (∀ (W : World) (a : Option Addr), Nds W.heap.size W a n c t → Calls Try.prog 10 #[.agg #[.slice a n c], .string s, .int .i64 z] W fun e w' => ownS.OwnTexts W xs ok e w') ∧
    (∀ (W : World) (a : Option Addr), Nds W.heap.size W a n c t → Calls Try.prog 12 #[.agg #[.slice a n c], .string s, .int .i64 z] W fun e w' => ownS.OwnTexts W xs ok e w') := by
  obtain ⟨ok, hok⟩ : ∃ ok, (trieB t && okW s && farB z) = ok := ⟨_, rfl⟩
  have hx : ∃ xs : List Txt, xs.length ≤ 1000 ∧ (∀ x ∈ xs, x.length ≤ 9223372036854775807) ∧ (ok = true → xs = alkL t s z) ∧ (ok = false → xs = []) := by
    cases ok with
    | false => exact ⟨[], by simp, (fun x h => by cases h), (fun h => by cases h), fun _ => rfl⟩
    | true => exact ⟨alkL t s z, (alkL_facts t s z).1, (alkL_facts t s z).2, fun _ => rfl, (fun h => by cases h)⟩
  obtain ⟨xs, h1, h2, hy, hno⟩ := hx
  exact ⟨xs, ok, h1, h2, fun W a hN => specAlk t n c s z hn hs xs ok hok.symm hy hno W a hN, fun W a hN => implAlk t n c s z hn hs xs ok hok.symm hy hno W a hN⟩

end Go.Proofs.Ytpneflbnipefaab.cap
