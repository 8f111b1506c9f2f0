/-
  All words of a trie that a pattern fits: the program, and both together.
-/
import Derived.Test.YtpneflbnipefaabFitW
namespace Go.Proofs.Ytpneflbnipefaab.cap
open Go.RowKit
set_option linter.unusedVariables false

set_option maxHeartbeats 1000000 in
theorem fitClo_any (q0 : Nat) (p s : ByteArray) (i : Int) (w : World) (hp : okG p = true) (hs : okW s = true) (hbx : w.cell? ⟨q0, 0, none⟩ = some (.string p)) :
    Calls Try.prog 50 #[.int .i64 i, .string s, .pointer (some ⟨q0, 0, none⟩)] w fun e w' => e = .returned (.bool (fit p.data.toList s.data.toList p.size s.size)) ∧ Below w.heap.size w w' := by
  have cF := Lib.hid (fits_any p s w (okG_size hp) (okW_size hs) (fun k hk => by have := okG_sg hp hk; unfold Sg at this; omega) (fun k hk => by have := okW_low_at hs hk; omega))
  obtain ⟨v, hv⟩ : ∃ v, fit p.data.toList s.data.toList p.size s.size = v := ⟨_, rfl⟩
  rw [hv] at cF ⊢
  clear hv hp hs
  go_enter Try.func50, Try.ntmps50
  go_wp2_with fail
  refine cF.out.mono ?_
  rintro e w2 ⟨rfl, hb2⟩
  have HB2 := Lib.hid hb2
  clear hb2 hbx
  go_wp2_with fail
  go_ret
  exact ⟨rfl, HB2.out⟩

set_option maxRecDepth 1000000 in
set_option maxHeartbeats 2000000 in
theorem implFitW (t : List Nd) (n c : Nat) (p : ByteArray) (hn : n ≤ 1048576) (hp : p.size ≤ 1048576) (xs : List Txt) (ok : Bool) (hok : ok = (trieB t && okG p)) (hy : ok = true → xs = fitL t p) (hno : ok = false → xs = []) (W : World) (a : Option Addr) (hN : Nds W.heap.size W a n c t) :
    Calls Try.prog 19 #[.agg #[.slice a n c], .string p] W (ownS.OwnTexts W xs ok) := by
  have G1 := Lib.hid (Gv.start hN)
  have cT := Lib.hid (fun W w a (G : Gv W w a n c t) => isTrie_any W.heap.size a n c t w G.bel.size G.nds)
  have cP := Lib.hid (fun w => implIsPattern_any p w (by omega))
  have HOk := Lib.hid hok
  have HY := Lib.hid hy
  have HNo := Lib.hid hno
  have hbp := (cellNew (W.alloc (.cells #[.slice a n c] 31)) (.string p) 9).1
  rw [World.size_alloc] at hbp
  have G1' : Hid (Gv W ((W.alloc (.cells #[.slice a n c] 31)).alloc (.cells #[.string p] 9)) a n c t) := Lib.hid (G1.out.on ((Below.refl _ _).alloc (Nat.le_refl _) _))
  have hsz1 : ((W.alloc (.cells #[.slice a n c] 31)).alloc (.cells #[.string p] 9)).heap.size = W.heap.size + 2 := by simp
  have HSz := Lib.hid hsz1
  have HBP : Hid (∀ W', Below ((W.alloc (.cells #[.slice a n c] 31)).alloc (.cells #[.string p] 9)).heap.size ((W.alloc (.cells #[.slice a n c] 31)).alloc (.cells #[.string p] 9)) W' → W'.cell? ⟨W.heap.size + 1, 0, none⟩ = some (.string p)) := Lib.hid (fun W' h => (h.cell (p := ⟨W.heap.size + 1, 0, none⟩) (by rw [hsz1]; show W.heap.size + 1 < W.heap.size + 2; omega)).trans hbp)
  have hbx := G1'.out.box
  obtain ⟨W1, hW1⟩ : ∃ W1, (W.alloc (.cells #[.slice a n c] 31)).alloc (.cells #[.string p] 9) = W1 := ⟨_, rfl⟩
  have HW1 := Lib.hid hW1
  rw [hW1] at G1' HBP HSz
  obtain ⟨q1, hq1⟩ : ∃ q1, trieB t = q1 := ⟨_, rfl⟩
  obtain ⟨q2, hq2⟩ : ∃ q2, okG p = q2 := ⟨_, rfl⟩
  have HQ := Lib.hid hq1
  have HQ2 := Lib.hid hq2
  rw [hq1] at cT HOk
  rw [hq2] at cP HOk
  clear hq1 hq2 hN hok hy hno hsz1 hW1
  cases q1 with
  | false =>
    go_enter Try.func19, Try.ntmps19
    go_wp2_with fail
    rw [HW1.out]
    refine (cT.out _ _ _ G1'.out).mono ?_
    rintro e w2 ⟨rfl, hb2⟩
    have G2 := Lib.hid (G1'.out.on hb2)
    clear hb2 hbx hbp
    go_wp2_with fail
    go_ret2
    have e1 := HNo.out HOk.out
    exact ⟨_, by rw [HOk.out]; rfl, by rw [e1]; exact World.ownsRow_nil _ _ _ _, G2.out.bel⟩
  | true =>
    cases q2 with
    | false =>
      go_enter Try.func19, Try.ntmps19
      go_wp2_with fail
      rw [HW1.out]
      refine (cT.out _ _ _ G1'.out).mono ?_
      rintro e w2 ⟨rfl, hb2⟩
      have G2 := Lib.hid (G1'.out.on hb2)
      have hbp2 := HBP.out w2 hb2
      clear hb2 hbx hbp
      go_wp2_with fail
      refine (cP.out _).mono ?_
      rintro e w3 ⟨rfl, hb3⟩
      have G3 := Lib.hid (G2.out.on hb3)
      clear hb3 hbp2
      go_wp2_with fail
      go_ret2
      have e1 := HNo.out HOk.out
      exact ⟨_, by rw [HOk.out]; rfl, by rw [e1]; exact World.ownsRow_nil _ _ _ _, G3.out.bel⟩
    | true =>
      have HXs := Lib.hid (HY.out HOk.out)
      clear HY HNo
      have cW : Hid (∀ (W' : World), Below W1.heap.size W1 W' → Gv W W' a n c t → Calls Try.prog 40 #[.agg #[.slice a n c], .func (.func 50) #[] #[.pointer (some ⟨W.heap.size + 1, 0, none⟩)]] W' fun e w' => ∃ v, e = .returned v ∧ w'.ownsRow W'.heap.size 9 1 v xs.length (xs.map fun x => Value.string (bx x)) ∧ Below W'.heap.size W' w') := Lib.hid (fun W' h' G => by
        obtain ⟨ps, hv⟩ := trieB_iff.1 HQ.out
        have := (callsIn_wide (n := 5)).1 (wwFittingWords.where_in 5 (by omega) a n c (W.heap.size + 1) t ps hv (fun q => fitB p q.2) W' (G.nds.mono G.bel.size) (fun W2 y h2 => by
          have hyw : okW (bx y.x) = true := okW_iff.2 (by
            obtain ⟨d, hd, he⟩ := y.en
            exact hv.isW y.x (at_mem y.at'))
          have h9 := fitClo_any (W.heap.size + 1) p (bx y.x) (y.i : Int) W2 HQ2.out hyw (HBP.out W2 (h'.trans (h2.mono h'.size)))
          have e7 : fit p.data.toList (bx y.x).data.toList p.size (bx y.x).size = fitB p y.x := by unfold fitB; rw [bx_size]; rfl
          rw [e7] at h9
          exact h9))
        have e : xs = ((pls t ps t.length).filter (fun q => fitB p q.2)).map Prod.snd := by
          rw [HXs.out]
          unfold fitL
          rw [wordsOf_eq hv, ← pls_all hv, List.filter_map]
          rfl
        rw [← e] at this
        exact this)
      go_enter Try.func19, Try.ntmps19
      go_wp2_with fail
      rw [HW1.out]
      refine (cT.out _ _ _ G1'.out).mono ?_
      rintro e w2 ⟨rfl, hb2⟩
      have G2 := Lib.hid (G1'.out.on hb2)
      have hbp2 := HBP.out w2 hb2
      have HB2 := Lib.hid hb2
      clear hb2 hbx hbp
      go_wp2_with fail
      refine (cP.out _).mono ?_
      rintro e w3 ⟨rfl, hb3⟩
      have G3 := Lib.hid (G2.out.on hb3)
      have HB3 := Lib.hid (HB2.out.trans (hb3.mono HB2.out.size))
      have hbx3 := G3.out.box
      clear hb3 hbp2
      go_wp2_with fail
      refine (cW.out _ HB3.out G3.out).mono ?_
      rintro e w5 ⟨v5, rfl, hO5, hb5⟩
      have G5 := Lib.hid (G3.out.on hb5)
      have HO5 := Lib.hid (own_down hO5 G3.out.bel.size)
      clear hO5 hb5 hbx3
      go_wp2_with fail
      go_ret2
      exact ⟨_, by rw [HOk.out]; rfl, HO5.out, G5.out.bel⟩

theorem fitL_facts (t : List Nd) (p : ByteArray) : (fitL t p).length ≤ 1000 ∧ ∀ x ∈ fitL t p, x.length ≤ 9223372036854775807 := by
  unfold fitL
  refine ⟨?_, fun x hx => ?_⟩
  · have h1 := List.length_filter_le (fitB p) (wordsOf t)
    have h2 := wordsOf_size t
    omega
  · have := wordsOf_short t x (List.mem_filter.1 hx).1
    omega

theorem agreeFittingWords (t : List Nd) (n c : Nat) (p : ByteArray) (hn : n ≤ 1048576) (hp : p.size ≤ 1048576) : ∃ (xs : List Txt) (ok : Bool), xs.length ≤ 1000 ∧ (∀ x ∈ xs, x.length ≤ 9223372036854775807) ∧
    (∀ (W : World) (a : Option Addr), Nds W.heap.size W a n c t → Calls Try.prog 18 #[.agg #[.slice a n c], .string p] W fun e w' => ownS.OwnTexts W xs ok e w') ∧
    (∀ (W : World) (a : Option Addr), Nds W.heap.size W a n c t → Calls Try.prog 19 #[.agg #[.slice a n c], .string p] W fun e w' => ownS.OwnTexts W xs ok e w') := by
  obtain ⟨ok, hok⟩ : ∃ ok, (trieB t && okG p) = ok := ⟨_, rfl⟩
  have hx : ∃ xs : List Txt, xs.length ≤ 1000 ∧ (∀ x ∈ xs, x.length ≤ 9223372036854775807) ∧ (ok = true → xs = fitL t p) ∧ (ok = false → xs = []) := by
    cases ok with
    | false => exact ⟨[], by simp, (fun x h => by cases h), (fun h => by cases h), fun _ => rfl⟩
    | true => exact ⟨fitL t p, (fitL_facts t p).1, (fitL_facts t p).2, fun _ => rfl, (fun h => by cases h)⟩
  obtain ⟨xs, h1, h2, hy, hno⟩ := hx
  exact ⟨xs, ok, h1, h2, fun W a hN => specFitW t n c p hn hp xs ok hok.symm hy hno W a hN, fun W a hN => implFitW t n c p hn hp xs ok hok.symm hy hno W a hN⟩

end Go.Proofs.Ytpneflbnipefaab.cap
