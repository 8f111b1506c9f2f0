/-
  Whether a trie is free: both functions.
-/
import Derived.Test.YtoofpgehkihbcacFirst
import Derived.Test.YtoofpgehkihbcacFreeNot
import Derived.Test.YtoofpgehkihbcacMade5
import Derived.Test.YtoofpgehkihbcacGvT
import Derived.Test.YtoofpgehkihbcacIsTrie
import Derived.Deep.RegionHeld3
namespace Go.Proofs.Ytoofpgehkihbcac
open Go.RowKit
set_option linter.unusedVariables false

theorem ret_bb {p q p' q' : Bool} (h : p = p') (k : q = q') : Ending.returned (.tuple #[.bool p, .bool q]) = .returned (.tuple #[.bool p', .bool q']) := by rw [h, k]

set_option maxRecDepth 1000000 in
set_option maxHeartbeats 1000000 in
theorem agreeIsFree (t : List Nd) (n : Nat) (hn : n ≤ 1048576) : ∃ (v : Bool) (ok : Bool),
    (∀ (W : World) (a : Option Addr), Nds W.heap.size W a n n t → Calls Try.prog 69 #[.agg #[.slice a n n]] W fun e w' => e = .returned (.tuple #[.bool v, .bool ok]) ∧ Below W.heap.size W w') ∧
    (∀ (W : World) (a : Option Addr), Nds W.heap.size W a n n t → Calls Try.prog 70 #[.agg #[.slice a n n]] W fun e w' => e = .returned (.tuple #[.bool v, .bool ok]) ∧ Below W.heap.size W w') := by
  have cTs : Hid (∀ (W W' : World) (a : Option Addr), Gv W W' a n n t → Calls Try.prog 78 #[.agg #[.slice a n n]] W' fun e w' => e = .returned (.bool (trieB t)) ∧ Below W'.heap.size W' w') := Lib.hid (fun W W' a G => l2Trie_any W.heap.size a n n t W' G.bel.size G.nds hn)
  have cTi : Hid (∀ (W W' : World) (a : Option Addr), Gv W W' a n n t → Calls Try.prog 17 #[.agg #[.slice a n n]] W' fun e w' => e = .returned (.bool (trieB t)) ∧ Below W'.heap.size W' w') := Lib.hid (fun W W' a G => isTrie_any W.heap.size a n n t W' G.bel.size G.nds)
  obtain ⟨r, hr⟩ : ∃ r, trieB t = r := ⟨_, rfl⟩
  have HR := Lib.hid hr
  rw [hr] at cTs cTi
  clear hr
  cases r with
  | false =>
    refine ⟨false, false, fun W a hN => ?_, fun W a hN => ?_⟩
    · have G1 := Lib.hid (Gv.start hN)
      clear hN
      have hbx := G1.out.box
      go_enter Try.func69, Try.ntmps69
      go_wp2_with fail
      refine (cTs.out _ _ _ G1.out).mono ?_
      rintro e w2 ⟨rfl, hb2⟩
      have G2 := Lib.hid (G1.out.on hb2)
      clear hbx hb2
      go_wp2_with fail
      go_ret2
      exact ⟨rfl, G2.out.bel⟩
    · exact callsIn_wide.1 (isFree_not 3 (by omega) a n n t HR.out W hN)
  | true =>
    obtain ⟨ps, hv⟩ := trieB_iff.1 HR.out
    have HV := Lib.hid hv
    clear hv
    refine ⟨decide ((frst (wordsOf t) true (wordsOf t).length).length = (wordsOf t).length), true, fun W a hN => ?_, fun W a hN => ?_⟩
    · have G1 := Lib.hid (Gv.start hN)
      clear hN
      have hbx := G1.out.box
      have cW : Hid (∀ W', Gv W W' a n n t → Calls Try.prog 79 #[.agg #[.slice a n n]] W' fun e w' => ∃ a' c', e = .returned (.slice a' (wordsOf t).length c') ∧ Wds w'.heap.size w' a' (wordsOf t).length c' (wordsOf t) ∧ Below W'.heap.size W' w') := Lib.hid (fun W' G => specWords_read W.heap.size a n n t W' G.bel.size G.nds hn (trieB_iff.1 HR.out))
      have HCl : Hid (decide ((frst (wordsOf t) true (wordsOf t).length).length = (wordsOf t).length) = (((frst (wordsOf t) true (wordsOf t).length).length : Int) == ((wordsOf t).length : Int))) := Lib.hid (by
        rw [Bool.eq_iff_iff]
        simp
        omega)
      have h40 := wordsOf_size t
      have HIs : Hid (∀ x ∈ wordsOf t, IsW x) := Lib.hid (by rw [wordsOf_eq HV.out]; exact HV.out.wordsW)
      obtain ⟨ws, hws⟩ : ∃ ws, wordsOf t = ws := ⟨_, rfl⟩
      rw [hws] at cW HCl h40 HIs ⊢
      clear hws
      obtain ⟨m, hm⟩ : ∃ m, ws.length = m := ⟨_, rfl⟩
      rw [hm] at cW HCl h40 ⊢
      obtain ⟨q, hq⟩ : ∃ q, (frst ws true m).length = q := ⟨_, rfl⟩
      rw [hq] at HCl ⊢
      have HQ := Lib.hid hq
      obtain ⟨v, hv⟩ : ∃ v, decide (q = m) = v := ⟨_, rfl⟩
      rw [hv] at HCl ⊢
      clear hm hq hv
      go_enter Try.func69, Try.ntmps69
      go_wp2_with fail
      refine (cTs.out _ _ _ G1.out).mono ?_
      rintro e w2 ⟨rfl, hb2⟩
      have G2 := Lib.hid (G1.out.on hb2)
      clear hbx hb2
      have cC : Hid (∀ W' a' c', Gv W W' a n n t → Wds W'.heap.size W' a' m c' ws → Calls Try.prog 130 #[.slice a' m c', .bool true] W' fun e w' => ∃ a'' c'', e = .returned (.slice a'' q c'') ∧ Below W'.heap.size W' w') := Lib.hid (fun W' a' c' G hW => (l5First_any W'.heap.size a' m c' true ws W' (Nat.le_refl _) hW h40 HIs.out).mono (fun e w' ⟨a2, c2, h1, h2, h3⟩ => ⟨a2, c2, by rw [← HQ.out]; exact h1, h3⟩))
      have HGd : Hid (Gv W w2.drew a n n t) := Lib.hid (G2.out.on ((Below.refl _ _).drew))
      have hbx := G2.out.box
      go_wp2_with fail
      go_region_held3 (fun w' => w'.cell? ⟨W.heap.size, 0, none⟩ = some (.slice a n n))
        (first
          | exact hG6.box
          | exact hG5.box
          | exact hG4.box
          | exact HGd.out.box)
        (first
          | (have hg := hG5; clear hg; go_at_call 79; refine (cW.out _ hG5).mono ?_; rintro e w6 ⟨a6, c6, rfl, hW6, hb6⟩; have hG6 := hG5.on hb6; clear hb6 hW6)
          | (go_at_call 79; refine (cW.out _ HGd.out).mono ?_; rintro e w4 ⟨a4, c4, rfl, hW4, hb4⟩; have hG4 := HGd.out.on hb4; clear hb4)
          | (go_at_call 130; refine (cC.out _ _ _ hG4 hW4).mono ?_; rintro e w5 ⟨a5, c5, rfl, hb5⟩; have hG5 := hG4.on hb5; clear hb5))
      go_wp2_with fail
      go_ret2
      exact ⟨ret_bb HCl.out.symm rfl, hG6.bel⟩
    · have hvv : decide ((frst (wordsOf t) true (wordsOf t).length).length = (wordsOf t).length) = true ↔ ∀ y : EW t ps, Aln y := by
        rw [decide_eq_true_eq, wordsOf_eq HV.out]
        exact free_iff HV.out
      exact callsIn_wide.1 (isFree_in 3 (by omega) a n n t ps HV.out true _ HR.out hvv W hN)

end Go.Proofs.Ytoofpgehkihbcac
