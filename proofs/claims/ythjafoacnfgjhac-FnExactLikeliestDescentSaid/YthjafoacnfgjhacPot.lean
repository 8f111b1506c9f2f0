/-
  The pot of a trie: its words, if it has any.
-/
import Derived.Test.YthjafoacnfgjhacFrD
import Derived.Test.YthjafoacnfgjhacWordsOf
import Derived.Test.YthjafoacnfgjhacGvT
namespace Go.Proofs.Ythjafoacnfgjhac
open Go.RowKit
set_option linter.unusedVariables false

theorem grown_cell (W : World) (b o : Nat) (v : Value) : W.grownBy (W.setCell ⟨b, o, none⟩ v) (some b) :=
  ⟨rfl, rfl, rfl, by simp [World.setCell], fun k _ hk => Below.heap_setCell _ _ _ k (fun e => hk (by rw [e]))⟩

theorem wds_of_own {W : World} {base : Nat} {aw : Option Addr} {m cw : Nat} {ws : List Txt} (hm : ws.length = m) (h : W.ownsRow base 9 1 (.slice aw m cw) m (ws.map fun x => Value.string (bx x))) (hl : ∀ x ∈ ws, x.length ≤ 12) : Wds W.heap.size W aw m cw ws := by
  subst hm
  obtain ⟨a', c', e, hW⟩ := own_wds h (fun x hx => by have := hl x hx; omega)
  injection e with e1 _ e2
  subst e1 e2
  exact hW

/-- there is a word to draw -/
noncomputable def potB (t : List Nd) : Bool := trieB t && decide (0 < (wordsOf t).length)

/-- a pot as the program holds it -/
def pv (a : Option Addr) (n c : Nat) (aw : Option Addr) (m cw : Nat) : Value := .agg #[.slice a n c, .slice aw m cw]

set_option maxRecDepth 1000000 in
set_option maxHeartbeats 1000000 in
theorem potOf_any (B : Nat) (a : Option Addr) (n c : Nat) (t : List Nd) (W : World) (hB : B ≤ W.heap.size) (h : Nds B W a n c t) :
    Calls Try.prog 35 #[.agg #[.slice a n c]] W fun e w' => ∃ aw cw, e = .returned (.tuple #[.agg #[.slice a n c, .slice aw (wordsOf t).length cw], .bool (potB t)]) ∧ w'.ownsRow W.heap.size 9 1 (.slice aw (wordsOf t).length cw) (wordsOf t).length ((wordsOf t).map fun x => Value.string (bx x)) ∧ Below W.heap.size W w' := by
  have cW := Lib.hid (fun W' (hw : Below W.heap.size W W') => implWords_any B a n c t W' (Nat.le_trans hB hw.size) (h.keep (hw.mono hB)))
  have HP : Hid (potB t = (trieB t && decide (0 < (wordsOf t).length))) := Lib.hid rfl
  have h40 := wordsOf_size t
  obtain ⟨ws, hws⟩ : ∃ ws, wordsOf t = ws := ⟨_, rfl⟩
  obtain ⟨r, hr⟩ : ∃ r, trieB t = r := ⟨_, rfl⟩
  obtain ⟨q, hq⟩ : ∃ q, potB t = q := ⟨_, rfl⟩
  rw [hws] at cW HP h40 ⊢
  rw [hr] at cW HP
  rw [hq] at HP ⊢
  clear hws hr hq
  have HB1 : Hid (Below W.heap.size W ((W.alloc (.cells #[.slice a n c] 38)).alloc (.cells #[.slice none 0 0, .slice none 0 0] 58))) := Lib.hid (((Below.refl _ _).alloc (Nat.le_refl _) _).alloc (by simp) _)
  have hbx : ((W.alloc (.cells #[.slice a n c] 38)).alloc (.cells #[.slice none 0 0, .slice none 0 0] 58)).cell? ⟨W.heap.size, 0, none⟩ = some (.slice a n c) := by
    rw [World.cell?_alloc_lt _ _ _ (by simp)]
    simp
  have HW1 : Hid (((W.alloc (.cells #[.slice a n c] 38)).alloc (.cells #[.slice none 0 0, .slice none 0 0] 58)).heap[W.heap.size + 1]? = some (.cells #[.slice none 0 0, .slice none 0 0] 58)) := Lib.hid (by
    have := heap_alloc_new (W.alloc (.cells #[.slice a n c] 38)) (.cells #[.slice none 0 0, .slice none 0 0] 58)
    simpa using this)
  have hsz : W.heap.size + 1 < ((W.alloc (.cells #[.slice a n c] 38)).alloc (.cells #[.slice none 0 0, .slice none 0 0] 58)).heap.size := by simp
  clear h hB
  go_enter Try.func35, Try.ntmps35
  go_wp2_with fail
  obtain ⟨W1, hW1⟩ : ∃ W1, (W.alloc (.cells #[.slice a n c] 38)).alloc (.cells #[.slice none 0 0, .slice none 0 0] 58) = W1 := ⟨_, rfl⟩
  rw [hW1] at HB1 hbx HW1 hsz ⊢
  clear hW1
  have HX := Lib.hid hbx
  clear hbx
  refine (cW.out _ HB1.out).mono ?_
  rintro e w3 ⟨v3, rfl, hO3, hb3⟩
  obtain ⟨a3, c3, rfl⟩ := own_slice hO3
  have hbx := (hb3.cell (p := ⟨W.heap.size, 0, none⟩) (Nat.lt_of_succ_lt hsz)).trans HX.out
  have hh := (hb3.block (W.heap.size + 1) hsz).trans HW1.out
  obtain ⟨f1, f2, f3, f4⟩ := frozen_new2 hh
  have HO := Lib.hid (own_down hO3 HB1.out.size)
  have HB3 := Lib.hid (HB1.out.trans (hb3.mono HB1.out.size))
  have HO3 := Lib.hid hO3
  have hs3 := hb3.size
  clear hb3 hO3
  have hb := pair_below (v1 := .slice a n c) (v2 := .slice a3 ws.length c3) HB3.out (Nat.le_succ W.heap.size)
  obtain ⟨hc0, hc1⟩ := pair_set (a' := .slice a n c) (b' := .slice a3 ws.length c3) hh
  have hO9 : ((w3.setCell ⟨W.heap.size + 1, 0, none⟩ (.slice a n c)).setCell ⟨W.heap.size + 1, 1, none⟩ (.slice a3 ws.length c3)).ownsRow W.heap.size 9 1 (.slice a3 ws.length c3) ws.length (ws.map fun x => Value.string (bx x)) := by
    have hne : (Value.slice a3 ws.length c3).ownBlock ≠ some (W.heap.size + 1) := fun e => by
      have := (own_ge HO3.out e).1
      omega
    exact (HO.out.kept (grownBy_setCell' w3 (W.heap.size + 1) _) (.inr hne)).kept (grown_cell _ _ 1 _) (.inr hne)
  have HO9 := Lib.hid hO9
  have HBb := Lib.hid hb
  have HC := Lib.hid (And.intro hc0 hc1)
  clear hO9 hb hc0 hc1
  cases r with
  | false =>
    obtain rfl : q = false := by rw [HP.out]; rfl
    go_wp2_with fail
    generalize ((w3.setCell ⟨W.heap.size + 1, 0, none⟩ (.slice a n c)).setCell ⟨W.heap.size + 1, 1, none⟩ (.slice a3 ws.length c3)) = W9 at *
    obtain ⟨hc0, hc1⟩ := HC.out
    exact bodyPost_ret (v := .tuple #[.agg #[.slice a n c, .slice a3 ws.length c3], .bool false]) (by simp [results, Try.results35, go_sem, hc0, hc1]) rfl ⟨_, _, rfl, HO9.out, HBb.out⟩
  | true =>
    by_cases hm : 0 < ws.length
    · obtain rfl : q = true := by rw [HP.out]; simp [hm]
      have hm1 : (0 : Int) < (ws.length : Int) := by omega
      have hm2 : decide ((0 : Int) < (ws.length : Int)) = true := decide_eq_true hm1
      have hm3 : decide (0 < ws.length) = true := decide_eq_true hm
      go_wp2_with fail
      generalize ((w3.setCell ⟨W.heap.size + 1, 0, none⟩ (.slice a n c)).setCell ⟨W.heap.size + 1, 1, none⟩ (.slice a3 ws.length c3)) = W9 at *
      obtain ⟨hc0, hc1⟩ := HC.out
      exact bodyPost_ret (v := .tuple #[.agg #[.slice a n c, .slice a3 ws.length c3], .bool true]) (by simp [results, Try.results35, go_sem, hc0, hc1]) rfl ⟨_, _, rfl, HO9.out, HBb.out⟩
    · obtain rfl : q = false := by rw [HP.out]; simp [hm]
      have hm1 : ¬ (0 : Int) < (ws.length : Int) := by omega
      have hm2 : decide ((0 : Int) < (ws.length : Int)) = false := decide_eq_false hm1
      have hm3 : decide (0 < ws.length) = false := decide_eq_false hm
      go_wp2_with fail
      generalize ((w3.setCell ⟨W.heap.size + 1, 0, none⟩ (.slice a n c)).setCell ⟨W.heap.size + 1, 1, none⟩ (.slice a3 ws.length c3)) = W9 at *
      obtain ⟨hc0, hc1⟩ := HC.out
      exact bodyPost_ret (v := .tuple #[.agg #[.slice a n c, .slice a3 ws.length c3], .bool false]) (by simp [results, Try.results35, go_sem, hc0, hc1]) rfl ⟨_, _, rfl, HO9.out, HBb.out⟩

end Go.Proofs.Ythjafoacnfgjhac
