/-
  The program's words of a trie that a set lacks.
-/
import Derived.Test.YtipkdoplgjgkpacGv2
import Derived.Test.YtipkdoplgjgkpacWithL
import Derived.Test.YtipkdoplgjgkpacMissClo
import Derived.Test.YtipkdoplgjgkpacWwMiss
import Derived.Test.YtipkdoplgjgkpacFreeM
namespace Go.Proofs.Ytipkdoplgjgkpac
open Go.RowKit
set_option linter.unusedVariables false

set_option maxRecDepth 1000000 in
set_option maxHeartbeats 2000000 in
theorem missing_any (m j : Nat) (us : List Txt) (B : Nat) (a : Option Addr) (n c : Nat) (t : List Nd) (ht : IsT t) (W : World) (hB : B ≤ W.heap.size) (hN : Nds B W a n c t) (hS : SetIs W m j us) :
    Calls Try.prog 41 #[.map (some m), .agg #[.slice a n c]] W fun e w' => ∃ v, e = .returned v ∧ w'.ownsRow W.heap.size 9 1 v (those (wordsOf t) us false).length ((those (wordsOf t) us false).map fun x => Value.string (bx x)) ∧ Below W.heap.size W w' := by
  have HB1 : Hid (Below W.heap.size W ((W.alloc (.cells #[.map (some m)] 56)).alloc (.cells #[.slice a n c] 30))) := Lib.hid (((Below.refl _ _).alloc (Nat.le_refl _) _).alloc (by simp) _)
  have c0 := cellOld (.cells #[.slice a n c] 30) (cellNew W (.map (some m)) 56).1
  have c1 := (cellNew (W.alloc (.cells #[.map (some m)] 56)) (.slice a n c) 30).1
  rw [World.size_alloc] at c1
  have hq := World.block_lt_of_cell? _ _ c0
  have cW : Hid (Calls Try.prog 76 #[.agg #[.slice a n c], .func (.func 77) #[] #[.pointer (some ⟨W.heap.size, 0, none⟩)]] ((W.alloc (.cells #[.map (some m)] 56)).alloc (.cells #[.slice a n c] 30)) fun e w' => ∃ v, e = .returned v ∧ w'.ownsRow ((W.alloc (.cells #[.map (some m)] 56)).alloc (.cells #[.slice a n c] 30)).heap.size 9 1 v (those (wordsOf t) us false).length ((those (wordsOf t) us false).map fun x => Value.string (bx x)) ∧ Below ((W.alloc (.cells #[.map (some m)] 56)).alloc (.cells #[.slice a n c] 30)).heap.size ((W.alloc (.cells #[.map (some m)] 56)).alloc (.cells #[.slice a n c] 30)) w') := Lib.hid (by
    obtain ⟨ps, hv⟩ := ht
    have hS1 := hS.below HB1.out hS.lt
    have := (callsIn_wide (n := 5)).1 (wwMiss.where_in 5 (by omega) a n c W.heap.size t ps hv (fun z => inB us false z.2) ((W.alloc (.cells #[.map (some m)] 56)).alloc (.cells #[.slice a n c] 30)) ((hN.keep (HB1.out.mono hB)).mono (Nat.le_trans hB HB1.out.size)) (fun W2 y h2 => by
      have h9 := missClo_any m j W.heap.size us (y.i : Int) y.x (by have := hv.short y.x (at_mem y.at'); unfold maxLen; omega) W2 (hS1.below h2 hS1.lt) ((h2.cell (p := ⟨W.heap.size, 0, none⟩) hq).trans c0)
      have e9 : inB us false y.val.2 = !decide (y.x ∈ us) := by
        show (decide (y.x ∈ us) == false) = _
        simp
      show Calls _ _ _ _ (fun e W' => e = .returned (.bool (inB us false y.val.2)) ∧ _)
      rw [e9]
      exact h9))
    have e : those (wordsOf t) us false = ((pls t ps t.length).filter (fun z => inB us false z.2)).map Prod.snd := by
      unfold those
      rw [wordsOf_eq hv, ← pls_all hv, List.filter_map]
      rfl
    rw [← e] at this
    exact this)
  obtain ⟨xs, hxs⟩ : ∃ xs, those (wordsOf t) us false = xs := ⟨_, rfl⟩
  rw [hxs] at cW ⊢
  clear hxs hS hN
  go_enter Try.func41, Try.ntmps41
  go_wp2_with fail
  refine cW.out.mono ?_
  rintro e w2 ⟨v2, rfl, hO2, hb2⟩
  have HO2 := Lib.hid (own_down hO2 HB1.out.size)
  have HB2 := Lib.hid (HB1.out.trans (hb2.mono HB1.out.size))
  clear hO2 hb2
  go_wp2_with fail
  go_ret
  exact ⟨_, rfl, HO2.out, HB2.out⟩

end Go.Proofs.Ytipkdoplgjgkpac
