/-
  The program's words of a trie, in memory of their own; the reference's.
-/
import Derived.Test.YthjafoacnfgjhacWordsN
import Derived.Test.YthjafoacnfgjhacBelW
namespace Go.Proofs.Ythjafoacnfgjhac
open Go.RowKit
set_option linter.unusedVariables false

def OwnWords (w : World) (xs : List Txt) (ok : Bool) (e : Ending) (w' : World) : Prop :=
  ∃ v, e = .returned (.tuple #[v, .bool ok]) ∧ w'.ownsRow w.heap.size 9 1 v xs.length (xs.map (fun x => Value.string (bx x))) ∧ Below w.heap.size w w'

set_option maxRecDepth 1000000 in
set_option maxHeartbeats 1000000 in
theorem implWords_yes (B : Nat) (a : Option Addr) (n c : Nat) (t : List Nd) (ps : List Txt) (w : World) (hB : B ≤ w.heap.size) (h : Nds B w a n c t) (hv : Valid t ps) :
    Calls Try.prog 58 #[.agg #[.slice a n c]] w (OwnWords w (wds t ps) true) := by
  have L := Lib.hid h.len
  have C := h.cap
  have T := h.top
  have hn : n ≤ 481 := by have := hv.size; have := h.len; omega
  have H := Lib.hid h
  have HB := Lib.hid hB
  have HV := Lib.hid hv
  have HT : Hid (trieB t = true) := Lib.hid (trieB_iff.2 ⟨ps, hv⟩)
  clear h hB hv
  have HB1 : Hid (Below w.heap.size w (w.alloc (.cells #[.slice a n c] 38))) := Lib.hid ((Below.refl _ _).alloc (Nat.le_refl _) _)
  have hbx : (w.alloc (.cells #[.slice a n c] 38)).cell? ⟨w.heap.size, 0, none⟩ = some (.slice a n c) := by simp
  have hlt : w.heap.size < (w.alloc (.cells #[.slice a n c] 38)).heap.size := by simp
  have cT := Lib.hid (isTrie_any B a n c t (w.alloc (.cells #[.slice a n c] 38)) (Nat.le_trans HB.out HB1.out.size) (H.out.keep (HB1.out.mono HB.out)))
  rw [HT.out] at cT
  have hn0 : 0 < n := by have := L.out; have := HV.out.tells.pos; omega
  have HWL : Hid (∀ b, Behind t ps 0 b → midw t ps 0 b = wds t ps) := Lib.hid (fun b hb => by
    have e : b = t.length := by
      have h0 := HV.out.tells.nil
      apply Nat.le_antisymm hb.le
      apply Nat.le_of_not_lt
      intro hlt
      obtain ⟨_, y, _, hy⟩ := HV.out.tells.at hlt
      exact hb.stop _ _ h0 hy (List.nil_prefix)
    rw [e, midw_all HV.out.lenEq])
  go_enter Try.func58, Try.ntmps58
  go_wp2_with fail
  obtain ⟨W1, hW1⟩ : ∃ W1, w.alloc (.cells #[.slice a n c] 38) = W1 := ⟨_, rfl⟩
  rw [hW1] at HB1 hbx hlt cT ⊢
  clear hW1
  refine cT.out.mono ?_
  rintro e w2 ⟨rfl, hb2⟩
  have hbx2 := (hb2.cell (p := ⟨w.heap.size, 0, none⟩) hlt).trans hbx
  have HB2 := Lib.hid (HB1.out.trans (hb2.mono HB1.out.size))
  clear hb2 hbx
  have cB := Lib.hid (wordsBelow_any B a n c 0 t ps w2 (Nat.le_trans HB.out HB2.out.size) (H.out.keep (HB2.out.mono HB.out)) HV.out hn0)
  go_wp2_with fail
  refine cB.out.mono ?_
  rintro e w3 ⟨v, b, rfl, hBh, hO, hb3⟩
  rw [HWL.out b hBh] at hO
  have HO := Lib.hid hO
  have HB3 := Lib.hid (HB2.out.trans (hb3.mono HB2.out.size))
  clear hO hb3 hBh
  go_wp2_with fail
  go_ret2
  exact ⟨_, rfl, own_down HO.out HB2.out.size, HB3.out⟩

theorem implWords_no (B : Nat) (a : Option Addr) (n c : Nat) (t : List Nd) (w : World) (hB : B ≤ w.heap.size) (h : Nds B w a n c t) (hv : ¬ IsT t) :
    Calls Try.prog 58 #[.agg #[.slice a n c]] w (OwnWords w [] false) := by
  have HB1 : Hid (Below w.heap.size w (w.alloc (.cells #[.slice a n c] 38))) := Lib.hid ((Below.refl _ _).alloc (Nat.le_refl _) _)
  have cT := Lib.hid (isTrie_any B a n c t (w.alloc (.cells #[.slice a n c] 38)) (Nat.le_trans hB HB1.out.size) (h.keep (HB1.out.mono hB)))
  rw [trieB_no hv] at cT
  clear h hB hv
  go_enter Try.func58, Try.ntmps58
  go_wp2_with fail
  refine cT.out.mono ?_
  rintro e w2 ⟨rfl, hb2⟩
  go_wp2_with fail
  go_ret2
  exact ⟨_, rfl, World.ownsRow_nil _ _ _ _, HB1.out.trans (hb2.mono HB1.out.size)⟩

theorem implWords_any (B : Nat) (a : Option Addr) (n c : Nat) (t : List Nd) (w : World) (hB : B ≤ w.heap.size) (h : Nds B w a n c t) :
    Calls Try.prog 58 #[.agg #[.slice a n c]] w (OwnWords w (wordsOf t) (trieB t)) := by
  by_cases ht : IsT t
  · obtain ⟨ps, hv⟩ := ht
    rw [wordsOf_eq hv, trieB_iff.2 ⟨ps, hv⟩]
    exact implWords_yes B a n c t ps w hB h hv
  · rw [wordsOf_no ht, trieB_no ht]
    exact implWords_no B a n c t w hB h ht

end Go.Proofs.Ythjafoacnfgjhac
