/-
  The program's ends of a text, by their places.
-/
import Derived.Test.YtmgieahachphmaaParts8
import Derived.Test.YtmgieahachphmaaIter
import Derived.Deep.LoopGhost
import Derived.Maps.AppendAt
import Derived.Laws.OwnMore
namespace Go.Proofs.Ytmgieahachphmaa
open Go.RowKit
set_option linter.unusedVariables false

/-- texts as cells -/
def txs (xs : List Txt) : List Value := xs.map fun x => Value.string (bx x)
theorem txs_len (xs : List Txt) : (txs xs).length = xs.length := by simp [txs]
theorem txs_app (xs ys : List Txt) : txs (xs ++ ys) = txs xs ++ txs ys := by simp [txs]
theorem txs_at {xs : List Txt} {k : Nat} {x : Txt} (h : xs[k]? = some x) : (txs xs)[k]? = some (.string (bx x)) := by simp [txs, h]

/-- the row while it is filled -/
def erow (x : Txt) (k n : Nat) : List Value := txs (endsTo x k) ++ List.replicate (n - k) (.string ByteArray.empty)
theorem erow_zero (x : Txt) (n : Nat) : erow x 0 n = List.replicate n (.string ByteArray.empty) := by simp [erow, endsTo, txs]
theorem erow_all (x : Txt) : erow x x.length x.length = txs (endsL x) := by simp [erow, endsL]
theorem erow_at (x : Txt) {k n : Nat} (h : k < n) : (erow x k n)[k]? = some (.string ByteArray.empty) := by
  unfold erow
  rw [List.getElem?_append_right (by rw [txs_len, endsTo_len]; omega), txs_len, endsTo_len, List.getElem?_replicate, if_pos (by omega)]
theorem erow_set (x : Txt) {k n : Nat} (h : k < n) : (erow x k n).set k (.string (bx (x.drop k))) = erow x (k + 1) n := by
  unfold erow
  rw [List.set_append_right _ _ (by rw [txs_len, endsTo_len]; omega), txs_len, endsTo_len, Nat.sub_self, show n - k = (n - (k + 1)) + 1 by omega, List.replicate_succ, List.set_cons_zero, endsTo_succ, txs_app, List.append_assoc]
  rfl
theorem tx_from (s : ByteArray) (k : Nat) : tx (s.extract k s.size) = (tx s).drop k := by
  rw [tx_sub, List.take_of_length_le (by rw [List.length_drop, tx_len]; omega)]
theorem sub_bx (s : ByteArray) (k : Nat) : s.extract k s.size = bx ((tx s).drop k) := by rw [← tx_from, bx_tx]

set_option maxRecDepth 1000000 in
set_option maxHeartbeats 1000000 in
theorem endsByPlace_any (s : ByteArray) (w : World) (ht : okT s = true) :
    Calls Try.prog 99 #[.string s] w fun e w' => e = .returned (.slice (some ⟨w.heap.size, 0, none⟩) s.size s.size) ∧ w'.ownsRow w.heap.size 9 1 (.slice (some ⟨w.heap.size, 0, none⟩) s.size s.size) s.size (txs (endsL (tx s))) ∧ Below w.heap.size w w' := by
  have h16 := okT_size ht
  have HTx := Lib.hid ht
  clear ht
  obtain ⟨i0, hii, hz0, hz1, hz2⟩ := info_parts infoS
  obtain ⟨n, hn⟩ : ∃ n, s.size = n := ⟨_, rfl⟩
  have HSN : Hid (((s.size : Nat) : Int) = (n : Int)) := Lib.hid (by omega)
  have HNN := Lib.hid hn
  have HA : Hid (erow (tx s) n n = txs (endsL (tx s))) := Lib.hid (by rw [← erow_all, tx_len, hn])
  have hnn : n ≤ 16 := by omega
  go_enter Try.func99, Try.ntmps99
  rw [hn]
  clear hn
  go_wp2_with (first
    | (at_make; refine wpList_make_full _ rfl _ _ 22 rfl w.heap.size 9 i0 (.string ByteArray.empty) 1 Try.underlying22 hii hz0 hz1 .i64 .i64 _ _ n rfl rfl HSN.out HSN.out (by rw [hz2]; omega) (by unfold maxLen; omega) (Nat.le_refl _) ?_; intro w1 hown hgrow; have hown1 := made_rep rfl hown; have HO1 := Lib.hid hown1; have HB1 : Hid (Below w.heap.size w w1) := Lib.hid ((Below.refl _ _).grown hgrow (Nat.le_refl _) (fun k e => by cases e)); have hs1 : w.heap.size < w1.heap.size := own_lt hown1; clear hown hown1 hgrow))
  go_loopw [4] (fun c wr => ∃ (k : Nat) (v : Value), k ≤ n ∧ c = v ∧ Hid (wr.ownsRow w.heap.size 9 1 (.slice (some ⟨w.heap.size, 0, none⟩) n n) n (erow (tx s) k n)) ∧ Hid (wr.heap[w1.heap.size]? = some (.stringIter s k)) ∧ Hid (Below w.heap.size w wr)) (fun _ wr => n - wr.iterPos w1.heap.size)
  case atStart => exact ⟨0, _, Nat.zero_le _, rfl, Lib.hid (by rw [erow_zero]; exact HO1.out.alloc _), Lib.hid (World.iter_heap w1 s 0), Lib.hid (HB1.out.alloc (by omega) _)⟩
  case round =>
    clear HO1 HB1
    obtain ⟨k, v, hk, rfl, HO, HIt, HB⟩ := hrel
    have HP0 : Hid (wr.iterPos w1.heap.size = k) := Lib.hid (by simp [World.iterPos, HIt.out])
    have hsI := (Array.getElem?_eq_some_iff.1 HIt.out).1
    by_cases hlt : k < n
    · have hlt' : k < s.size := by have := HNN.out; omega
      have hl := okT_letter HTx.out hlt'
      have hnx := fun ty => Lib.run_next_ascii_at (P := Try.prog) wr w1.heap.size s k ty HIt.out hlt' (by omega)
      obtain ⟨W1, hW1⟩ : ∃ W1, wr.iterAt w1.heap.size s (k + 1) = W1 := ⟨_, rfl⟩
      have HI1 : Hid (W1.heap[w1.heap.size]? = some (.stringIter s (k + 1))) := Lib.hid (by rw [← hW1]; exact Lib.iterAt_heap wr _ s k (k + 1) HIt.out)
      have HB1 : Hid (Below w.heap.size w W1) := Lib.hid (by rw [← hW1]; exact Lib.below_iterAt HB.out (by omega) s (k + 1))
      have HO1 : Hid (W1.ownsRow w.heap.size 9 1 (.slice (some ⟨w.heap.size, 0, none⟩) n n) n (erow (tx s) k n)) := Lib.hid (by rw [← hW1]; exact own_iterAt HO.out HIt.out)
      simp only [hW1] at hnx
      clear hW1 hl
      have hfz := HO1.out.frozenAt k
      have hcz := (HO1.out.cellAt k (by omega)).trans (erow_at (tx s) hlt)
      have hst := HO1.out.stored k (.string (bx ((tx s).drop k)))
      rw [erow_set _ hlt, ← sub_bx] at hst
      have HST := Lib.hid hst
      have hi0 : (0 : Int) ≤ (k : Int) := by omega
      have hi1 : (k : Int) < (n : Int) := by omega
      have hi2 : (k : Int) ≤ (s.size : Int) := by omega
      clear hst
      go_wp2_with fail
      go_roundw
      case rel => exact ⟨k + 1, _, by omega, rfl, Lib.hid HST.out.1, Lib.hid ((HST.out.2.block w1.heap.size (Array.getElem?_eq_some_iff.1 HI1.out).1 (fun e => by injection e with e; omega)).trans HI1.out), Lib.hid (HB1.out.grown HST.out.2 (by have := HB1.out.size; omega) (fun k e => by injection e with e; omega))⟩
      case measure =>
        have e1 : (W1.setCell ⟨w.heap.size, k, none⟩ (.string (s.extract k s.size))).iterPos w1.heap.size = k + 1 := by
          have := (HST.out.2.block w1.heap.size (Array.getElem?_eq_some_iff.1 HI1.out).1 (fun e => by injection e with e; omega)).trans HI1.out
          simp [World.iterPos, this]
        rw [HP0.out, e1]
        omega
    · have e : k = n := by omega
      have hnx := fun ty => Lib.run_next_end_at (P := Try.prog) wr w1.heap.size s k ty HIt.out (by have := HNN.out; omega)
      have HE : Hid (erow (tx s) k n = txs (endsL (tx s))) := Lib.hid (by rw [e]; exact HA.out)
      clear e
      go_wp2_with fail
      go_ret
      exact ⟨rfl, by rw [← HE.out]; exact HO.out, HB.out⟩

end Go.Proofs.Ytmgieahachphmaa
