/-
  The library's search and its deletion at lists of strings, over rows that the call owns.
-/
import Derived.Test.YtmgieahachphmaaShelf
import Derived.Test.YtmgieahachphmaaSetRow
import Derived.Test.YtmgieahachphmaaLawTrie
namespace Go.Proofs.Ytmgieahachphmaa
open Go.RowKit
set_option linter.unusedVariables false

set_option maxRecDepth 1000000 in
set_option maxHeartbeats 400000 in
theorem index_any (B : Nat) (a : Option Addr) (n c : Nat) (xs : List Txt) (s : ByteArray) (w : World) (hB : B ≤ w.heap.size) (h : Wds B w a n c xs) (hs : s.size ≤ 9223372036854775807) :
    Calls Try.prog 56 #[.slice a n c, .string s] w fun e w' => e = .returned (.int .i64 (plc xs (tx s))) ∧ w = w' := by
  have L := Lib.hid h.len
  have C := h.sl.cap
  have T := h.sl.top
  have H := Lib.hid h
  clear h
  go_enter Try.func56, Try.ntmps56
  go_wp2
  go_loop [8] (fun i => ∃ k : Nat, k ≤ n ∧ i = .int .i64 k ∧ Hid (tx s ∉ xs.take k)) (fun i => n - (intOf i).toNat)
  case atStart => exact ⟨0, Nat.zero_le _, rfl, Lib.hid (by simp)⟩
  case round =>
    obtain ⟨k, hk, rfl, HN⟩ := hrel
    by_cases hlt : k < n
    · obtain ⟨b, o, t, rfl, hbB, ht, htz, hc⟩ := H.out.elem k hlt
      have HT := Lib.hid ht
      clear ht
      by_cases hst : t = s
      · subst hst
        have hq : (t.toList == t.toList) = true := by simp
        have HM := Lib.hid (plc_at HT.out HN.out)
        go_wp2
        go_ret
        exact ⟨ret_num HM.out.symm, rfl⟩
      · have hq : (s.toList == t.toList) = false := by rw [str_eq_list]; simp [Ne.symm hst]
        have HN2 : Hid (tx s ∉ xs.take (k + 1)) := Lib.hid (by
          obtain ⟨hk', e⟩ := List.getElem?_eq_some_iff.1 HT.out
          rw [List.take_succ_eq_append_getElem hk', List.mem_append, List.mem_singleton, e]
          rintro (h | h)
          · exact HN.out h
          · exact hst (tx_inj h.symm))
        go_wp2
        go_round
        case rel => exact ⟨k + 1, by omega, by go_num, HN2⟩
        case measure => simp [intOf]; omega
    · have HM : Hid (plc xs (tx s) = -1) := Lib.hid (by
        have := HN.out
        rw [List.take_of_length_le (by have := L.out; omega)] at this
        unfold plc; rw [if_neg this])
      go_wp2
      go_ret
      exact ⟨ret_num HM.out.symm, rfl⟩

theorem delete_own (base g n c i : Nat) (ws : List Txt) (w : World) (h : w.ownsRow base 9 1 (.slice (some ⟨g, 0, none⟩) n c) n (ws.map fun x => Value.string (bx x))) (hi : i < n) :
    Calls Try.prog 57 #[.slice (some ⟨g, 0, none⟩) n c, .int .i64 (i : Int), .int .i64 ((i + 1 : Nat) : Int)] w fun e w' => e = .returned (.slice (some ⟨g, 0, none⟩) (n - 1) c) ∧
      w'.ownsRow base 9 1 (.slice (some ⟨g, 0, none⟩) (n - 1) c) (n - 1) ((ws.take i ++ ws.drop (i + 1)).map fun x => Value.string (bx x)) ∧ w.grownBy w' (some g) := by
  have hl : ws.length = n := by have := h.1; simpa using this
  have hc : n ≤ c ∧ c ≤ maxLen := by
    rcases h.2 with ⟨h', _⟩ | ⟨g', cap', cur, h', _, hg, h1, h2, _⟩
    · simp at h'
    · simp only [Value.slice.injEq, Option.some.injEq, Addr.mk.injEq, and_true, true_and] at h'
      obtain ⟨_, rfl⟩ := h'
      exact ⟨h1, h2⟩
  have hc2 := hc.2
  unfold maxLen at hc2
  refine (Try.slices_Delete_string_cells g 0 n c i (i + 1) (fun j => bx (ws.getD j [])) w hc.1 hc2 (by omega) (by omega) (fun j hj => ?_) (fun j hj => ?_)).mono ?_
  · rw [Nat.zero_add, h.cellAt j (by omega)]
    simp [List.getD, show j < ws.length by omega]
  · rw [Nat.zero_add]; exact h.frozenAt j
  · rintro e w' ⟨rfl, q, rfl⟩
    have hO : (w.drewN q).ownsRow base 9 1 (.slice (some ⟨g, 0, none⟩) n c) n (ws.map fun x => Value.string (bx x)) := own_stay h (below_drewN (Below.refl _ _) q)
    have es : Lib.strsOf (fun j => bx (ws.getD j [])) n = ws := by
      apply List.ext_getElem
      · rw [Lib.strsOf_length, hl]
      · intro j h1 h2
        simp [Lib.strsOf, bx, List.getD, h2]
    have e1 : i + 1 - i = 1 := by omega
    rw [es, e1]
    obtain ⟨h1, h2⟩ := own_setCells ((ws.take i ++ ws.drop (i + 1) ++ List.replicate 1 ([] : List UInt8)).map (fun x => Value.string (bx x))) 0 (w.drewN q) _ hO (by simp; omega)
    refine ⟨rfl, ?_, ?_⟩
    · have h3 := own_front h1 (m := n - 1) (by omega)
      have e2 : (((ws.map fun x => Value.string (bx x)).take 0 ++ (ws.take i ++ ws.drop (i + 1) ++ List.replicate 1 ([] : List UInt8)).map (fun x => Value.string (bx x)) ++ (ws.map fun x => Value.string (bx x)).drop (0 + ((ws.take i ++ ws.drop (i + 1) ++ List.replicate 1 ([] : List UInt8)).map (fun x => Value.string (bx x))).length))).take (n - 1) = (ws.take i ++ ws.drop (i + 1)).map fun x => Value.string (bx x) := by
        rw [List.take_zero, List.nil_append, List.map_append, List.append_assoc, List.take_append_of_le_length (by simp; omega), List.take_of_length_le (by simp; omega)]
      rwa [e2] at h3
    · exact ⟨h2.os.trans (below_drewN (Below.refl w.heap.size w) q).os, h2.tape.trans (below_drewN (Below.refl w.heap.size w) q).tape, h2.output.trans (below_drewN (Below.refl w.heap.size w) q).output, Nat.le_trans (below_drewN (Below.refl w.heap.size w) q).size h2.size, fun k hk hne => (h2.block k (Nat.lt_of_lt_of_le hk (below_drewN (Below.refl w.heap.size w) q).size) hne).trans ((below_drewN (Below.refl w.heap.size w) q).block k hk)⟩

end Go.Proofs.Ytmgieahachphmaa
