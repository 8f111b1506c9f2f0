/-
  The first of the longest texts of a list; whether a part repeats: the program's functions.
-/
import Derived.Test.YtifkggapdaflmabPlaces8
import Derived.Test.YtifkggapdaflmabSortS
namespace Go.Proofs.Ytifkggapdaflmab
open Go.RowKit
set_option linter.unusedVariables false

/-- a part repeats in a text -/
def repB (x t : Txt) : Bool := decide (1 < (plcs x t).length)

theorem lst_take {l : List Txt} {k : Nat} {x b : Txt} (h : l[k]? = some x) : lst (l.take (k + 1)) b = if (lst (l.take k) b).length < x.length then x else lst (l.take k) b := by
  obtain ⟨hk, e⟩ := List.getElem?_eq_some_iff.1 h
  rw [List.take_succ_eq_append_getElem hk, e, lst_snoc]

theorem lstIf_take {c : Txt → Bool} {l : List Txt} {k : Nat} {x b : Txt} (h : l[k]? = some x) : lstIf c (l.take (k + 1)) b = if (lstIf c (l.take k) b).length < x.length ∧ c x = true then x else lstIf c (l.take k) b := by
  obtain ⟨hk, e⟩ := List.getElem?_eq_some_iff.1 h
  rw [List.take_succ_eq_append_getElem hk, e, lstIf_snoc]

theorem sht_take {c : Txt → Bool} {l : List Txt} {k : Nat} {x b : Txt} (h : l[k]? = some x) : sht c (l.take (k + 1)) b = if x.length < (sht c (l.take k) b).length ∧ c x = true then x else sht c (l.take k) b := by
  obtain ⟨hk, e⟩ := List.getElem?_eq_some_iff.1 h
  rw [List.take_succ_eq_append_getElem hk, e, sht_snoc]

set_option maxRecDepth 1000000 in
set_option maxHeartbeats 1000000 in
theorem longestIn_any (B : Nat) (a : Option Addr) (n c : Nat) (ps : List Txt) (w : World) (hB : B ≤ w.heap.size) (h : Wds B w a n c ps) (hn : n ≤ 1000) (hs : ∀ x ∈ ps, x.length ≤ 1000) :
    Calls Try.prog 37 #[.slice a n c] w fun e w' => e = .returned (.string (bx (lst ps []))) ∧ w = w' := by
  have HW := Lib.hid h
  have HL := Lib.hid h.len
  have HS := Lib.hid hs
  clear h hs
  go_enter Try.func37, Try.ntmps37
  go_wp2
  go_loop [3, 8] (fun b i => ∃ (k : Nat) (y : ByteArray), k ≤ n ∧ i = .int .i64 k ∧ b = .string y ∧ Hid (tx y = lst (ps.take k) []) ∧ y.size ≤ 1000) (fun _ i => n - (intOf i).toNat)
  case atStart => exact ⟨0, ⟨#[]⟩, Nat.zero_le _, rfl, rfl, Lib.hid rfl, by decide⟩
  case round =>
    obtain ⟨k, y, hk, rfl, rfl, HY, hy⟩ := hrel
    by_cases hlt : k < n
    · obtain ⟨b, o, x, rfl, hbB, hx, hxz, hc⟩ := Wds.elem HW.out k hlt
      have hx1 := HS.out _ (List.mem_of_getElem? hx)
      rw [tx_len] at hx1
      have HT := Lib.hid (lst_take (b := []) hx)
      have hk0 : (0 : Int) ≤ (k : Int) := by omega
      have hk1 : (k : Int) < (n : Int) := by omega
      clear hx
      by_cases hg : y.size < x.size
      · have HN : Hid (tx x = lst (ps.take (k + 1)) []) := Lib.hid (by rw [HT.out, ← HY.out, tx_len, tx_len, if_pos hg])
        go_wp2
        go_round
        case rel => exact ⟨k + 1, x, by omega, by go_num, rfl, HN, hx1⟩
        case measure => simp [intOf]; omega
      · have HN : Hid (tx y = lst (ps.take (k + 1)) []) := Lib.hid (by rw [HT.out, ← HY.out, tx_len, tx_len, if_neg hg])
        go_wp2
        go_round
        case rel => exact ⟨k + 1, y, by omega, by go_num, rfl, HN, hy⟩
        case measure => simp [intOf]; omega
    · have HF : Hid (y = bx (lst ps [])) := Lib.hid (tx_inj (by rw [HY.out, tx_bx, List.take_of_length_le (by have := HL.out; omega)]))
      go_wp2
      go_ret
      exact ⟨by rw [HF.out]; rfl, rfl⟩

set_option maxRecDepth 1000000 in
set_option maxHeartbeats 1000000 in
theorem doesRepeat_any (s p : ByteArray) (w : World) (ht : okT s = true) :
    Calls Try.prog 36 #[.string s, .string p] w fun e w' => e = .returned (.bool (repB (tx s) (tx p))) ∧ Below w.heap.size w w' := by
  have cP := Lib.hid (placesOfPart_any s p w ht)
  have hm := ats_len (tx s) (tx p) (tx s).length
  have h16 := okT_size ht
  have hl := tx_len s
  have HR : Hid (repB (tx s) (tx p) = decide (1 < (plcs (tx s) (tx p)).length)) := Lib.hid rfl
  have hm' : (plcs (tx s) (tx p)).length ≤ 16 := by unfold plcs; omega
  obtain ⟨ps, hps⟩ : ∃ ps, plcs (tx s) (tx p) = ps := ⟨_, rfl⟩
  rw [hps] at cP HR hm'
  obtain ⟨m, hmm⟩ : ∃ m, ps.length = m := ⟨_, rfl⟩
  rw [hmm] at cP HR hm'
  clear hm hps hmm hl
  by_cases hg : 1 < m
  · have HT : Hid (repB (tx s) (tx p) = true) := Lib.hid (by rw [HR.out, decide_eq_true hg])
    go_enter Try.func36, Try.ntmps36
    go_wp2_with fail
    refine cP.out.mono ?_
    rintro e w2 ⟨v, rfl, hO, hb⟩
    obtain ⟨a, c, rfl⟩ := own_slice hO
    have HB := Lib.hid hb
    clear hO hb
    go_wp2
    go_ret
    exact ⟨ret_bool (by rw [HT.out]; first | rfl | (simp; done) | (simp; omega)), HB.out⟩
  · have HT : Hid (repB (tx s) (tx p) = false) := Lib.hid (by rw [HR.out, decide_eq_false hg])
    go_enter Try.func36, Try.ntmps36
    go_wp2_with fail
    refine cP.out.mono ?_
    rintro e w2 ⟨v, rfl, hO, hb⟩
    obtain ⟨a, c, rfl⟩ := own_slice hO
    have HB := Lib.hid hb
    clear hO hb
    go_wp2
    go_ret
    exact ⟨ret_bool (by rw [HT.out]; first | rfl | (simp; done) | (simp; omega)), HB.out⟩

end Go.Proofs.Ytifkggapdaflmab
