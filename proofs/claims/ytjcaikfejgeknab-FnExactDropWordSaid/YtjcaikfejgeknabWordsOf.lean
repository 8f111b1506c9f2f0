/-
  The program's words of a trie, in memory of their own; the reference's.
-/
import Derived.Test.YtjcaikfejgeknabPrefixAt
namespace Go.Proofs.Ytjcaikfejgeknab
open Go.RowKit
set_option linter.unusedVariables false

theorem wds_short {t : List Nd} {ps : List Txt} (hv : Valid t ps) : ∀ x ∈ wds t ps, x.length ≤ 9223372036854775807 := fun x hx => by have := (hv.wordsW x hx).1; omega

def OwnWords (w : World) (xs : List Txt) (ok : Bool) (e : Ending) (w' : World) : Prop :=
  ∃ v, e = .returned (.tuple #[v, .bool ok]) ∧ w'.ownsRow w.heap.size 9 1 v xs.length (xs.map (fun x => Value.string (bx x))) ∧ Below w.heap.size w w'

set_option maxRecDepth 1000000 in
set_option maxHeartbeats 1000000 in
theorem implWords_yes (B : Nat) (a : Option Addr) (n c : Nat) (t : List Nd) (ps : List Txt) (w : World) (hB : B ≤ w.heap.size) (h : Nds B w a n c t) (hv : Valid t ps) :
    Calls Try.prog 36 #[.agg #[.slice a n c]] w (OwnWords w (wds t ps) true) := by
  have L := Lib.hid h.len
  have C := h.cap
  have T := h.top
  have hn : n ≤ 481 := by have := hv.size; have := h.len; omega
  have H := Lib.hid h
  have HB := Lib.hid hB
  have HV := Lib.hid hv
  have HT : Hid (trieB t = true) := Lib.hid (trieB_iff.2 ⟨ps, hv⟩)
  clear h hB hv
  obtain ⟨i0, hi, hz0, hz1, hz2⟩ := info_parts infoS
  have HB1 : Hid (Below w.heap.size w (w.alloc (.cells #[.slice a n c] 30))) := Lib.hid ((Below.refl _ _).alloc (Nat.le_refl _) _)
  have hbx : (w.alloc (.cells #[.slice a n c] 30)).cell? ⟨w.heap.size, 0, none⟩ = some (.slice a n c) := by simp
  have hlt : w.heap.size < (w.alloc (.cells #[.slice a n c] 30)).heap.size := by simp
  have cT := Lib.hid (isTrie_any B a n c t (w.alloc (.cells #[.slice a n c] 30)) (Nat.le_trans HB.out HB1.out.size) (H.out.keep (HB1.out.mono HB.out)))
  rw [HT.out] at cT
  go_enter Try.func36, Try.ntmps36
  go_wp2_with fail
  obtain ⟨W1, hW1⟩ : ∃ W1, w.alloc (.cells #[.slice a n c] 30) = W1 := ⟨_, rfl⟩
  rw [hW1] at HB1 hbx hlt cT ⊢
  clear hW1
  refine cT.out.mono ?_
  rintro e w2 ⟨rfl, hb2⟩
  have hbx2 := (hb2.cell (p := ⟨w.heap.size, 0, none⟩) hlt).trans hbx
  have HBx2 := Lib.hid hbx2
  have HB2 := Lib.hid (HB1.out.trans (hb2.mono HB1.out.size))
  have hs2 : w.heap.size < w2.heap.size := Nat.lt_of_lt_of_le hlt hb2.size
  clear hb2 hbx
  have hown0 := World.ownsRow_lit (base := w.heap.size + 1) (e := 9) (size := 1) w2 #[] 0 (by omega) (by unfold maxLen; omega) rfl
  have HO0 := Lib.hid hown0
  clear hown0
  go_wp2_with fail
  clear hbx2
  go_loopw [4, 14] (fun o i wr => ∃ (k : Nat) (v : Value) (rs : List Txt), k ≤ n ∧ i = .int .i64 k ∧ v = o ∧ rs.length ≤ k ∧ Hid (wr.ownsRow (w.heap.size + 1) 9 1 v rs.length (rs.map (fun x => Value.string (bx x)))) ∧ Hid (rs = wds (t.take k) (ps.take k)) ∧ Hid (Below w.heap.size w wr) ∧ wr.cell? ⟨w.heap.size, 0, none⟩ = some (.slice a n c) ∧ w.heap.size < wr.heap.size) (fun _ i _ => n - (intOf i).toNat)
  case atStart => exact ⟨0, _, [], Nat.zero_le _, rfl, rfl, Nat.le_refl _, Lib.hid (by simpa using HO0.out), Lib.hid (by simp [wds]), Lib.hid (HB2.out.alloc HB2.out.size _), (World.cell?_alloc_lt _ _ _ hs2).trans HBx2.out, by simp; omega⟩
  case round =>
    clear HO0
    obtain ⟨k, v, rs, hk, rfl, rfl, hrs, HO, HR, HBw, hbox, hsz⟩ := hrel
    by_cases hltk : k < n
    · obtain ⟨b, o, l, p, e, rfl, hbB, hd, hl, hp, hc1, hc2, hc3⟩ := (H.out.keep (HBw.out.mono HB.out)).elem k hltk
      have HBs := HBw.out.size
      have HB3 : Hid (Below w.heap.size w (wr.alloc (.cells #[.int .i64 l, .int .i64 p, .bool e] 70))) := Lib.hid (HBw.out.alloc HBs _)
      have hbox3 : (wr.alloc (.cells #[.int .i64 l, .int .i64 p, .bool e] 70)).cell? ⟨w.heap.size, 0, none⟩ = some (.slice (some ⟨b, o, none⟩) n c) := (World.cell?_alloc_lt _ _ _ hsz).trans hbox
      have HO3 := Lib.hid (HO.out.alloc (.cells #[.int .i64 l, .int .i64 p, .bool e] 70))
      obtain ⟨_, x, _, hx⟩ := HV.out.tells.at (show k < t.length by rw [L.out]; exact hltk)
      have HX := Lib.hid hx
      have HS := Lib.hid (wds_succ HV.out.lenEq hd hx)
      clear hx hd
      cases e with
      | false =>
        go_wp2
        go_roundw
        case rel => exact ⟨k + 1, _, rs, by omega, by go_num, rfl, by omega, HO3, Lib.hid (by rw [HS.out, HR.out]; simp), HB3, hbox3, by simp; omega⟩
        case measure => simp [intOf]; omega
      | true =>
        have cP := Lib.hid (prefixAt_any B (some ⟨b, o, none⟩) n c k t.length t ps x (wr.alloc (.cells #[.int .i64 l, .int .i64 p, .bool true] 70)) (Nat.le_trans HB.out HB3.out.size) (H.out.keep (HB3.out.mono HB.out)) HV.out.tells HX.out (HV.out.short x (at_mem HX.out)))
        go_wp2_with (first
          | (go_at_call 92; refine cP.out.mono ?_; rintro e w1 ⟨rfl, hb1⟩; have HO1 := Lib.hid (own_stay HO3.out hb1); have HB1' := Lib.hid hb1; have hz1s := hb1.size; clear hb1; simp only [World.size_alloc] at hz1s)
          | (at_builtin; refine wpList_append_sl rfl _ _ 34 rfl (w.heap.size + 1) 9 i0 (.string ByteArray.empty) 16 Try.underlying34 hi hz0 hz1 hz2 rfl _ _ _ rfl (HO1.out.alloc _) rfl (sl_new _ _ _) (by simp [Value.oneCell']) (by unfold maxLen; omega) (by omega) (by simp; omega) ?_; intro v2 w2' hO2 hG2))
        have HBf : Below w.heap.size w w2' := (HB3.out.trans (HB1'.out.mono HB3.out.size)).trans (((Below.refl _ w1).alloc (by omega) _).trans (below_grown (HO1.out.alloc _) (by omega) (by simp; omega) hG2))
        have hcell : w2'.cell? ⟨w.heap.size, 0, none⟩ = some (.slice (some ⟨b, o, none⟩) n c) := by
          rw [hG2.cell_far ⟨w.heap.size, 0, none⟩ (by simp; omega) (fun e => by have := (own_ge HO1.out (g := w.heap.size) e.symm).1; omega), World.cell?_alloc_lt _ _ _ (by simp; omega), HB1'.out.cell (p := ⟨w.heap.size, 0, none⟩) (by simp; omega)]
          exact hbox3
        have hsz2 := hG2.size
        simp only [World.size_alloc] at hsz2
        go_roundw
        case rel => exact ⟨k + 1, v2, rs ++ [x], by omega, by go_num, rfl, by simp; omega, Lib.hid (by simpa using hO2), Lib.hid (by rw [HS.out, HR.out]; simp), Lib.hid HBf, hcell, by omega⟩
        case measure => simp [intOf]; omega
    · have HN : Hid (rs = wds t ps) := Lib.hid (by rw [HR.out, List.take_of_length_le (by have := L.out; omega), List.take_of_length_le (by have := L.out; rw [HV.out.lenEq]; omega)])
      go_wp2
      go_ret2
      exact ⟨_, rfl, by rw [← HN.out]; exact own_down HO.out (by omega), HBw.out⟩

theorem implWords_no (B : Nat) (a : Option Addr) (n c : Nat) (t : List Nd) (w : World) (hB : B ≤ w.heap.size) (h : Nds B w a n c t) (hv : ¬ IsT t) :
    Calls Try.prog 36 #[.agg #[.slice a n c]] w (OwnWords w [] false) := by
  have HB1 : Hid (Below w.heap.size w (w.alloc (.cells #[.slice a n c] 30))) := Lib.hid ((Below.refl _ _).alloc (Nat.le_refl _) _)
  have cT := Lib.hid (isTrie_any B a n c t (w.alloc (.cells #[.slice a n c] 30)) (Nat.le_trans hB HB1.out.size) (h.keep (HB1.out.mono hB)))
  rw [trieB_no hv] at cT
  clear h hB hv
  go_enter Try.func36, Try.ntmps36
  go_wp2_with fail
  refine cT.out.mono ?_
  rintro e w2 ⟨rfl, hb2⟩
  go_wp2_with fail
  go_ret2
  exact ⟨_, rfl, World.ownsRow_nil _ _ _ _, HB1.out.trans (hb2.mono HB1.out.size)⟩

/-- the words of a valid trie, none of another list -/
noncomputable def wordsOf (t : List Nd) : List Txt := by
  classical
  exact if h : IsT t then wds t h.choose else []

theorem wordsOf_eq {t : List Nd} {ps : List Txt} (h : Valid t ps) : wordsOf t = wds t ps := by
  have ht : IsT t := ⟨ps, h⟩
  unfold wordsOf
  rw [dif_pos ht, valid_uniq ht.choose_spec h]

theorem wordsOf_no {t : List Nd} (h : ¬ IsT t) : wordsOf t = [] := by
  unfold wordsOf
  rw [dif_neg h]

theorem implWords_any (B : Nat) (a : Option Addr) (n c : Nat) (t : List Nd) (w : World) (hB : B ≤ w.heap.size) (h : Nds B w a n c t) :
    Calls Try.prog 36 #[.agg #[.slice a n c]] w (OwnWords w (wordsOf t) (trieB t)) := by
  by_cases ht : IsT t
  · obtain ⟨ps, hv⟩ := ht
    rw [wordsOf_eq hv, trieB_iff.2 ⟨ps, hv⟩]
    exact implWords_yes B a n c t ps w hB h hv
  · rw [wordsOf_no ht, trieB_no ht]
    exact implWords_no B a n c t w hB h ht

/-- the reference's words as a slice that can be read -/
theorem specWords_read (B : Nat) (a : Option Addr) (n c : Nat) (t : List Nd) (w : World) (hB : B ≤ w.heap.size) (h : Nds B w a n c t) (hn : n ≤ 1048576) (ht : IsT t) :
    Calls Try.prog 69 #[.agg #[.slice a n c]] w fun e w' => ∃ a' c', e = .returned (.slice a' (wordsOf t).length c') ∧ Wds w'.heap.size w' a' (wordsOf t).length c' (wordsOf t) ∧ Below w.heap.size w w' := by
  obtain ⟨ps, hv⟩ := ht
  refine (l2Words_any B a n c t w hB h hn).mono ?_
  rintro e w' ⟨a', n', c', rs, rfl, hW, _, hraw, _, hb⟩
  have e1 := hraw ps hv
  rw [← wordsOf_eq hv] at e1
  subst e1
  have hl := hW.len
  subst hl
  exact ⟨a', c', rfl, hW, hb⟩

theorem wordsOf_size (t : List Nd) : (wordsOf t).length ≤ 40 := by
  by_cases ht : IsT t
  · obtain ⟨ps, hv⟩ := ht
    rw [wordsOf_eq hv, hv.wordsLen]
    exact hv.few
  · rw [wordsOf_no ht]; simp

theorem wordsOf_short (t : List Nd) : ∀ x ∈ wordsOf t, x.length ≤ 12 := by
  by_cases ht : IsT t
  · obtain ⟨ps, hv⟩ := ht
    rw [wordsOf_eq hv]
    exact fun x hx => (hv.wordsW x hx).1
  · rw [wordsOf_no ht]; simp

end Go.Proofs.Ytjcaikfejgeknab
