/-
  The laws' marks on a list of strings: the text of a mark, marking.
-/
import Derived.Test.YtmgieahachphmaaStrsWalks
import Derived.Test.YtmgieahachphmaaMarkTx
import Derived.Laws.BytesArg
import Derived.Deep.RegionHeld3
namespace Go.Proofs.Ytmgieahachphmaa
open Go.RowKit
set_option linter.unusedVariables false

/-- n marks from k on -/
def marks (k n : Nat) : List ByteArray := (List.range n).map fun i => mt (k + i)
theorem marks_len (k n : Nat) : (marks k n).length = n := by simp [marks]
theorem marks_at {k n i : Nat} (h : i < n) : (marks k n)[i]? = some (mt (k + i)) := by simp [marks, h]

/-- the cells after j marks -/
def marked (xs : List Value) (k j : Nat) : List Value := (marks k j).map Value.string ++ xs.drop j
theorem marked_zero (xs : List Value) (k : Nat) : marked xs k 0 = xs := by simp [marked, marks]
theorem marked_succ {xs : List Value} {k j : Nat} (h : j < xs.length) : (marked xs k j).set j (.string (mt (k + j))) = marked xs k (j + 1) := by
  unfold marked
  rw [List.set_append_right _ _ (by simp [marks])]
  have e : j - ((marks k j).map Value.string).length = 0 := by simp [marks]
  rw [e, List.drop_eq_getElem_cons h, List.set_cons_zero]
  unfold marks
  rw [List.range_succ]
  simp
theorem marked_all {xs : List Value} {k n : Nat} (h : xs.length = n) : marked xs k n = (marks k n).map Value.string := by
  unfold marked
  rw [List.drop_eq_nil_of_le (by omega), List.append_nil]
theorem marked_at {xs : List Value} {k j : Nat} (h : j < xs.length) : (marked xs k j)[j]? = some xs[j] := by
  unfold marked
  rw [List.getElem?_append_right (by simp [marks])]
  have e : j - ((marks k j).map Value.string).length = 0 := by simp [marks]
  rw [e, List.drop_eq_getElem_cons h]
  rfl

set_option maxHeartbeats 1000000 in
theorem markStringS_own (base g n c k : Nat) (xs : List Value) (w : World) (h : w.ownsRow base 9 1 (.slice (some ⟨g, 0, none⟩) n c) n xs) (hbase : base ≤ w.heap.size) (hn : n ≤ 10000000) (hk : k ≤ 10000000) :
    Calls Try.prog 13 #[.slice (some ⟨g, 0, none⟩) n c, .int .i64 (k : Int)] w fun e w' => e = .returned (.int .i64 ((k + n : Nat) : Int)) ∧
      w'.ownsRow base 9 1 (.slice (some ⟨g, 0, none⟩) n c) n ((marks k n).map Value.string) ∧ w.grownBy w' (some g) := by
  have L : Hid (xs.length = n) := Lib.hid (by have := h.1; simpa using this)
  have HB := own_base h
  go_enter Try.func13, Try.ntmps13
  go_wp2
  go_loopw [1, 5] (fun q i wr => ∃ j : Nat, j ≤ n ∧ i = .int .i64 j ∧ q = .int .i64 ((k + j : Nat) : Int) ∧ wr.ownsRow base 9 1 (.slice (some ⟨g, 0, none⟩) n c) n (marked xs k j) ∧ w.grownBy wr (some g)) (fun _ i _ => n - (intOf i).toNat)
  case atStart => exact ⟨0, Nat.zero_le _, rfl, rfl, by rw [marked_zero]; exact h, World.grownBy.refl _ _⟩
  case round =>
    clear h
    obtain ⟨j, hj, rfl, rfl, hown, hb⟩ := hrel
    by_cases hlt : j < n
    · have hsz := own_lt hown
      have cM := Lib.hid (markText_any (k + j) wr (by omega))
      have HOW := Lib.hid hown
      have hbs := hb.size
      clear hown
      go_wp2_with (go_at_call 40; refine cM.out.mono ?_; rintro e w1 ⟨rfl, hb1⟩; have hf := (own_keep HOW.out hb1).frozenAt j; have hd := (own_keep HOW.out hb1).cellAt j (by omega); rw [marked_at (by rw [L.out]; exact hlt)] at hd)
      have hst := ((own_keep HOW.out hb1).stored j (.string (mt (k + j)))).1
      rw [marked_succ (by rw [L.out]; exact hlt)] at hst
      go_roundw
      case rel => exact ⟨j + 1, by omega, by go_num, by go_num, hst, grown_set (hb.trans (grown_of_below hb1)) _⟩
      case measure => simp [intOf]; omega
    · have e : j = n := by omega
      subst e
      have HOW : Hid (wr.ownsRow base 9 1 (.slice (some ⟨g, 0, none⟩) j c) j ((marks k j).map Value.string)) := Lib.hid (by rw [← marked_all L.out]; exact hown)
      clear hown
      go_wp2
      go_ret
      exact ⟨rfl, HOW.out, hb⟩

end Go.Proofs.Ytmgieahachphmaa
