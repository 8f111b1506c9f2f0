/-
  The contracts of the laws' own helpers on lists of strings: size, copy (beside StrsEq).
-/
import Derived.Test.YthjafoacnfgjhabStrsEq
import Derived.Deep.QuietTactic
import Derived.BigQuiet
import Derived.Lib.Hide
import Derived.Lib.Strings
import Derived.WalkSpells
import Derived.WalkSmall
namespace Go.Proofs.Ythjafoacnfgjhab
open Go.RowKit
set_option linter.unusedVariables false

/-- What is left of a measure once the strings of a list are taken off it; -1 where it does not reach. -/
def szl : List ByteArray → Int → Int
  | [], l => l
  | s :: r, l => if l - s.size < 0 then -1 else szl r (l - s.size)

def sz (ss : List ByteArray) (l : Int) : Int := if l - ss.length < 0 then -1 else szl ss (l - ss.length)

/-- all the bytes of a list of strings -/
def bytesOf (ss : List ByteArray) : Nat := (ss.map (·.size)).sum

theorem szl_sum : ∀ (ss : List ByteArray) (l : Int), 0 ≤ szl ss l → (bytesOf ss : Int) ≤ l
  | [], l, h => by simpa [szl, bytesOf] using h
  | s :: r, l, h => by
    unfold szl at h
    by_cases c : l - s.size < 0
    · rw [if_pos c] at h; omega
    · rw [if_neg c] at h
      have := szl_sum r _ h
      simp [bytesOf] at this ⊢
      omega

theorem sz_sum (ss : List ByteArray) (l : Int) (h : 0 ≤ sz ss l) : (ss.length : Int) + (bytesOf ss : Int) ≤ l := by
  unfold sz at h
  by_cases c : l - ss.length < 0
  · rw [if_pos c] at h; omega
  · rw [if_neg c] at h
    have := szl_sum ss _ h
    omega

theorem szl_lt : ∀ (ss : List ByteArray) (l : Int), 0 ≤ l → -1 ≤ szl ss l
  | [], l, h => by simp [szl]; omega
  | s :: r, l, h => by
    unfold szl
    by_cases c : l - s.size < 0
    · rw [if_pos c]; omega
    · rw [if_neg c]; exact szl_lt r _ (by omega)

theorem szl_drop {ss : List ByteArray} {k : Nat} {s : ByteArray} (h : ss[k]? = some s) (l : Int) : szl (ss.drop k) l = if l - s.size < 0 then -1 else szl (ss.drop (k + 1)) (l - s.size) := by
  obtain ⟨hk, e⟩ := List.getElem?_eq_some_iff.1 h
  rw [List.drop_eq_getElem_cons hk, e, szl]

set_option maxHeartbeats 400000 in
theorem szStringS_any (B : Nat) (a : Option Addr) (n c : Nat) (ss : List ByteArray) (l : Int) (w : World) (hB : B ≤ w.heap.size) (h : Strs B w a n c ss) (h0 : 0 ≤ l) (h1 : l ≤ 1048576) :
    Calls Try.prog 9 #[.slice a n c, .int .i64 l] w fun e w' => e = .returned (.int .i64 (sz ss l)) ∧ w = w' := by
  have L := Lib.hid h.len
  have C := h.sl.cap
  have T := h.sl.top
  have H := Lib.hid h
  clear h
  by_cases hn : l - n < 0
  · go_enter Try.func9, Try.ntmps9
    go_wp2
    go_ret
    exact ⟨ret_num (by unfold sz; rw [L.out, if_pos (by omega)]), rfl⟩
  · go_enter Try.func9, Try.ntmps9
    go_wp2
    go_loop [1, 5] (fun q i => ∃ (k : Nat) (m : Int), k ≤ n ∧ i = .int .i64 k ∧ q = .int .i64 m ∧ 0 ≤ m ∧ m ≤ 1048576 ∧ Hid (szl (ss.drop k) m = szl ss (l - n))) (fun _ i => n - (intOf i).toNat)
    case atStart => exact ⟨0, _, Nat.zero_le _, rfl, rfl, by omega, by omega, Lib.hid (by rw [List.drop_zero])⟩
    case round =>
      obtain ⟨k, m, hk, rfl, rfl, hm0, hm1, HE⟩ := hrel
      by_cases hlt : k < n
      · obtain ⟨b, o, s, rfl, hbB, hs, hsz, hc⟩ := H.out.elem k hlt
        have HS := Lib.hid hs
        clear hs
        by_cases hm : m - s.size < 0
        · go_wp2
          go_ret
          exact ⟨ret_num (by unfold sz; rw [L.out, if_neg (by omega), ← HE.out, szl_drop HS.out, if_pos (by omega)]), rfl⟩
        · go_wp2
          go_round
          case rel => exact ⟨k + 1, m - s.size, by omega, by go_num, rfl, by omega, by omega, Lib.hid (by rw [← HE.out, szl_drop HS.out, if_neg (by omega)])⟩
          case measure => simp [intOf]; omega
      · go_wp2
        go_ret
        exact ⟨ret_num (by
          have e := HE.out
          rw [List.drop_eq_nil_of_le (by have := L.out; omega)] at e
          unfold sz
          rw [L.out, if_neg (by omega), ← e, szl]), rfl⟩

/-- what has been copied after k rounds -/
def copied (ss : List ByteArray) (n k : Nat) : List Value := (ss.take k).map Value.string ++ List.replicate (n - k) (.string ByteArray.empty)

theorem copied_zero (ss : List ByteArray) (n : Nat) : copied ss n 0 = List.replicate n (.string ByteArray.empty) := by simp [copied]

theorem copied_succ {ss : List ByteArray} {n k : Nat} {s : ByteArray} (hl : ss.length = n) (h : ss[k]? = some s) : (copied ss n k).set k (.string s) = copied ss n (k + 1) := by
  obtain ⟨hk, e⟩ := List.getElem?_eq_some_iff.1 h
  unfold copied
  rw [List.set_append_right _ _ (by simp; omega)]
  have e1 : k - ((ss.take k).map Value.string).length = 0 := by simp; omega
  rw [e1, List.take_succ_eq_append_getElem hk, e]
  obtain ⟨r, hr⟩ : ∃ r, n - k = r + 1 := ⟨n - k - 1, by omega⟩
  have e2 : n - (k + 1) = r := by omega
  rw [hr, e2, List.replicate_succ, List.set_cons_zero]
  simp

theorem copied_all {ss : List ByteArray} {n : Nat} (hl : ss.length = n) : copied ss n n = ss.map Value.string := by
  unfold copied
  rw [List.take_of_length_le (by omega)]
  simp

theorem copied_at {ss : List ByteArray} {n k : Nat} (hl : ss.length = n) (h : k < n) : (copied ss n k)[k]? = some (.string ByteArray.empty) := by
  unfold copied
  rw [List.getElem?_append_right (by simp; omega)]
  have e1 : k - ((ss.take k).map Value.string).length = 0 := by simp; omega
  rw [e1, List.getElem?_replicate, if_pos (by omega)]

set_option maxHeartbeats 400000 in
theorem toStringS_any (B : Nat) (a : Option Addr) (n c : Nat) (ss : List ByteArray) (w : World) (hB : B ≤ w.heap.size) (h : Strs B w a n c ss) (hn : n ≤ 1048576) :
    Calls Try.prog 11 #[.slice a n c] w fun e w' => e = .returned (.slice (some ⟨w.heap.size, 0, none⟩) n n) ∧ Strs (w.heap.size + 1) w' (some ⟨w.heap.size, 0, none⟩) n n ss ∧ w.heap.size < w'.heap.size ∧ Below w.heap.size w w' := by
  have L := Lib.hid h.len
  have C := h.sl.cap
  have T := h.sl.top
  have H := Lib.hid h
  clear h
  obtain ⟨i0, hi, hz0, hz1, hz2⟩ := info_parts infoS
  go_enter Try.func11, Try.ntmps11
  go_wp2_with (first | (at_make; refine wpList_make_full _ rfl _ _ 22 rfl w.heap.size 9 i0 (.string ByteArray.empty) 1 Try.underlying22 hi hz0 hz1 .i64 .i64 _ _ n rfl rfl rfl rfl (by rw [hz2]; omega) (by unfold maxLen; omega) (Nat.le_refl _) ?_; intro w1 hown hgrow))
  have hlt1 : w.heap.size < w1.heap.size := own_lt hown
  have hown0 : w1.ownsRow w.heap.size 9 1 (.slice (some ⟨w.heap.size, 0, none⟩) n n) n (copied ss n 0) := by
    rw [copied_zero]
    have e := toList_madeCells_one (.string ByteArray.empty) n
    rw [Nat.mul_one] at hown
    exact e ▸ hown
  have hb1 : Below w.heap.size w w1 := (Below.refl _ _).grown hgrow (Nat.le_refl _) (fun k e => by cases e)
  clear hown hgrow
  go_loopw [4] (fun i wr => ∃ k : Nat, k ≤ n ∧ i = .int .i64 k ∧ wr.ownsRow w.heap.size 9 1 (.slice (some ⟨w.heap.size, 0, none⟩) n n) n (copied ss n k) ∧ Below w.heap.size w wr ∧ w.heap.size < wr.heap.size) (fun i _ => n - (intOf i).toNat)
  case atStart => exact ⟨0, Nat.zero_le _, rfl, hown0, hb1, hlt1⟩
  case round =>
    clear hown0 hb1 hlt1
    obtain ⟨k, hk, rfl, hown, hb, hlt2⟩ := hrel
    by_cases hlt : k < n
    · obtain ⟨b, o, s, rfl, hbB, hs, hsz, hc⟩ := (H.out.keep (hb.mono hB)).elem k hlt
      have HS := Lib.hid hs
      clear hs
      have hf := hown.frozenAt k
      have hd := hown.cellAt k (by omega)
      rw [copied_at (by have := L.out; omega) hlt] at hd
      have hst := (hown.stored k (.string s)).1
      rw [copied_succ L.out HS.out] at hst
      have HST := Lib.hid hst
      clear hst
      have HO := Lib.hid hown
      clear hown
      go_wp2
      go_roundw
      case rel => exact ⟨k + 1, by omega, by go_num, HST.out, hb.setCell (p := ⟨w.heap.size, k, none⟩) (Nat.le_refl _) _, by simpa using hlt2⟩
      case measure => simp [intOf]; omega
    · have e : k = n := by omega
      subst e
      rw [copied_all L.out] at hown
      have HO := Lib.hid (strs_of_own hown H.out.each (Nat.lt_succ_self _))
      clear hown
      go_wp2
      go_ret
      exact ⟨rfl, HO.out, hlt2, hb⟩

end Go.Proofs.Ythjafoacnfgjhab
