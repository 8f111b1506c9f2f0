/-
  What is a word: the contracts of the reference's and the program's functions.
-/
import Derived.Test.YtipkdoplgjgkpacOwn
import Derived.Test.YtipkdoplgjgkpacTri
import Derived.Laws.RangeAny
import Derived.LoopTactic
namespace Go.Proofs.Ytipkdoplgjgkpac
open Go.RowKit
set_option linter.unusedVariables false

instance (x : Txt) : Decidable (IsW x) := by unfold IsW Low; infer_instance

/-- the text is a word -/
def okW (s : ByteArray) : Bool := decide (IsW s.data.toList)

theorem okW_iff {s : ByteArray} : okW s = true ↔ IsW s.data.toList := by simp [okW]

/-- the first k letters are small ones -/
def LowTo (s : ByteArray) (k : Nat) : Prop := ∀ j (h : j < s.size), j < k → 97 ≤ (s[j]'h).toNat ∧ (s[j]'h).toNat ≤ 122

theorem low_of {s : ByteArray} (h : LowTo s s.size) : Low s.data.toList := by
  intro c hc
  obtain ⟨i, hi, e⟩ := List.mem_iff_getElem.1 hc
  have hi' : i < s.size := by simpa using hi
  have := h i hi' hi'
  rw [← e]; exact this

theorem not_low {s : ByteArray} {k : Nat} (hk : k < s.size) (h : ¬ (97 ≤ s[k].toNat ∧ s[k].toNat ≤ 122)) : ¬ Low s.data.toList := fun hl => h (by
  have := hl (s[k]) (by
    have : s[k] = s.data.toList[k]'(by simpa using hk) := rfl
    rw [this]; exact List.getElem_mem _)
  exact this)

theorem okW_yes {s : ByteArray} (h : s.size ≤ 12) (hl : LowTo s s.size) : okW s = true := okW_iff.2 ⟨by simpa using h, low_of hl⟩
theorem okW_long {s : ByteArray} (h : 12 < s.size) : okW s = false := by
  rw [okW, decide_eq_false_iff_not]; rintro ⟨h1, _⟩
  have : s.data.toList.length = s.size := by simp
  omega
theorem okW_low {s : ByteArray} {k : Nat} (hk : k < s.size) (h : ¬ (97 ≤ s[k].toNat ∧ s[k].toNat ≤ 122)) : okW s = false := by
  rw [okW, decide_eq_false_iff_not]; rintro ⟨_, h2⟩; exact not_low hk h h2

theorem LowTo.succ {s : ByteArray} {k : Nat} (hk : k < s.size) (h : LowTo s k) (h1 : 97 ≤ s[k].toNat) (h2 : s[k].toNat ≤ 122) : LowTo s (k + 1) := by
  intro j hj hlt
  by_cases e : j = k
  · subst e; exact ⟨h1, h2⟩
  · exact h j hj (by omega)

set_option maxRecDepth 1000000 in
set_option maxHeartbeats 400000 in
theorem l2Word_any (s : ByteArray) (w : World) (hs : s.size ≤ 9223372036854775807) :
    Calls Try.prog 56 #[.string s] w fun e w' => e = .returned (.bool (okW s)) ∧ w = w' := by
  go_enter Try.func56, Try.ntmps56
  go_wp2
  go_loop [3] (fun i => ∃ k : Nat, k ≤ s.size ∧ k ≤ 13 ∧ i = .int .i64 k ∧ Hid (LowTo s k)) (fun i => 14 - (intOf i).toNat)
  case atStart => exact ⟨0, Nat.zero_le _, by omega, rfl, Lib.hid fun j _ h => by omega⟩
  case round =>
    obtain ⟨k, hk, hk13, rfl, HL⟩ := hrel
    by_cases hlt : k < s.size
    · by_cases h12 : k ≤ 12
      · by_cases h1 : 97 ≤ s[k].toNat
        · by_cases h2 : s[k].toNat ≤ 122
          · have HN := Lib.hid (HL.out.succ hlt h1 h2)
            go_wp2
            go_round
            case rel => exact ⟨k + 1, by omega, by omega, by go_num, HN⟩
            case measure => simp [intOf]; omega
          · have HF := Lib.hid (okW_low hlt (fun h => h2 h.2))
            go_wp2
            go_ret
            exact ⟨ret_bool HF.out.symm, rfl⟩
        · have HF := Lib.hid (okW_low hlt (fun h => h1 h.1))
          go_wp2
          go_ret
          exact ⟨ret_bool HF.out.symm, rfl⟩
      · have HF := Lib.hid (okW_long (show 12 < s.size by omega))
        have h13 : ¬ s.size ≤ 12 := by omega
        go_wp2
        go_ret
        exact ⟨ret_bool (by rw [HF.out]; simp; omega), rfl⟩
    · by_cases h12 : s.size ≤ 12
      · have e : k = s.size := by omega
        subst e
        have HT := Lib.hid (okW_yes h12 HL.out)
        go_wp2
        go_ret
        exact ⟨ret_bool (by rw [HT.out]; simp; omega), rfl⟩
      · have HF := Lib.hid (okW_long (show 12 < s.size by omega))
        go_wp2
        go_ret
        exact ⟨ret_bool (by rw [HF.out]; simp; omega), rfl⟩

theorem iter_below {B : Nat} {w : World} (hB : B ≤ w.heap.size) (s : ByteArray) (p : Nat) : Below B w (w.iter s p) := (Below.refl _ w).alloc hB _

instance (x : Txt) : Decidable (Low x) := by unfold Low; infer_instance

/-- the text has no signs but small letters -/
def lowB (s : ByteArray) : Bool := decide (Low s.data.toList)

theorem lowB_iff {s : ByteArray} : lowB s = true ↔ Low s.data.toList := by simp [lowB]
theorem lowB_yes {s : ByteArray} (hl : LowTo s s.size) : lowB s = true := lowB_iff.2 (low_of hl)
theorem lowB_no {s : ByteArray} {k : Nat} (hk : k < s.size) (h : ¬ (97 ≤ s[k].toNat ∧ s[k].toNat ≤ 122)) : lowB s = false := by
  rw [lowB, decide_eq_false_iff_not]; exact not_low hk h
theorem okW_lowB {s : ByteArray} (h : s.size ≤ 12) : okW s = lowB s := by
  rw [Bool.eq_iff_iff, okW_iff, lowB_iff]
  exact ⟨fun k => k.2, fun k => ⟨by simpa using h, k⟩⟩

theorem isLetter_any (z : Int) (b : Bool) (h : b = decide (97 ≤ z ∧ z ≤ 122)) (w : World) :
    Calls Try.prog 105 #[.int .i32 z] w fun e w' => e = .returned (.bool b) ∧ w = w' := by
  by_cases h1 : z < 97
  · have hb : b = false := by rw [h, decide_eq_false_iff_not]; omega
    subst hb
    clear h
    go_enter Try.func105, Try.ntmps105
    go_wp2
    go_ret
    exact ⟨rfl, rfl⟩
  · by_cases h2 : 122 < z
    · have hb : b = false := by rw [h, decide_eq_false_iff_not]; omega
      subst hb
      clear h
      have h3 : ¬ z ≤ 122 := by omega
      go_enter Try.func105, Try.ntmps105
      go_wp2
      go_ret
      exact ⟨ret_bool (by first | (simp; done) | (simp; omega)), rfl⟩
    · have hb : b = true := by rw [h, decide_eq_true_eq]; omega
      subst hb
      clear h
      have h3 : z ≤ 122 := by omega
      go_enter Try.func105, Try.ntmps105
      go_wp2
      go_ret
      exact ⟨ret_bool (by first | (simp; done) | (simp; omega)), rfl⟩

set_option maxRecDepth 1000000 in
set_option maxHeartbeats 1000000 in
theorem areLetters_any (s : ByteArray) (w : World) (hs : s.size ≤ 9223372036854775807) :
    Calls Try.prog 87 #[.string s] w fun e w' => e = .returned (.bool (lowB s)) ∧ Below w.heap.size w w' := by
  go_enter Try.func87, Try.ntmps87
  go_wp2
  go_loopw [4] (fun c wr => ∃ k : Nat, k ≤ s.size ∧ wr = w.iter s k ∧ (∃ v : Value, c = v) ∧ Hid (LowTo s k)) (fun _ wr => s.size - wr.iterPos w.heap.size)
  case atStart => exact ⟨0, Nat.zero_le _, rfl, ⟨_, rfl⟩, Lib.hid fun j _ h => by omega⟩
  case round =>
    obtain ⟨k, hk, rfl, ⟨v, rfl⟩, HL⟩ := hrel
    by_cases hlt : k < s.size
    · by_cases hl : 97 ≤ s[k].toNat ∧ s[k].toNat ≤ 122
      · have hnx := fun ty => run_next_ascii (P := Try.prog) w s k ty hlt (by omega)
        have HN := Lib.hid (HL.out.succ hlt hl.1 hl.2)
        have cL := Lib.hid (fun W => isLetter_any (s[k].toNat : Int) true (by symm; rw [decide_eq_true_eq]; omega) W)
        clear hl
        go_wp2_with (first | (go_at_call 105; refine (cL.out _).mono ?_; rintro e w2 ⟨rfl, rfl⟩))
        go_roundw
        case rel => exact ⟨k + 1, by omega, rfl, ⟨_, rfl⟩, HN⟩
        case measure => simp; omega
      · have HF := Lib.hid (lowB_no hlt hl)
        by_cases h128 : s[k].toNat < 128
        · have hnx := fun ty => run_next_ascii (P := Try.prog) w s k ty hlt h128
          have cL := Lib.hid (fun W => isLetter_any (s[k].toNat : Int) false (by symm; rw [decide_eq_false_iff_not]; omega) W)
          clear hl
          go_wp2_with (first | (go_at_call 105; refine (cL.out _).mono ?_; rintro e w2 ⟨rfl, rfl⟩))
          go_ret
          exact ⟨ret_bool HF.out.symm, iter_below (Nat.le_refl _) _ _⟩
        · have hnx := fun ty => run_next_any (P := Try.prog) w s k ty hlt
          have hd := decode_high s k hlt (by omega)
          have hd2 := decode_le s k
          obtain ⟨q, hq⟩ : ∃ q, (Utf8.decode s k).1 = q := ⟨_, rfl⟩
          rw [hq] at hd hd2
          simp only [hq] at hnx
          clear hq
          have cL := Lib.hid (fun W => isLetter_any (q : Int) false (by symm; rw [decide_eq_false_iff_not]; omega) W)
          clear hl
          go_wp2_with (first | (go_at_call 105; refine (cL.out _).mono ?_; rintro e w2 ⟨rfl, rfl⟩))
          go_ret
          exact ⟨ret_bool HF.out.symm, iter_below (Nat.le_refl _) _ _⟩
    · have e : k = s.size := by omega
      subst e
      have hnx := fun ty => run_next_end (P := Try.prog) w s s.size ty (by omega)
      have HT := Lib.hid (lowB_yes HL.out)
      go_wp2
      go_ret
      exact ⟨ret_bool HT.out.symm, iter_below (Nat.le_refl _) _ _⟩

set_option maxRecDepth 1000000 in
set_option maxHeartbeats 1000000 in
theorem implIsWord_any (s : ByteArray) (w : World) (hs : s.size ≤ 9223372036854775807) :
    Calls Try.prog 49 #[.string s] w fun e w' => e = .returned (.bool (okW s)) ∧ Below w.heap.size w w' := by
  have cL := Lib.hid (areLetters_any s w hs)
  by_cases h12 : s.size ≤ 12
  · have HE := Lib.hid (okW_lowB h12)
    go_enter Try.func49, Try.ntmps49
    go_wp2_with (first | (go_at_call 87; refine cL.out.mono ?_; rintro e w2 ⟨rfl, hb2⟩; have HB2 := Lib.hid hb2; clear hb2))
    go_ret
    exact ⟨ret_bool HE.out.symm, HB2.out⟩
  · have HF := Lib.hid (okW_long (show 12 < s.size by omega))
    go_enter Try.func49, Try.ntmps49
    go_wp2_with fail
    go_ret
    exact ⟨ret_bool HF.out.symm, Below.refl _ _⟩

end Go.Proofs.Ytipkdoplgjgkpac
