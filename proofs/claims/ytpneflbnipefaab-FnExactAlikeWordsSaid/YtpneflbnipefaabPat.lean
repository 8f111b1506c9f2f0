/-
  What is a pattern: the contracts of the reference's and the program's functions.
-/
import Derived.Test.YtpneflbnipefaabWord
namespace Go.Proofs.Ytpneflbnipefaab
open Go.RowKit
set_option linter.unusedVariables false

/-- a letter or a sign that stands for letters -/
def Sg (c : UInt8) : Prop := (97 ≤ c.toNat ∧ c.toNat ≤ 122) ∨ c.toNat = 63 ∨ c.toNat = 42
instance (c : UInt8) : Decidable (Sg c) := by unfold Sg; infer_instance
def IsG (x : Txt) : Prop := x.length ≤ 14 ∧ ∀ c ∈ x, Sg c
instance (x : Txt) : Decidable (IsG x) := by unfold IsG; infer_instance
/-- the text is a pattern -/
def okG (s : ByteArray) : Bool := decide (IsG s.data.toList)
theorem okG_iff {s : ByteArray} : okG s = true ↔ IsG s.data.toList := by simp [okG]

def SgTo (s : ByteArray) (k : Nat) : Prop := ∀ j (h : j < s.size), j < k → Sg (s[j]'h)
theorem SgTo.succ {s : ByteArray} {k : Nat} (hk : k < s.size) (h : SgTo s k) (h1 : Sg s[k]) : SgTo s (k + 1) := by
  intro j hj hlt
  by_cases e : j = k
  · subst e; exact h1
  · exact h j hj (by omega)
theorem sg_mem {s : ByteArray} {k : Nat} (hk : k < s.size) : s[k] ∈ s.data.toList := by
  have : s[k] = s.data.toList[k]'(by simpa using hk) := rfl
  rw [this]; exact List.getElem_mem _
theorem okG_yes {s : ByteArray} (h : s.size ≤ 14) (hl : SgTo s s.size) : okG s = true := okG_iff.2 ⟨by simpa using h, fun c hc => by
  obtain ⟨i, hi, e⟩ := List.mem_iff_getElem.1 hc
  have hi' : i < s.size := by simpa using hi
  have := hl i hi' hi'
  rw [← e]; exact this⟩
theorem okG_long {s : ByteArray} (h : 14 < s.size) : okG s = false := by
  rw [okG, decide_eq_false_iff_not]; rintro ⟨h1, _⟩
  have : s.data.toList.length = s.size := by simp
  omega
theorem okG_not {s : ByteArray} {k : Nat} (hk : k < s.size) (h : ¬ Sg s[k]) : okG s = false := by
  rw [okG, decide_eq_false_iff_not]; rintro ⟨_, h2⟩; exact h (h2 _ (sg_mem hk))
theorem okG_size {s : ByteArray} (h : okG s = true) : s.size ≤ 14 := by have := (okG_iff.1 h).1; simpa using this
theorem okG_sg {s : ByteArray} (h : okG s = true) {k : Nat} (hk : k < s.size) : Sg s[k] := (okG_iff.1 h).2 _ (sg_mem hk)
theorem okW_size {s : ByteArray} (h : okW s = true) : s.size ≤ 12 := by have := (okW_iff.1 h).1; simpa using this
theorem okW_low_at {s : ByteArray} (h : okW s = true) {k : Nat} (hk : k < s.size) : 97 ≤ s[k].toNat ∧ s[k].toNat ≤ 122 := (okW_iff.1 h).2 _ (sg_mem hk)

/-- which sort of sign stands there, as the walks ask -/
theorem sg_ways {c : UInt8} (h : Sg c) : c.toNat = 63 ∨ (¬ c.toNat = 63 ∧ c.toNat = 42) ∨ (¬ c.toNat = 63 ∧ ¬ c.toNat = 42 ∧ 97 ≤ c.toNat ∧ c.toNat ≤ 122) := by unfold Sg at h; omega
theorem not_sg_ways {c : UInt8} (h : ¬ Sg c) : ¬ c.toNat = 63 ∧ ¬ c.toNat = 42 ∧ (c.toNat < 97 ∨ (97 ≤ c.toNat ∧ 122 < c.toNat)) := by unfold Sg at h; omega

set_option maxRecDepth 1000000 in
set_option maxHeartbeats 1000000 in
theorem l6Pattern_any (s : ByteArray) (w : World) (hs : s.size ≤ 9223372036854775807) :
    Calls Try.prog 47 #[.string s] w fun e w' => e = .returned (.bool (okG s)) ∧ w = w' := by
  go_enter Try.func47, Try.ntmps47
  go_wp2
  go_loop [3] (fun i => ∃ k : Nat, k ≤ s.size ∧ k ≤ 15 ∧ i = .int .i64 k ∧ Hid (SgTo s k)) (fun i => 16 - (intOf i).toNat)
  case atStart => exact ⟨0, Nat.zero_le _, by omega, rfl, Lib.hid fun j _ h => by omega⟩
  case round =>
    obtain ⟨k, hk, hk15, rfl, HL⟩ := hrel
    by_cases hlt : k < s.size
    · by_cases h14 : k ≤ 14
      · by_cases hg : Sg s[k]
        · have HN := Lib.hid (HL.out.succ hlt hg)
          rcases sg_ways hg with h1 | ⟨h1, h2⟩ | ⟨h1, h2, h3, h4⟩
          · clear hg
            have t1 : ((s[k].toNat : Int) != 63) = false := by rw [h1]; rfl
            go_wp2
            go_round
            case rel => exact ⟨k + 1, by omega, by omega, by go_num, HN⟩
            case measure => simp [intOf]; omega
          · clear hg
            have t1 : ((s[k].toNat : Int) != 63) = true := by simp; omega
            have t2 : ((s[k].toNat : Int) != 42) = false := by rw [h2]; rfl
            go_wp2
            go_round
            case rel => exact ⟨k + 1, by omega, by omega, by go_num, HN⟩
            case measure => simp [intOf]; omega
          · clear hg
            have t1 : ((s[k].toNat : Int) != 63) = true := by simp; omega
            have t2 : ((s[k].toNat : Int) != 42) = true := by simp; omega
            go_wp2
            go_round
            case rel => exact ⟨k + 1, by omega, by omega, by go_num, HN⟩
            case measure => simp [intOf]; omega
        · have HF := Lib.hid (okG_not hlt hg)
          obtain ⟨h1, h2, h3⟩ := not_sg_ways hg
          clear hg
          have t1 : ((s[k].toNat : Int) != 63) = true := by simp; omega
          have t2 : ((s[k].toNat : Int) != 42) = true := by simp; omega
          rcases h3 with h3 | ⟨h3, h4⟩
          · go_wp2
            go_ret
            exact ⟨ret_bool HF.out.symm, rfl⟩
          · go_wp2
            go_ret
            exact ⟨ret_bool HF.out.symm, rfl⟩
      · have HF := Lib.hid (okG_long (show 14 < s.size by omega))
        have h15 : ¬ s.size ≤ 14 := by omega
        go_wp2
        go_ret
        exact ⟨ret_bool (by rw [HF.out]; simp; omega), rfl⟩
    · by_cases h14 : s.size ≤ 14
      · have e : k = s.size := by omega
        subst e
        have HT := Lib.hid (okG_yes h14 HL.out)
        go_wp2
        go_ret
        exact ⟨ret_bool (by rw [HT.out]; simp; omega), rfl⟩
      · have HF := Lib.hid (okG_long (show 14 < s.size by omega))
        go_wp2
        go_ret
        exact ⟨ret_bool (by rw [HF.out]; simp; omega), rfl⟩

set_option maxRecDepth 1000000 in
set_option maxHeartbeats 1000000 in
theorem implIsPattern_any (s : ByteArray) (w : World) (hs : s.size ≤ 9223372036854775807) :
    Calls Try.prog 49 #[.string s] w fun e w' => e = .returned (.bool (okG s)) ∧ Below w.heap.size w w' := by
  by_cases h14 : 14 < s.size
  · have HF := Lib.hid (okG_long h14)
    go_enter Try.func49, Try.ntmps49
    go_wp2_with fail
    go_ret
    exact ⟨ret_bool HF.out.symm, Below.refl _ _⟩
  go_enter Try.func49, Try.ntmps49
  go_wp2
  go_loopw [4] (fun c wr => ∃ k : Nat, k ≤ s.size ∧ wr = w.iter s k ∧ (∃ v : Value, c = v) ∧ Hid (SgTo s k)) (fun _ wr => s.size - wr.iterPos w.heap.size)
  case atStart => exact ⟨0, Nat.zero_le _, rfl, ⟨_, rfl⟩, Lib.hid fun j _ h => by omega⟩
  case round =>
    obtain ⟨k, hk, rfl, ⟨v, rfl⟩, HL⟩ := hrel
    by_cases hlt : k < s.size
    · by_cases hg : Sg s[k]
      · have HN := Lib.hid (HL.out.succ hlt hg)
        have hnx := fun ty => run_next_ascii (P := Try.prog) w s k ty hlt (by have := hg; unfold Sg at this; omega)
        rcases sg_ways hg with h1 | ⟨h1, h2⟩ | ⟨h1, h2, h3, h4⟩
        · have cL := Lib.hid (fun W => isLetter_any (s[k].toNat : Int) false (by symm; rw [decide_eq_false_iff_not]; omega) W)
          have t1 : ((s[k].toNat : Int) != 63) = false := by rw [h1]; rfl
          clear hg h1
          go_wp2_with (first | (go_at_call 82; refine (cL.out _).mono ?_; rintro e w2 ⟨rfl, rfl⟩))
          go_roundw
          case rel => exact ⟨k + 1, by omega, rfl, ⟨_, rfl⟩, HN⟩
          case measure => simp; omega
        · have cL := Lib.hid (fun W => isLetter_any (s[k].toNat : Int) false (by symm; rw [decide_eq_false_iff_not]; omega) W)
          have t1 : ((s[k].toNat : Int) != 63) = true := by simp; omega
          have t2 : ((s[k].toNat : Int) != 42) = false := by rw [h2]; rfl
          clear hg h1 h2
          go_wp2_with (first | (go_at_call 82; refine (cL.out _).mono ?_; rintro e w2 ⟨rfl, rfl⟩))
          go_roundw
          case rel => exact ⟨k + 1, by omega, rfl, ⟨_, rfl⟩, HN⟩
          case measure => simp; omega
        · have cL := Lib.hid (fun W => isLetter_any (s[k].toNat : Int) true (by symm; rw [decide_eq_true_eq]; omega) W)
          clear hg h1 h2 h3 h4
          go_wp2_with (first | (go_at_call 82; refine (cL.out _).mono ?_; rintro e w2 ⟨rfl, rfl⟩))
          go_roundw
          case rel => exact ⟨k + 1, by omega, rfl, ⟨_, rfl⟩, HN⟩
          case measure => simp; omega
      · have HF := Lib.hid (okG_not hlt hg)
        obtain ⟨h1, h2, h3⟩ := not_sg_ways hg
        clear hg
        by_cases h128 : s[k].toNat < 128
        · have hnx := fun ty => run_next_ascii (P := Try.prog) w s k ty hlt h128
          have cL := Lib.hid (fun W => isLetter_any (s[k].toNat : Int) false (by symm; rw [decide_eq_false_iff_not]; omega) W)
          have t1 : ((s[k].toNat : Int) != 63) = true := by simp; omega
          have t2 : ((s[k].toNat : Int) != 42) = true := by simp; omega
          clear h1 h2 h3 h128
          go_wp2_with (first | (go_at_call 82; refine (cL.out _).mono ?_; rintro e w2 ⟨rfl, rfl⟩))
          go_ret
          exact ⟨ret_bool HF.out.symm, iter_below (Nat.le_refl _) _ _⟩
        · have hnx := fun ty => run_next_any (P := Try.prog) w s k ty hlt
          have hd := decode_high s k hlt (by omega)
          have hd2 := decode_le s k
          obtain ⟨q, hq⟩ : ∃ q, (Utf8.decode s k).1 = q := ⟨_, rfl⟩
          rw [hq] at hd hd2
          simp only [hq] at hnx
          clear hq
          have cL := Lib.hid (fun W => isLetter_any (q : Int) false (by symm; rw [decide_eq_false_iff_not]; omega) W)
          have t1 : ((q : Int) != 63) = true := by simp; omega
          have t2 : ((q : Int) != 42) = true := by simp; omega
          clear h1 h2 h3 h128 hd hd2
          go_wp2_with (first | (go_at_call 82; refine (cL.out _).mono ?_; rintro e w2 ⟨rfl, rfl⟩))
          go_ret
          exact ⟨ret_bool HF.out.symm, iter_below (Nat.le_refl _) _ _⟩
    · have e : k = s.size := by omega
      subst e
      have hnx := fun ty => run_next_end (P := Try.prog) w s s.size ty (by omega)
      have HT := Lib.hid (okG_yes (by omega) HL.out)
      go_wp2
      go_ret
      exact ⟨ret_bool HT.out.symm, iter_below (Nat.le_refl _) _ _⟩

end Go.Proofs.Ytpneflbnipefaab
