/-
  What is a text: the reference's and the program's functions.
-/
import Derived.Test.YtmgieahachphmaaWordA
import Derived.Test.YtmgieahachphmaaPutW
namespace Go.Proofs.Ytmgieahachphmaa
open Go.RowKit
set_option linter.unusedVariables false

/-- the text is one of at most 16 small letters -/
def okT (s : ByteArray) : Bool := decide (s.size ≤ 16) && lowB s

theorem okT_iff {s : ByteArray} : okT s = true ↔ s.size ≤ 16 ∧ Low (tx s) := by simp [okT, lowB_iff]
theorem okT_size {s : ByteArray} (h : okT s = true) : s.size ≤ 16 := (okT_iff.1 h).1
theorem okT_letter {s : ByteArray} (h : okT s = true) {k : Nat} (hk : k < s.size) : 97 ≤ s[k].toNat ∧ s[k].toNat ≤ 122 := by
  have := (okT_iff.1 h).2 s[k] (by
    have e : s[k] = (tx s)[k]'(by rw [tx_len]; exact hk) := rfl
    rw [e]; exact List.getElem_mem _)
  exact this
theorem okT_long {s : ByteArray} (h : 16 < s.size) : okT s = false := by
  unfold okT; rw [decide_eq_false (by omega)]; rfl
theorem okT_bad {s : ByteArray} {k : Nat} (hk : k < s.size) (h : ¬ (97 ≤ s[k].toNat ∧ s[k].toNat ≤ 122)) : okT s = false := by
  unfold okT; rw [lowB_no hk h, Bool.and_false]
theorem okT_short {s : ByteArray} (h : s.size ≤ 16) : okT s = lowB s := by
  unfold okT; rw [decide_eq_true h, Bool.true_and]
theorem okT_yes {s : ByteArray} (h : s.size ≤ 16) (hl : LowTo s s.size) : okT s = true := by rw [okT_short h, lowB_yes hl]

set_option maxRecDepth 1000000 in
set_option maxHeartbeats 1000000 in
theorem l8Text_any (s : ByteArray) (w : World) (hs : s.size ≤ 9223372036854775807) :
    Calls Try.prog 41 #[.string s] w fun e w' => e = .returned (.bool (okT s)) ∧ w = w' := by
  go_enter Try.func41, Try.ntmps41
  go_wp2
  go_loop [3] (fun i => ∃ k : Nat, k ≤ s.size ∧ k ≤ 17 ∧ i = .int .i64 k ∧ Hid (LowTo s k)) (fun i => 18 - (intOf i).toNat)
  case atStart => exact ⟨0, Nat.zero_le _, by omega, rfl, Lib.hid fun j _ h => by omega⟩
  case round =>
    obtain ⟨k, hk, hk13, rfl, HL⟩ := hrel
    by_cases hlt : k < s.size
    · by_cases h12 : k ≤ 16
      · by_cases h1 : 97 ≤ s[k].toNat
        · by_cases h2 : s[k].toNat ≤ 122
          · have HN := Lib.hid (HL.out.succ hlt h1 h2)
            go_wp2
            go_round
            case rel => exact ⟨k + 1, by omega, by omega, by go_num, HN⟩
            case measure => simp [intOf]; omega
          · have HF := Lib.hid (okT_bad hlt (fun h => h2 h.2))
            go_wp2
            go_ret
            exact ⟨ret_bool HF.out.symm, rfl⟩
        · have HF := Lib.hid (okT_bad hlt (fun h => h1 h.1))
          go_wp2
          go_ret
          exact ⟨ret_bool HF.out.symm, rfl⟩
      · have HF := Lib.hid (okT_long (show 16 < s.size by omega))
        have h13 : ¬ s.size ≤ 16 := by omega
        go_wp2
        go_ret
        exact ⟨ret_bool (by rw [HF.out]; simp; omega), rfl⟩
    · by_cases h12 : s.size ≤ 16
      · have e : k = s.size := by omega
        subst e
        have HT := Lib.hid (okT_yes h12 HL.out)
        go_wp2
        go_ret
        exact ⟨ret_bool (by rw [HT.out]; simp; omega), rfl⟩
      · have HF := Lib.hid (okT_long (show 16 < s.size by omega))
        go_wp2
        go_ret
        exact ⟨ret_bool (by rw [HF.out]; simp; omega), rfl⟩

set_option maxRecDepth 1000000 in
set_option maxHeartbeats 1000000 in
theorem implIsText_any (s : ByteArray) (w : World) (hs : s.size ≤ 9223372036854775807) :
    Calls Try.prog 65 #[.string s] w fun e w' => e = .returned (.bool (okT s)) ∧ Below w.heap.size w w' := by
  have cL := Lib.hid (areLetters_any s w hs)
  by_cases h12 : s.size ≤ 16
  · have HE := Lib.hid (okT_short h12)
    go_enter Try.func65, Try.ntmps65
    go_wp2_with (first | (go_at_call 60; refine cL.out.mono ?_; rintro e w2 ⟨rfl, hb2⟩; have HB2 := Lib.hid hb2; clear hb2))
    go_ret
    exact ⟨ret_bool HE.out.symm, HB2.out⟩
  · have HF := Lib.hid (okT_long (show 16 < s.size by omega))
    go_enter Try.func65, Try.ntmps65
    go_wp2_with fail
    go_ret
    exact ⟨ret_bool HF.out.symm, Below.refl _ _⟩

end Go.Proofs.Ytmgieahachphmaa
