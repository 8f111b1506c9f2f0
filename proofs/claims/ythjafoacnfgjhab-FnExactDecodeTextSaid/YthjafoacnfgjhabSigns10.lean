/-
  Texts of the signs 0 and 1, sequences, beginnings: both sides' functions.
-/
import Derived.Test.YthjafoacnfgjhabWordM
import Derived.Test.YthjafoacnfgjhabC10M
namespace Go.Proofs.Ythjafoacnfgjhab
open Go.RowKit
set_option linter.unusedVariables false

theorem tol_len (s : ByteArray) : s.toList.length = s.size := by rw [Lib.toList_data]; simp
theorem tol_ne {s : ByteArray} (h : 1 ≤ s.size) : (s.toList == []) = false ∧ (s.toList != []) = true ∧ s.toList.isEmpty = false := by
  have e := tol_len s
  cases hh : s.toList with
  | nil => rw [hh] at e; simp at e; omega
  | cons a r => exact ⟨rfl, rfl, rfl⟩
theorem tol_no {s : ByteArray} (h : ¬ 1 ≤ s.size) : s.toList = [] := by
  have e := tol_len s
  cases hh : s.toList with
  | nil => rfl
  | cons a r => rw [hh] at e; simp at e; omega

/-- the first k signs are 0 or 1 -/
def SgTo (s : ByteArray) (k : Nat) : Prop := ∀ j (h : j < s.size), j < k → Sg (s[j]'h)
theorem SgTo.zero (s : ByteArray) : SgTo s 0 := fun j h hj => by omega
theorem SgTo.succ {s : ByteArray} {k : Nat} (h : SgTo s k) (hk : k < s.size) (hs : Sg s[k]) : SgTo s (k + 1) := by
  intro j hj hlt
  by_cases e : j = k
  · subst e; exact hs
  · exact h j hj (by omega)
theorem SgTo.all {s : ByteArray} {k : Nat} (h : SgTo s k) (hk : s.size ≤ k) : Sgs (tx s) := by
  intro b hb
  obtain ⟨j, hj⟩ := List.getElem?_of_mem hb
  obtain ⟨hlt, e⟩ := List.getElem?_eq_some_iff.1 hj
  have hlt' : j < s.size := by simpa using hlt
  have := h j hlt' (by omega)
  rw [← e]
  exact this
theorem not_sgs {s : ByteArray} {k : Nat} (hk : k < s.size) (h : ¬ Sg s[k]) : ¬ Sgs (tx s) := fun g => h (g _ (by
  have : (tx s)[k]'(by simpa using hk) = s[k] := rfl
  rw [← this]
  exact List.getElem_mem _))
def sgB (s : ByteArray) : Bool := decide (Sgs (tx s))
def sqB (s : ByteArray) : Bool := decide (Sq (tx s))
theorem sqB_iff {s : ByteArray} : sqB s = true ↔ Sq (tx s) := by unfold sqB; exact decide_eq_true_iff
theorem sqB_eq (s : ByteArray) : sqB s = (decide (1 ≤ s.size) && decide (s.size ≤ 14) && sgB s) := by
  rw [Bool.eq_iff_iff, sqB_iff]
  unfold Sq sgB
  rw [tx_len, Bool.and_eq_true, Bool.and_eq_true, decide_eq_true_eq, decide_eq_true_eq, decide_eq_true_eq]
  exact ⟨fun ⟨a, b, c⟩ => ⟨⟨a, b⟩, c⟩, fun ⟨⟨a, b⟩, c⟩ => ⟨a, b, c⟩⟩
/-- not too long, and of signs alone -/
def bitB (s : ByteArray) (m : Nat) : Bool := decide (s.size ≤ m) && sgB s

set_option maxRecDepth 1000000 in
set_option maxHeartbeats 1000000 in
theorem l10Bits_any (s : ByteArray) (m : Nat) (w : World) (hs : s.size ≤ 9223372036854775807) (hm : m ≤ 1000000) :
    Calls Try.prog 42 #[.string s, .int .i64 (m : Int)] w fun e w' => e = .returned (.bool (bitB s m)) ∧ Below w.heap.size w w' := by
  go_enter Try.func42, Try.ntmps42
  go_wp2
  go_loopw [5] (fun i wr => ∃ k : Nat, k ≤ s.size ∧ k ≤ m + 1 ∧ i = .int .i64 k ∧ Hid (SgTo s k) ∧ Hid (Below w.heap.size w wr)) (fun i _ => s.size - (intOf i).toNat)
  case atStart => exact ⟨0, Nat.zero_le _, by omega, rfl, Lib.hid (SgTo.zero _), Lib.hid (Below.refl _ _)⟩
  case round =>
    obtain ⟨k, hk, hkm, rfl, HN, HB⟩ := hrel
    by_cases hlt : k < s.size
    · by_cases hle : k ≤ m
      · have hi0 : (0 : Int) ≤ (k : Int) := by omega
        have hi1 : (k : Int) < (s.size : Int) := by omega
        have hi2 : (k : Int) ≤ (m : Int) := by omega
        by_cases hsg : Sg s[k]
        · have HN2 := Lib.hid (HN.out.succ hlt hsg)
          by_cases h48 : s[k] = 48
          · have hq : ((s[k].toNat : Int) != 48) = false := by rw [h48]; rfl
            clear h48 hsg
            go_wp2
            try go_quiet (fail)
            go_wp2
            go_roundw
            case rel => exact ⟨k + 1, by omega, by omega, by go_num, HN2, by first | exact HB | exact Lib.hid (below_drewN HB.out _)⟩
            case measure => simp [intOf]; omega
          · have h49 : s[k] = 49 := by rcases hsg with h | h; exact absurd h h48; exact h
            have hq : ((s[k].toNat : Int) != 48) = true := by rw [h49]; rfl
            have hq2 : ((s[k].toNat : Int) != 49) = false := by rw [h49]; rfl
            clear h48 h49 hsg
            go_wp2
            try go_quiet (fail)
            go_wp2
            go_roundw
            case rel => exact ⟨k + 1, by omega, by omega, by go_num, HN2, by first | exact HB | exact Lib.hid (below_drewN HB.out _)⟩
            case measure => simp [intOf]; omega
        · have hq : ((s[k].toNat : Int) != 48) = true := by
            simp only [bne_iff_ne, ne_eq]
            intro e
            exact hsg (.inl (UInt8.toNat_inj.1 (by simpa using (by omega : s[k].toNat = 48))))
          have hq2 : ((s[k].toNat : Int) != 49) = true := by
            simp only [bne_iff_ne, ne_eq]
            intro e
            exact hsg (.inr (UInt8.toNat_inj.1 (by simpa using (by omega : s[k].toNat = 49))))
          have HF : Hid (bitB s m = false) := Lib.hid (by
            unfold bitB sgB
            rw [decide_eq_false (not_sgs hlt hsg)]
            simp)
          clear hsg
          go_wp2
          try go_quiet (fail)
          go_wp2
          go_ret
          exact ⟨ret_bool HF.out.symm, by first | exact HB.out | exact below_drewN HB.out _⟩
      · have HF : Hid (bitB s m = false) := Lib.hid (by unfold bitB; rw [decide_eq_false (by omega)]; simp)
        have hi2 : ¬ (k : Int) ≤ (m : Int) := by omega
        have hi3 : ¬ (s.size : Int) ≤ (m : Int) := by omega
        go_wp2
        go_ret
        exact ⟨ret_bool (by first | (rw [HF.out]; done) | (rw [HF.out]; simp; omega)), HB.out⟩
    · have HT : Hid (bitB s m = decide (s.size ≤ m)) := Lib.hid (by
        unfold bitB sgB
        rw [decide_eq_true (HN.out.all (by omega))]
        simp)
      go_wp2
      go_ret
      exact ⟨ret_bool (by first | (rw [HT.out]; done) | (rw [HT.out]; exact decide_eq_decide.2 (by omega))), HB.out⟩

theorem iterS_below {B : Nat} {w : World} (hB : B ≤ w.heap.size) (s : ByteArray) (p : Nat) : Below B w (w.iter s p) := (Below.refl _ w).alloc hB _

set_option maxRecDepth 1000000 in
set_option maxHeartbeats 1000000 in
theorem areSigns_any (s : ByteArray) (w : World) (hs : s.size ≤ 9223372036854775807) :
    Calls Try.prog 44 #[.string s] w fun e w' => e = .returned (.bool (sgB s)) ∧ Below w.heap.size w w' := by
  go_enter Try.func44, Try.ntmps44
  go_wp2
  go_loopw [4] (fun c wr => ∃ k : Nat, k ≤ s.size ∧ wr = w.iter s k ∧ (∃ v : Value, c = v) ∧ Hid (SgTo s k)) (fun _ wr => s.size - wr.iterPos w.heap.size)
  case atStart => exact ⟨0, Nat.zero_le _, rfl, ⟨_, rfl⟩, Lib.hid (SgTo.zero _)⟩
  case round =>
    obtain ⟨k, hk, rfl, ⟨v, rfl⟩, HL⟩ := hrel
    by_cases hlt : k < s.size
    · by_cases hsg : Sg s[k]
      · have hnx := fun ty => run_next_ascii (P := Try.prog) w s k ty hlt (by rcases hsg with h | h <;> rw [h] <;> decide)
        have HN := Lib.hid (HL.out.succ hlt hsg)
        by_cases h48 : s[k] = 48
        · have hq : ((s[k].toNat : Int) != 48) = false := by rw [h48]; rfl
          clear h48 hsg
          go_wp2
          go_roundw
          case rel => exact ⟨k + 1, by omega, rfl, ⟨_, rfl⟩, HN⟩
          case measure => simp; omega
        · have h49 : s[k] = 49 := by rcases hsg with h | h; exact absurd h h48; exact h
          have hq : ((s[k].toNat : Int) != 48) = true := by rw [h49]; rfl
          have hq2 : ((s[k].toNat : Int) != 49) = false := by rw [h49]; rfl
          clear h48 h49 hsg
          go_wp2
          go_roundw
          case rel => exact ⟨k + 1, by omega, rfl, ⟨_, rfl⟩, HN⟩
          case measure => simp; omega
      · have HF : Hid (sgB s = false) := Lib.hid (by unfold sgB; exact decide_eq_false (not_sgs hlt hsg))
        by_cases h128 : s[k].toNat < 128
        · have hnx := fun ty => run_next_ascii (P := Try.prog) w s k ty hlt h128
          have hq : ((s[k].toNat : Int) != 48) = true := by
            simp only [bne_iff_ne, ne_eq]
            intro e
            exact hsg (.inl (UInt8.toNat_inj.1 (by simpa using (by omega : s[k].toNat = 48))))
          have hq2 : ((s[k].toNat : Int) != 49) = true := by
            simp only [bne_iff_ne, ne_eq]
            intro e
            exact hsg (.inr (UInt8.toNat_inj.1 (by simpa using (by omega : s[k].toNat = 49))))
          clear hsg
          go_wp2
          go_ret
          exact ⟨ret_bool HF.out.symm, iterS_below (Nat.le_refl _) _ _⟩
        · have hnx := fun ty => run_next_any (P := Try.prog) w s k ty hlt
          have hd := decode_high s k hlt (by omega)
          have hd2 := decode_le s k
          obtain ⟨q, hq⟩ : ∃ q, (Utf8.decode s k).1 = q := ⟨_, rfl⟩
          rw [hq] at hd hd2
          simp only [hq] at hnx
          clear hq
          have hq : ((q : Int) != 48) = true := by simp; omega
          have hq2 : ((q : Int) != 49) = true := by simp; omega
          clear hsg
          go_wp2
          go_ret
          exact ⟨ret_bool HF.out.symm, iterS_below (Nat.le_refl _) _ _⟩
    · have e : k = s.size := by omega
      subst e
      have hnx := fun ty => run_next_end (P := Try.prog) w s s.size ty (by omega)
      have HT : Hid (sgB s = true) := Lib.hid (by unfold sgB; exact decide_eq_true (HL.out.all (by omega)))
      go_wp2
      go_ret
      exact ⟨ret_bool HT.out.symm, iterS_below (Nat.le_refl _) _ _⟩

set_option maxRecDepth 1000000 in
theorem isSequence_any (s : ByteArray) (w : World) (hs : s.size ≤ 9223372036854775807) :
    Calls Try.prog 58 #[.string s] w fun e w' => e = .returned (.bool (sqB s)) ∧ Below w.heap.size w w' := by
  have cS := Lib.hid (areSigns_any s w hs)
  obtain ⟨g, hg⟩ : ∃ g, sgB s = g := ⟨_, rfl⟩
  have HE := Lib.hid (sqB_eq s)
  rw [hg] at cS HE
  clear hg
  by_cases h1 : 1 ≤ s.size
  · obtain ⟨hq, hq2, hq3⟩ := tol_ne h1
    by_cases h2 : s.size ≤ 14
    · have HR : Hid (sqB s = g) := Lib.hid (by rw [HE.out]; simp [h1, h2])
      go_enter Try.func58, Try.ntmps58
      go_wp2_with (go_at_call 44; refine cS.out.mono ?_; rintro e w' ⟨rfl, hb⟩; have HB := Lib.hid hb; clear hb)
      go_ret
      exact ⟨ret_bool (by rw [HR.out]), HB.out⟩
    · have HR : Hid (sqB s = false) := Lib.hid (by rw [HE.out]; simp [h2])
      go_enter Try.func58, Try.ntmps58
      go_wp2_with (go_at_call 44; refine cS.out.mono ?_; rintro e w' ⟨rfl, hb⟩; have HB := Lib.hid hb; clear hb)
      go_ret
      exact ⟨ret_bool (by rw [HR.out]), Below.refl _ _⟩
  · have HR : Hid (sqB s = false) := Lib.hid (by rw [HE.out]; simp [h1])
    have hl := tol_no h1
    have hq3 : s.toList.isEmpty = true := by rw [hl]; rfl
    go_enter Try.func58, Try.ntmps58
    go_wp2_with (go_at_call 44; refine cS.out.mono ?_; rintro e w' ⟨rfl, hb⟩; have HB := Lib.hid hb; clear hb)
    go_ret
    exact ⟨ret_bool (by rw [HR.out]), Below.refl _ _⟩

end Go.Proofs.Ythjafoacnfgjhab
