/-
  Numbers as signs: the reference's and the program's function.
-/
import Derived.Test.YthjafoacnfgjhabC10M
import Derived.Test.YthjafoacnfgjhabWordM
import Derived.Test.YthjafoacnfgjhabInts
import Derived.IntWalk
import Derived.Laws.BitsLemmas
import Derived.Laws.IdiomStrings
import Derived.Laws.OwnMore
namespace Go.Proofs.Ythjafoacnfgjhab
open Go.RowKit
set_option linter.unusedVariables false

theorem infoB10 : (Try.prog.info? 5).map (fun i => (i.zero, i.size, i.bytes)) = some (some (.int .u8 0), 1, 1) := by kernel_rfl

theorem bit_one (m : Nat) (hm : m < 4294967296) : bits BinOp.and IntKind.i64 (m : Int) 1 = ((m % 2 : Nat) : Int) := by
  have h := bits_mask .i64 32 (by decide) (fun n h0 h1 => by
    have : (2 : Int) ^ 32 = 4294967296 := by decide
    rw [this] at h1
    rw [IntKind.wrap_i64]
    omega) 1 (by decide) (m : Int) (by omega) (by
    have : (2 : Int) ^ 32 = 4294967296 := by decide
    rw [this]; omega)
  have e : ((2 : Int) ^ 1 - 1) = 1 := by decide
  have e2 : ((2 : Int) ^ 1) = 2 := by decide
  rw [e, e2] at h
  rw [h]
  omega

/-- a sign of a number of 14 signs -/
def sgn (m : Nat) : UInt8 := if m % 2 = 0 then 48 else 49
/-- the first signs of a number of 14 signs -/
def dgT (v len : Nat) : Txt := (List.range len).map fun p => sgn (v / 2 ^ (13 - p))
theorem dgT_len (v len : Nat) : (dgT v len).length = len := by simp [dgT]
theorem dgT_at {v len p : Nat} (h : p < len) : (dgT v len)[p]? = some (sgn (v / 2 ^ (13 - p))) := by simp [dgT, h]
/-- the last signs of a number, the least one last -/
def dlo (z : Nat) : Nat → Txt
  | 0 => []
  | k + 1 => sgn (z / 2 ^ k) :: dlo z k
theorem dlo_len (z : Nat) : ∀ k, (dlo z k).length = k
  | 0 => rfl
  | k + 1 => by simp [dlo, dlo_len z k]
theorem dlo_at (z : Nat) : ∀ (k p : Nat), p < k → (dlo z k)[p]? = some (sgn (z / 2 ^ (k - 1 - p)))
  | 0, p, h => by omega
  | k + 1, 0, h => by simp [dlo]
  | k + 1, p + 1, h => by
    simp only [dlo, List.getElem?_cons_succ]
    rw [dlo_at z k p (by omega)]
    rw [show k + 1 - 1 - (p + 1) = k - 1 - p by omega]
theorem dlo_dgT (v len : Nat) (h : len ≤ 14) : dlo (v / 2 ^ (14 - len)) len = dgT v len := by
  apply List.ext_getElem?
  intro p
  by_cases hp : p < len
  · rw [dlo_at _ _ _ hp, dgT_at hp, Nat.div_div_eq_div_mul, ← Nat.pow_add]
    rw [show 14 - len + (len - 1 - p) = 13 - p by omega]
  · rw [List.getElem?_eq_none (by rw [dlo_len]; omega), List.getElem?_eq_none (by rw [dgT_len]; omega)]

set_option maxRecDepth 1000000 in
set_option maxHeartbeats 1000000 in
theorem l10Digits_any (z : Nat) (h1 : z ≤ 2000000) (len : Nat) (hl : len ≤ 14) (w : World) :
    Calls Try.prog 61 #[.int .i64 (z : Int), .int .i64 (len : Int)] w fun e w' => e = .returned (.string (bx (dlo z len))) ∧ w = w' := by
  go_enter Try.func61, Try.ntmps61
  go_wp2
  go_loop [0, 5, 6] (fun n s i => ∃ (k m : Nat) (q : ByteArray), k ≤ len ∧ i = .int .i64 k ∧ n = .int .i64 m ∧ s = .string q ∧ m ≤ 2000000 ∧ q.size = k ∧ Hid (m = z / 2 ^ k) ∧ Hid (tx q = dlo z k)) (fun _ _ i => len - (intOf i).toNat)
  case atStart => exact ⟨0, z, ⟨#[]⟩, Nat.zero_le _, rfl, rfl, rfl, h1, rfl, Lib.hid (by simp), Lib.hid rfl⟩
  case round =>
    obtain ⟨k, m, q, hk, rfl, rfl, rfl, hm, hqs, HM, HQ⟩ := hrel
    by_cases hlt : k < len
    · have hb := bit_one m (by omega)
      have HN : Hid (m / 2 = z / 2 ^ (k + 1)) := Lib.hid (by rw [HM.out, Nat.div_div_eq_div_mul, ← Nat.pow_succ])
      have hlt1 : (k : Int) < (len : Int) := by omega
      by_cases h0 : m % 2 = 0
      · have hbit : bits BinOp.and IntKind.i64 (m : Int) 1 = 0 := by rw [hb, h0]; rfl
        have HX : Hid (dlo z (k + 1) = 48 :: dlo z k) := Lib.hid (by simp only [dlo]; rw [← HM.out]; unfold sgn; rw [if_pos h0])
        clear hb h0
        go_wp2
        clear hbit
        go_round
        case rel => exact ⟨k + 1, m / 2, (⟨#[48]⟩ : ByteArray) ++ q, by omega, by go_num, by go_num, rfl, by omega, by (have h := congrArg List.length (show tx ((⟨#[48]⟩ : ByteArray) ++ q) = 48 :: tx q by simp); rw [tx_len, List.length_cons, tx_len] at h; omega), HN, Lib.hid (by rw [HX.out, ← HQ.out]; simp)⟩
        case measure => simp [intOf]; omega
      · have hbit : bits BinOp.and IntKind.i64 (m : Int) 1 = 1 := by rw [hb, show m % 2 = 1 by omega]; rfl
        have HX : Hid (dlo z (k + 1) = 49 :: dlo z k) := Lib.hid (by simp only [dlo]; rw [← HM.out]; unfold sgn; rw [if_neg h0])
        clear hb h0
        go_wp2
        clear hbit
        go_round
        case rel => exact ⟨k + 1, m / 2, (⟨#[49]⟩ : ByteArray) ++ q, by omega, by go_num, by go_num, rfl, by omega, by (have h := congrArg List.length (show tx ((⟨#[49]⟩ : ByteArray) ++ q) = 49 :: tx q by simp); rw [tx_len, List.length_cons, tx_len] at h; omega), HN, Lib.hid (by rw [HX.out, ← HQ.out]; simp)⟩
        case measure => simp [intOf]; omega
    · have HE : Hid (q = bx (dlo z len)) := Lib.hid (by
        have e : k = len := by omega
        rw [← e, ← HQ.out]; rfl)
      go_wp2
      go_ret
      exact ⟨by rw [← HE.out]; rfl, rfl⟩

/-- the signs that are written after k rounds -/
def dgC (v n k : Nat) : List Value := ((dgT v k).map fun b => Value.int .u8 (b.toNat : Int)) ++ List.replicate (n - k) (.int .u8 0)
theorem dgC_zero (v n : Nat) : dgC v n 0 = List.replicate n (.int .u8 0) := by simp [dgC, dgT]
theorem dgC_at {v n k : Nat} (h : k < n) : (dgC v n k)[k]? = some (.int .u8 0) := by
  unfold dgC
  rw [List.getElem?_append_right (by simp [dgT_len])]
  simp [dgT_len, List.getElem?_replicate]
  omega
theorem dgC_succ {v n k : Nat} (h : k < n) : (dgC v n k).set k (.int .u8 ((sgn (v / 2 ^ (13 - k))).toNat : Int)) = dgC v n (k + 1) := by
  unfold dgC
  rw [List.set_append_right _ _ (by simp [dgT_len])]
  have e1 : k - ((dgT v k).map fun b => Value.int .u8 (b.toNat : Int)).length = 0 := by simp [dgT_len]
  have e3 : dgT v (k + 1) = dgT v k ++ [sgn (v / 2 ^ (13 - k))] := by simp [dgT, List.range_succ]
  rw [e1, e3]
  obtain ⟨r, hr⟩ : ∃ r, n - k = r + 1 := ⟨n - k - 1, by omega⟩
  have e2 : n - (k + 1) = r := by omega
  rw [hr, e2, List.replicate_succ, List.set_cons_zero]
  simp

set_option maxRecDepth 1000000 in
set_option maxHeartbeats 1000000 in
theorem firstSigns_any (v : Nat) (h1 : v ≤ 2000000) (len : Nat) (hl : len ≤ 14) (w : World) :
    Calls Try.prog 36 #[.int .i64 (v : Int), .int .i64 (len : Int)] w fun e w' => e = .returned (.string (bx (dgT v len))) ∧ Below w.heap.size w w' := by
  obtain ⟨i0, hi, hz0, hz1, hz2⟩ := info_parts infoB10
  go_enter Try.func36, Try.ntmps36
  go_wp2_with (first | (at_make; refine wpList_make_full _ rfl _ _ 73 rfl w.heap.size 5 i0 (.int .u8 0) 1 Try.underlying73 hi hz0 hz1 .i64 .i64 _ _ len rfl rfl rfl rfl (by rw [hz2]; omega) (by unfold maxLen; omega) (Nat.le_refl _) ?_; intro w1 hown hgrow))
  have hown0 : Hid (w1.ownsRow w.heap.size 5 1 (.slice (some ⟨w.heap.size, 0, none⟩) len len) len (dgC v len 0)) := Lib.hid (by
    rw [dgC_zero]
    have e := toList_madeCells_one (.int .u8 0) len
    rw [Nat.mul_one] at hown
    exact e ▸ hown)
  have hb1 : Hid (Below w.heap.size w w1) := Lib.hid ((Below.refl _ _).grown hgrow (Nat.le_refl _) (fun k e => by cases e))
  clear hown hgrow
  go_loopw [11] (fun i wr => ∃ k : Nat, k ≤ len ∧ i = .int .i64 k ∧ Hid (wr.ownsRow w.heap.size 5 1 (.slice (some ⟨w.heap.size, 0, none⟩) len len) len (dgC v len k)) ∧ Hid (Below w.heap.size w wr)) (fun i _ => len - (intOf i).toNat)
  case atStart => exact ⟨0, Nat.zero_le _, rfl, hown0, hb1⟩
  case round =>
    clear hown0 hb1
    obtain ⟨k, hk, rfl, HO, HB⟩ := hrel
    by_cases hlt : k < len
    · have hk0 : (0 : Int) ≤ (k : Int) := by omega
      have hk1 : (k : Int) < (len : Int) := by omega
      have hf := HO.out.frozenAt k
      have hd := HO.out.cellAt k (by omega)
      rw [dgC_at hlt] at hd
      obtain ⟨t, ht⟩ : ∃ t, v / 2 ^ (13 - k) = t := ⟨_, rfl⟩
      have htb : t ≤ 2000000 := by rw [← ht]; exact Nat.le_trans (Nat.div_le_self _ _) h1
      have hsh : (v : Int) / 2 ^ ((13 : Int) - (k : Int)).toNat = (t : Int) := by
        rw [← ht, show ((13 : Int) - (k : Int)).toNat = 13 - k by omega]
        simp
      have hsh2 : (v : Int) / 2 ^ (13 - k) = (t : Int) := by rw [← ht]; simp
      have hb := bit_one t (by omega)
      have hsc := fun (u : UInt8) (hu : sgn t = u) => ((HO.out.stored k (.int .u8 (u.toNat : Int))).1 : _)
      by_cases h0 : t % 2 = 0
      · have hbit : bits BinOp.and IntKind.i64 (t : Int) 1 = 0 := by rw [hb, h0]; rfl
        have HST : Hid ((wr.setCell ⟨w.heap.size, k, none⟩ (.int .u8 48)).ownsRow w.heap.size 5 1 (.slice (some ⟨w.heap.size, 0, none⟩) len len) len (dgC v len (k + 1))) := Lib.hid (by
          have h := (HO.out.stored k (.int .u8 ((sgn t).toNat : Int))).1
          rw [← ht, dgC_succ hlt, ht] at h
          have e : sgn t = 48 := by unfold sgn; rw [if_pos h0]
          rw [e] at h
          exact h)
        clear hb h0 ht hsc
        go_wp2
        clear hbit hsh hsh2
        go_roundw
        case rel => exact ⟨k + 1, by omega, by go_num, HST, Lib.hid (HB.out.setCell (p := ⟨w.heap.size, k, none⟩) (Nat.le_refl _) _)⟩
        case measure => simp [intOf]; omega
      · have hbit : bits BinOp.and IntKind.i64 (t : Int) 1 = 1 := by rw [hb, show t % 2 = 1 by omega]; rfl
        have HST : Hid ((wr.setCell ⟨w.heap.size, k, none⟩ (.int .u8 49)).ownsRow w.heap.size 5 1 (.slice (some ⟨w.heap.size, 0, none⟩) len len) len (dgC v len (k + 1))) := Lib.hid (by
          have h := (HO.out.stored k (.int .u8 ((sgn t).toNat : Int))).1
          rw [← ht, dgC_succ hlt, ht] at h
          have e : sgn t = 49 := by unfold sgn; rw [if_neg h0]
          rw [e] at h
          exact h)
        clear hb h0 ht hsc
        go_wp2
        clear hbit hsh hsh2
        go_roundw
        case rel => exact ⟨k + 1, by omega, by go_num, HST, Lib.hid (HB.out.setCell (p := ⟨w.heap.size, k, none⟩) (Nat.le_refl _) _)⟩
        case measure => simp [intOf]; omega
    · have e : k = len := by omega
      subst e
      have cv := run_convert_bytes_back (P := Try.prog) wr 73 9 5 ⟨w.heap.size, 0, none⟩ k (dgT v k) Try.underlying73 Try.underlying5 Try.underlying9 (fun j hj => by
        have hadd : (Addr.add ⟨w.heap.size, 0, none⟩ j) = ⟨w.heap.size, j, none⟩ := by cases j <;> simp [Addr.add]
        have hj2 : j < k := by rw [dgT_len] at hj; exact hj
        rw [hadd, HO.out.cellAt j (by omega)]
        unfold dgC
        rw [List.getElem?_append_left (by simpa using hj), List.getElem?_map, List.getElem?_eq_getElem hj]
        rfl)
      rw [dgT_len] at cv
      go_wp2
      go_ret
      exact ⟨rfl, HB.out⟩

end Go.Proofs.Ythjafoacnfgjhab
