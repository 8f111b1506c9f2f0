/-
  Plain patterns: what they are, and the reference's walk.
-/
import Derived.Test.YtpneflbnipefaaaPatLaw
import Derived.Test.YtpneflbnipefaaaDiff
namespace Go.Proofs.Ytpneflbnipefaaa
open Go.RowKit
set_option linter.unusedVariables false

/-- one sign more: what is written so far, and whether a star is held back -/
def plS (s : Txt × Bool) (c : UInt8) : Txt × Bool :=
  if c.toNat = 42 then (s.1, true) else if c.toNat = 63 then (s.1 ++ [63], s.2) else ((if s.2 then s.1 ++ [42] else s.1) ++ [c], false)
def plT (x : Txt) : Txt × Bool := x.foldl plS ([], false)
def plF (s : Txt × Bool) : Txt := if s.2 then s.1 ++ [42] else s.1
theorem plT_snoc (x : Txt) (c : UInt8) : plT (x ++ [c]) = plS (plT x) c := by simp [plT]
theorem plS_star {s : Txt × Bool} {c : UInt8} (h : c.toNat = 42) : plS s c = (s.1, true) := by rw [plS, if_pos h]
theorem plS_one {s : Txt × Bool} {c : UInt8} (h : c.toNat = 63) : plS s c = (s.1 ++ [63], s.2) := by rw [plS, if_neg (by omega), if_pos h]
theorem plS_let {s : Txt × Bool} {c : UInt8} (h : ¬ c.toNat = 42) (h2 : ¬ c.toNat = 63) : plS s c = (plF s ++ [c], false) := by rw [plS, if_neg h, if_neg h2]; rfl
theorem plS_len (s : Txt × Bool) (c : UInt8) : (plS s c).1.length ≤ s.1.length + 2 := by
  unfold plS
  split
  · show s.1.length ≤ _; omega
  · split
    · simp
    · split <;> simp
theorem plT_len : ∀ (n : Nat) (x : Txt), x.length = n → (plT x).1.length ≤ 2 * n
  | 0, x, h => by rw [List.length_eq_zero_iff.1 h]; simp [plT]
  | n + 1, x, h => by
    obtain ⟨r, c, rfl⟩ : ∃ r c, x = r ++ [c] := by
      rcases List.eq_nil_or_concat x with h2 | ⟨r, q, h2⟩
      · rw [h2] at h; simp at h
      · exact ⟨r, q, by simpa using h2⟩
    have h1 := plT_len n r (by simpa using h)
    have h2 := plS_len (plT r) c
    rw [plT_snoc]
    omega

/-- what has been told of the first k signs -/
def plA (s : ByteArray) (k : Nat) : Txt × Bool := plT (s.data.toList.take k)
theorem plA_succ {s : ByteArray} {k : Nat} (h : k < s.size) : plA s (k + 1) = plS (plA s k) s[k] := by
  unfold plA
  rw [List.take_succ_eq_append_getElem (by simpa using h), plT_snoc]
  rfl
theorem plA_len {s : ByteArray} {k : Nat} (h : k ≤ s.size) (hs : s.size ≤ 14) : (plA s k).1.length ≤ 28 := by
  have := plT_len k (s.data.toList.take k) (by simp; omega)
  unfold plA
  omega
noncomputable def plAll (s : ByteArray) : Txt := plF (plA s s.size)

theorem txt_app (a b : ByteArray) : (a ++ b).data.toList = a.data.toList ++ b.data.toList := by simp
theorem sz_tl (x : ByteArray) : x.size = x.data.toList.length := by simp
theorem ext_one {s : ByteArray} {k : Nat} (h : k < s.size) : (s.extract k (k + 1)).data.toList = [s[k]] := by
  have h' : k < s.data.toList.length := by simpa using h
  rw [ByteArray.data_extract, Array.toList_extract, List.extract_eq_take_drop, show k + 1 - k = 1 by omega, List.drop_eq_getElem_cons h', List.take_succ_cons, List.take_zero]
  rfl
theorem ext_sz {s : ByteArray} {k : Nat} (h : k < s.size) : (s.extract k (k + 1)).size = 1 := by rw [sz_tl, ext_one h]; rfl

set_option maxRecDepth 1000000 in
set_option maxHeartbeats 2000000 in
theorem specPlain_yes (s : ByteArray) (w : World) (hg : okG s = true) :
    ∃ z : ByteArray, z.data.toList = plAll s ∧ Calls Try.prog 13 #[.string s] w fun e w' => e = .returned (.tuple #[.string z, .bool true]) ∧ Below w.heap.size w w' := by
  have hs := okG_size hg
  have c10 := l6Pattern_any s w (by omega)
  rw [hg] at c10
  have c1 := Lib.hid c10
  refine ⟨⟨(plAll s).toArray⟩, rfl, ?_⟩
  obtain ⟨z, hz⟩ : ∃ z : ByteArray, (⟨(plAll s).toArray⟩ : ByteArray) = z := ⟨_, rfl⟩
  have HZ : Hid (z.data.toList = plAll s) := Lib.hid (by rw [← hz])
  have HEq : Hid (∀ u : ByteArray, u.data.toList = plAll s → u = z) := Lib.hid (fun u hu => by
    have : u.data.toList = z.data.toList := by rw [hu, HZ.out]
    cases u; cases z; simp at this; simp [this])
  rw [hz]
  clear hz c10 hg
  go_enter Try.func13, Try.ntmps13
  go_wp2_with fail
  refine c1.out.mono ?_
  rintro e w0 ⟨rfl, rfl⟩
  go_wp2_with fail
  go_loop [4, 5, 6] (fun o st i => ∃ (k : Nat) (u : ByteArray) (b : Bool), k ≤ s.size ∧ i = .int .i64 (k : Int) ∧ o = .string u ∧ st = .bool b ∧ u.size ≤ 28 ∧ Hid (plA s k = (u.data.toList, b))) (fun _ _ i => s.size - (intOf i).toNat)
  case atStart => exact ⟨0, _, _, Nat.zero_le _, rfl, rfl, rfl, by show (0 : Nat) ≤ 28; omega, Lib.hid (by simp [plA, plT])⟩
  case round =>
    obtain ⟨k, u, b, hk, rfl, rfl, rfl, hu, HP⟩ := hrel
    by_cases hlt : k < s.size
    · have HN := Lib.hid (plA_succ hlt)
      have hlen := plA_len (s := s) (k := k + 1) (by omega) hs
      by_cases h42 : s[k].toNat = 42
      · have t1 : ((s[k].toNat : Int) == 42) = true := by rw [h42]; rfl
        have HF : Hid (plA s (k + 1) = (u.data.toList, true)) := Lib.hid (by rw [HN.out, plS_star h42, HP.out])
        clear h42 hlen
        go_wp2_with fail
        go_round
        case rel => exact ⟨k + 1, u, true, by omega, by go_num, rfl, rfl, hu, HF⟩
        case measure => simp [intOf]; omega
      · have t1 : ((s[k].toNat : Int) == 42) = false := by simp; omega
        by_cases h63 : s[k].toNat = 63
        · have t2 : ((s[k].toNat : Int) == 63) = true := by rw [h63]; rfl
          have HF : Hid (plA s (k + 1) = ((u ++ ⟨#[63]⟩).data.toList, b)) := Lib.hid (by rw [HN.out, plS_one h63, HP.out, txt_app])
          have hu2 : (u ++ ⟨#[63]⟩).size ≤ 28 := by rw [sz_tl]; rw [HF.out] at hlen; exact hlen
          clear h42 h63 hlen
          go_wp2_with fail
          go_round
          case rel => exact ⟨k + 1, _, b, by omega, by go_num, rfl, rfl, hu2, HF⟩
          case measure => simp [intOf]; omega
        · have t2 : ((s[k].toNat : Int) == 63) = false := by simp; omega
          have HX := Lib.hid (ext_one hlt)
          have hx1 := ext_sz hlt
          have HL := Lib.hid (plS_let (s := plA s k) h42 h63)
          cases b
          · have HF : Hid (plA s (k + 1) = ((u ++ s.extract k (k + 1)).data.toList, false)) := Lib.hid (by rw [HN.out, HL.out, HP.out, txt_app, HX.out]; rfl)
            have hu2 : (u ++ s.extract k (k + 1)).size ≤ 28 := by rw [sz_tl]; rw [HF.out] at hlen; exact hlen
            clear h42 h63 hlen
            go_wp2_with fail
            go_round
            case rel => exact ⟨k + 1, _, false, by omega, by go_num, rfl, rfl, hu2, HF⟩
            case measure => simp [intOf]; omega
          · have HF : Hid (plA s (k + 1) = (((u ++ ⟨#[42]⟩) ++ s.extract k (k + 1)).data.toList, false)) := Lib.hid (by rw [HN.out, HL.out, HP.out, txt_app, txt_app, HX.out]; rfl)
            have hu2 : ((u ++ ⟨#[42]⟩) ++ s.extract k (k + 1)).size ≤ 28 := by rw [sz_tl]; rw [HF.out] at hlen; exact hlen
            clear h42 h63 hlen
            go_wp2_with fail
            go_round
            case rel => exact ⟨k + 1, _, false, by omega, by go_num, rfl, rfl, hu2, HF⟩
            case measure => simp [intOf]; omega
    · obtain rfl : k = s.size := by omega
      cases b
      · have HF := Lib.hid (HEq.out u (by unfold plAll; rw [HP.out]; rfl))
        go_wp2_with fail
        go_ret2
        exact ⟨by first | rfl | (rw [HF.out]; rfl) | (rw [HF.out]), Below.refl _ _⟩
      · have HF := Lib.hid (HEq.out (u ++ ⟨#[42]⟩) (by unfold plAll; rw [HP.out, txt_app]; rfl))
        go_wp2_with fail
        go_ret2
        exact ⟨by first | rfl | (rw [HF.out]; rfl) | (rw [HF.out]), Below.refl _ _⟩

end Go.Proofs.Ytpneflbnipefaaa
