/-
  The contracts of AppendChecksum, the program's and the model's.
-/
import Derived.Test.YtlkajncgbnkkgaaDoorSeal
import Derived.Test.YtlkajncgbnkkgaaDoorStands
import Derived.Test.YtlkajncgbnkkgaaDoorCkSum
import Derived.Test.YtlkajncgbnkkgaaDoorCkImpl
import Derived.Test.YtlkajncgbnkkgaaDoorFmtImpl
import Derived.Test.YtlkajncgbnkkgaaDoorLaidTabs
import Derived.Lib.IndexAny
namespace Go.Proofs.YtlkajncgbnkkgaaDoor
open Go.RowKit
set_option linter.unusedVariables false

theorem ret_app_no {s : ByteArray} (h : ¬ (s.size ≤ 4000 ∧ (35 : UInt8) ∉ s.data.toList ∧ (sealS s).size ≤ 4000)) : Ending.returned (.tuple #[.string ⟨#[]⟩, .bool false]) = .returned (.tuple #[.string (appS s), .bool (appB s)]) := by
  rw [appS_no h, appB_no h]
theorem ret_app_yes {s : ByteArray} (h : s.size ≤ 4000 ∧ (35 : UInt8) ∉ s.data.toList ∧ (sealS s).size ≤ 4000) {t : ByteArray} (ht : t = sealS s) : Ending.returned (.tuple #[.string t, .bool true]) = .returned (.tuple #[.string (appS s), .bool (appB s)]) := by
  rw [appS_yes h, appB_yes h, ht]

theorem seal_any (s : ByteArray) (w : World) (hs : s.size ≤ 1048576) :
    Calls Tryd.prog 31 #[.string s] w fun e w' => e = .returned (.string (sealS s)) ∧ ∃ q, w' = w.drewN q := by
  obtain ⟨n, hn⟩ : ∃ n, ck.ck s.data.toList = n := ⟨_, rfl⟩
  have hbd := ck.ck_bd s.data.toList
  rw [hn] at hbd
  have HE : Hid (sealS s = s ++ ⟨#[35]⟩ ++ numI n) := Lib.hid (by unfold sealS; rw [hn])
  have cS := ck.l1Sum_any s w (by unfold maxLen; omega)
  rw [hn] at cS
  have CS := Lib.hid cS
  have z1 := numI_le n
  have z2 : (numI n).size ≤ 2000000 := by omega
  clear hn cS z1
  go_enter Tryd.func31, Tryd.ntmps31
  go_wp2_with (first | (go_at_call 38; refine CS.out.mono ?_; rintro e w' ⟨rfl, rfl⟩) | (go_at_call 22; refine (num_any n _ (by omega) (by omega)).mono ?_; rintro e w' ⟨rfl, q, rfl⟩))
  go_ret
  exact ⟨ret_s HE.out.symm, _, rfl⟩

theorem specApp_any (s : ByteArray) (w : World) (hs : s.size ≤ 1048576) :
    Calls Tryd.prog 15 #[.string s] w fun e w' => e = .returned (.tuple #[.string (appS s), .bool (appB s)]) ∧ ∃ q, w' = w.drewN q := by
  by_cases h1 : 4000 < s.size
  · have HN := Lib.hid (ret_app_no (s := s) (fun h => by omega))
    have q1 : decide ((4000 : Int) < (s.size : Int)) = true := by simp; omega
    go_enter Tryd.func15, Tryd.ntmps15
    go_wp2_with fail
    go_ret2
    exact ⟨HN.out, 0, rfl⟩
  · have q1 : decide ((4000 : Int) < (s.size : Int)) = false := by simp; omega
    by_cases h2 : (35 : UInt8) ∈ s.data.toList
    · have HN := Lib.hid (ret_app_no (s := s) (fun h => h.2.1 h2))
      have CS := Lib.hid (stands_yes s 35 w (by omega) h2)
      clear h2
      go_enter Tryd.func15, Tryd.ntmps15
      go_wp2_with fail
      refine CS.out.mono ?_
      rintro e w' ⟨rfl, hw⟩
      subst hw
      go_wp2_with fail
      go_ret2
      exact ⟨HN.out, 0, rfl⟩
    · have CS := Lib.hid (stands_no s 35 w (by omega) h2)
      have H2 := Lib.hid h2
      clear h2
      by_cases h3 : 4000 < (sealS s).size
      · have HN := Lib.hid (ret_app_no (s := s) (fun h => by omega))
        go_enter Tryd.func15, Tryd.ntmps15
        go_wp2_with fail
        refine CS.out.mono ?_
        rintro e w' ⟨rfl, hw⟩
        subst hw
        go_wp2_with fail
        refine (seal_any s _ hs).mono ?_
        rintro e w1 ⟨rfl, q, rfl⟩
        go_wp2_with fail
        go_ret2
        exact ⟨HN.out, _, rfl⟩
      · have h3' : (sealS s).size ≤ 4000 := by omega
        have HY := Lib.hid (ret_app_yes (s := s) ⟨by omega, H2.out, h3'⟩ rfl)
        go_enter Tryd.func15, Tryd.ntmps15
        go_wp2_with fail
        refine CS.out.mono ?_
        rintro e w' ⟨rfl, hw⟩
        subst hw
        go_wp2_with fail
        refine (seal_any s _ hs).mono ?_
        rintro e w1 ⟨rfl, q, rfl⟩
        go_wp2_with fail
        refine (seal_any s _ hs).mono ?_
        rintro e w1 ⟨rfl, q2, rfl⟩
        go_wp2_with fail
        go_ret2
        exact ⟨HY.out, _, rfl⟩

theorem has_sign (s : ByteArray) (t : Bool) (h : decide ((35 : UInt8) ∈ s.data.toList) = t) (w : World) :
    Calls Tryd.prog 29 #[.string s, .string ⟨#[35]⟩] w fun e w' => e = .returned (.bool t) ∧ w = w' := by
  refine (Tryd.strings_Contains_one s 35 w).mono fun e w' ⟨he, hw⟩ => ⟨?_, hw.symm⟩
  rw [he, ← Lib.contains_iff_indexByte, List.contains_eq_mem, h]

theorem implApp_any (s : ByteArray) (w : World) (hs : s.size ≤ 1048576) (htab : Lib.TabIs Tryd.prog w "internal/strconv.uint64pow10" .u64 Lib.pow10Tab) :
    Calls Tryd.prog 14 #[.string s] w fun e w' => e = .returned (.tuple #[.string (appS s), .bool (appB s)]) ∧ Below w.heap.size w w' := by
  have HT := Lib.hid htab
  clear htab
  by_cases h1 : 4000 < s.size
  · have HN := Lib.hid (ret_app_no (s := s) (fun h => by omega))
    go_enter Tryd.func14, Tryd.ntmps14
    go_wp2_with (go_at_call 28; refine (ck.impl_no s _ (by unfold maxLen; omega) h1).mono ?_; rintro e w' ⟨rfl, rfl⟩)
    go_ret2
    exact ⟨HN.out, Below.refl _ _⟩
  · have h1' : s.size ≤ 4000 := by omega
    obtain ⟨n, hn⟩ : ∃ n, ck.ck s.data.toList = n := ⟨_, rfl⟩
    have hbd := ck.ck_bd s.data.toList
    rw [hn] at hbd
    have HE : Hid (sealS s = s ++ ⟨#[35]⟩ ++ numI n) := Lib.hid (by unfold sealS; rw [hn])
    have cK := ck.impl_yes s w (by unfold maxLen; omega) h1'
    rw [hn] at cK
    have CK := Lib.hid cK
    have cF := implFmt_any n w HT.out
    have e1 : fmtS n = numI n := if_pos ⟨by omega, by omega⟩
    have e2 : fmtB n = true := decide_eq_true ⟨by omega, by omega⟩
    rw [e1, e2] at cF
    have CF := Lib.hid cF
    have z1 := numI_le n
    have z2 : (numI n).size ≤ 2000000 := by omega
    clear hn cK cF e1 e2 z1
    by_cases h2 : (35 : UInt8) ∈ s.data.toList
    · have HN := Lib.hid (ret_app_no (s := s) (fun h => h.2.1 h2))
      have CH := Lib.hid (has_sign s true (decide_eq_true h2) w)
      clear h2
      go_enter Tryd.func14, Tryd.ntmps14
      go_wp2_with (first | (go_at_call 28; refine CK.out.mono ?_; rintro e w' ⟨rfl, rfl⟩) | (go_at_call 29; refine CH.out.mono ?_; rintro e w' ⟨rfl, rfl⟩))
      go_ret2
      exact ⟨HN.out, Below.refl _ _⟩
    · have H2 := Lib.hid h2
      have CH := Lib.hid (has_sign s false (decide_eq_false h2) w)
      clear h2
      have hsz : (sealS s).size = s.size + 1 + (numI n).size := by
        rw [HE.out, ByteArray.size_append, ByteArray.size_append]
        rfl
      by_cases h3 : 4000 < s.size + 1 + (numI n).size
      · have HN := Lib.hid (ret_app_no (s := s) (fun h => by omega))
        clear hsz
        go_enter Tryd.func14, Tryd.ntmps14
        go_wp2_with (first | (go_at_call 28; refine CK.out.mono ?_; rintro e w' ⟨rfl, rfl⟩) | (go_at_call 29; refine CH.out.mono ?_; rintro e w' ⟨rfl, rfl⟩) | (go_at_call 8; refine CF.out.mono ?_; rintro e w1 ⟨rfl, hb⟩))
        go_ret2
        exact ⟨HN.out, by assumption⟩
      · have HY := Lib.hid (ret_app_yes (s := s) ⟨h1', H2.out, by omega⟩ HE.out.symm)
        clear hsz
        go_enter Tryd.func14, Tryd.ntmps14
        go_wp2_with (first | (go_at_call 28; refine CK.out.mono ?_; rintro e w' ⟨rfl, rfl⟩) | (go_at_call 29; refine CH.out.mono ?_; rintro e w' ⟨rfl, rfl⟩) | (go_at_call 8; refine CF.out.mono ?_; rintro e w1 ⟨rfl, hb⟩))
        go_ret2
        exact ⟨HY.out, by assumption⟩

end Go.Proofs.YtlkajncgbnkkgaaDoor
