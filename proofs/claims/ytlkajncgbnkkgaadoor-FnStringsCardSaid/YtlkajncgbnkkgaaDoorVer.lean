/-
  The contracts of VerifyChecksum, the program's and the model's.
-/
import Derived.Test.YtlkajncgbnkkgaaDoorApp
import Derived.Test.YtlkajncgbnkkgaaDoorTextEq
namespace Go.Proofs.YtlkajncgbnkkgaaDoor
open Go.RowKit
set_option linter.unusedVariables false

theorem ret_ver_no {s : ByteArray} (h : ¬ (s.size ≤ 4000 ∧ sealS (headS s) = s)) : Ending.returned (.tuple #[.string ⟨#[]⟩, .bool false]) = .returned (.tuple #[.string (verS s), .bool (verB s)]) := by
  rw [verS_no h, verB_no h]
theorem ret_ver_yes {s : ByteArray} (h : s.size ≤ 4000 ∧ sealS (headS s) = s) : Ending.returned (.tuple #[.string (headS s), .bool true]) = .returned (.tuple #[.string (verS s), .bool (verB s)]) := by
  rw [verS_yes h, verB_yes h]

theorem str_ne (a b : ByteArray) (h : a ≠ b) : (a.toList == b.toList) = false := by
  exact text_ne a b h
theorem str_same (a b : ByteArray) (h : a = b) : (a.toList == b.toList) = true := by
  exact text_same a b h

theorem cut_sign (s : ByteArray) (t : Bool) (h : decide ((35 : UInt8) ∈ s.data.toList) = t) (m : Int) (w : World) (hs : s.size ≤ 1048576) (hm : w.cell? ⟨2, 0, none⟩ = some (.int .i64 m)) :
    Calls Tryd.prog 32 #[.string s, .string ⟨#[35]⟩] w fun e w' => (∃ z, e = .returned (.tuple #[.string (headS s), .string z, .bool t])) ∧ ∃ q, w' = w.drewN q := by
  obtain ⟨h1, h2⟩ := cut_head_s s
  refine (Tryd.strings_Cut s ⟨#[35]⟩ m w (by omega) hm).mono fun e w' ⟨he, hw⟩ => ⟨⟨⟨(Lib.cut s.data.toList [35]).2.1.toArray⟩, ?_⟩, hw⟩
  rw [he]
  show Ending.returned (.tuple #[.string ⟨(Lib.cut s.data.toList [35]).1.toArray⟩, .string ⟨(Lib.cut s.data.toList [35]).2.1.toArray⟩, .bool (Lib.cut s.data.toList [35]).2.2]) = _
  rw [h1, h2, h]

theorem implVer_any (s : ByteArray) (m : Int) (w : World) (hs : s.size ≤ 1048576) (htab : Lib.TabIs Tryd.prog w "internal/strconv.uint64pow10" .u64 Lib.pow10Tab) (hm : w.cell? ⟨2, 0, none⟩ = some (.int .i64 m)) :
    Calls Tryd.prog 16 #[.string s] w fun e w' => e = .returned (.tuple #[.string (verS s), .bool (verB s)]) ∧ Below w.heap.size w w' := by
  have HT := Lib.hid htab
  clear htab
  have htl := headS_le s
  by_cases h1 : (35 : UInt8) ∈ s.data.toList
  · have CC := Lib.hid (cut_sign s true (decide_eq_true h1) m w hs hm)
    obtain ⟨t, ht⟩ : ∃ t, headS s = t := ⟨_, rfl⟩
    have HTT := Lib.hid ht
    have hfree := headS_free s
    rw [ht] at CC htl hfree
    have HFR := Lib.hid hfree
    clear ht hfree h1
    have hts : t.size ≤ 1048576 := by omega
    by_cases hA : t.size ≤ 4000 ∧ (35 : UInt8) ∉ t.data.toList ∧ (sealS t).size ≤ 4000
    · obtain ⟨L, hL⟩ : ∃ L, sealS t = L := ⟨_, rfl⟩
      have HL := Lib.hid hL
      have cA := Lib.hid (fun w h => implApp_any t w hts h)
      rw [appS_yes hA, appB_yes hA, hL] at cA
      have HLs := hA.2.2
      rw [hL] at HLs
      clear hA hL
      by_cases h2 : L = s
      · have HY := Lib.hid (ret_ver_yes (s := s) ⟨by rw [← h2]; exact HLs, by rw [HTT.out, HL.out]; exact h2⟩)
        rw [HTT.out] at HY
        have hq := str_same L s h2
        clear h2
        go_enter Tryd.func16, Tryd.ntmps16
        go_wp2_with fail
        refine CC.out.mono ?_
        rintro e w1 ⟨⟨z, rfl⟩, q, rfl⟩
        go_wp2_with fail
        refine (cA.out (w.drewN q) (pow10_stays HT.out (below_drewN (Below.refl _ _) q))).mono ?_
        rintro e w2 ⟨rfl, hb2⟩
        have hbw : Below w.heap.size w w2 := (below_drewN (Below.refl _ _) q).trans hb2
        go_wp2_with fail
        go_ret2
        exact ⟨HY.out, hbw⟩
      · have HN := Lib.hid (ret_ver_no (s := s) (fun h => h2 (by rw [← HL.out, ← HTT.out]; exact h.2)))
        have hq := str_ne L s h2
        clear h2
        go_enter Tryd.func16, Tryd.ntmps16
        go_wp2_with fail
        refine CC.out.mono ?_
        rintro e w1 ⟨⟨z, rfl⟩, q, rfl⟩
        go_wp2_with fail
        refine (cA.out (w.drewN q) (pow10_stays HT.out (below_drewN (Below.refl _ _) q))).mono ?_
        rintro e w2 ⟨rfl, hb2⟩
        have hbw : Below w.heap.size w w2 := (below_drewN (Below.refl _ _) q).trans hb2
        go_wp2_with fail
        go_ret2
        exact ⟨HN.out, hbw⟩
    · have cA := Lib.hid (fun w h => implApp_any t w hts h)
      rw [appS_no hA, appB_no hA] at cA
      have HN := Lib.hid (ret_ver_no (s := s) (fun h => hA ⟨by omega, HFR.out, by
        rw [← HTT.out, h.2]
        exact h.1⟩))
      clear hA
      go_enter Tryd.func16, Tryd.ntmps16
      go_wp2_with fail
      refine CC.out.mono ?_
      rintro e w1 ⟨⟨z, rfl⟩, q, rfl⟩
      go_wp2_with fail
      refine (cA.out (w.drewN q) (pow10_stays HT.out (below_drewN (Below.refl _ _) q))).mono ?_
      rintro e w2 ⟨rfl, hb2⟩
      have hbw : Below w.heap.size w w2 := (below_drewN (Below.refl _ _) q).trans hb2
      go_wp2_with fail
      go_ret2
      exact ⟨HN.out, hbw⟩
  · have CC := Lib.hid (cut_sign s false (decide_eq_false h1) m w hs hm)
    have HN := Lib.hid (ret_ver_no (s := s) (fun h => by
      have h3 := sealS_size (headS s)
      rw [h.2, headS_none h1] at h3
      omega))
    obtain ⟨t, ht⟩ : ∃ t, headS s = t := ⟨_, rfl⟩
    rw [ht] at CC htl
    clear ht h1
    go_enter Tryd.func16, Tryd.ntmps16
    go_wp2_with fail
    refine CC.out.mono ?_
    rintro e w1 ⟨⟨z, rfl⟩, q, rfl⟩
    go_wp2_with fail
    go_ret2
    exact ⟨HN.out, below_drewN (Below.refl _ _) _⟩

end Go.Proofs.YtlkajncgbnkkgaaDoor
