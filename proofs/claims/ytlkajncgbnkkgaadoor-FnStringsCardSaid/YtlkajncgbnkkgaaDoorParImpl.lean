/-
  The contract of the program's ParseInt.
-/
import Derived.Test.YtlkajncgbnkkgaaDoorRead
import Derived.Test.YtlkajncgbnkkgaaDoorFmtImpl
import Derived.Test.YtlkajncgbnkkgaaDoorTextEq
import Derived.Test.YtlkajncgbnkkgaaDoorLaidErrs
import Derived.Lib.AtoiAllCases
namespace Go.Proofs.YtlkajncgbnkkgaaDoor
open Go.RowKit
set_option linter.unusedVariables false

theorem ret_pari_no {s : ByteArray} (h : ¬ ∃ n, IsNum s n) : Ending.returned (.tuple #[.int .i64 0, .bool false]) = .returned (.tuple #[.int .i64 (parN s), .bool (parB s)]) := by
  rw [parN_no h, parB_no h]
theorem ret_pari_yes {s : ByteArray} {n : Int} (h : IsNum s n) : Ending.returned (.tuple #[.int .i64 n, .bool true]) = .returned (.tuple #[.int .i64 (parN s), .bool (parB s)]) := by
  rw [parN_yes h, parB_yes h]

theorem atoi_of_num {s : ByteArray} {n : Int} (h : IsNum s n) : Lib.atoiAll s.data.toList = .ok n := by
  obtain ⟨h1, h2, rfl⟩ := h
  exact atoi_itoa h1 h2

/-- Atoi does not read the text -/
theorem atoi_no (s : ByteArray) (w : World) (hs : s.size ≤ 1048576) (hE : Errs w) (h : ∀ v, Lib.atoiAll s.data.toList ≠ .ok v) :
    Calls Tryd.prog 25 #[.string s] w fun e w' => (∃ (v : Int) (N : Nat), e = .returned (.tuple #[.int .i64 v, .iface 64 (.pointer (some ⟨N, 0, none⟩))])) ∧ Below w.heap.size w w' := by
  obtain ⟨⟨t, p, h1⟩, ⟨t', p', h2⟩⟩ := hE
  cases hA : Lib.atoiAll s.data.toList
  · exact absurd hA (h _)
  · refine (Any.strconv_Atoi_syntax_var Tryd.laysC172 s (by omega) hA t p w h1).mono fun e w' ⟨N, he, _, _, hb⟩ => ⟨⟨_, N, he⟩, hb⟩
  · refine (Any.strconv_Atoi_range_var Tryd.laysC172 s (by omega) hA t' p' w h2).mono fun e w' ⟨N, he, _, _, hb⟩ => ⟨⟨_, N, he⟩, hb⟩

theorem atoi_yes (s : ByteArray) (v : Int) (w : World) (hs : s.size ≤ 1048576) (h : Lib.atoiAll s.data.toList = .ok v) :
    Calls Tryd.prog 25 #[.string s] w fun e w' => e = .returned (.tuple #[.int .i64 v, .nilIface]) ∧ Below w.heap.size w w' := by
  refine (Tryd.strconv_Atoi_ok s (by omega) v h w).mono fun e w' ⟨he, hw⟩ => ⟨he, ?_⟩
  rcases hw with rfl | ⟨t, rfl⟩
  · exact Below.refl _ _
  · exact Lib.bytesWorld_below _ _ _

theorem implPar_any (s : ByteArray) (w : World) (hs : s.size ≤ 1048576) (htab : Lib.TabIs Tryd.prog w "internal/strconv.uint64pow10" .u64 Lib.pow10Tab) (hE : Errs w) :
    Calls Tryd.prog 11 #[.string s] w fun e w' => e = .returned (.tuple #[.int .i64 (parN s), .bool (parB s)]) ∧ Below w.heap.size w w' := by
  have HT := Lib.hid htab
  clear htab
  by_cases hA : ∃ v, Lib.atoiAll s.data.toList = .ok v
  · obtain ⟨v, hv⟩ := hA
    have CA := Lib.hid (atoi_yes s v w hs hv)
    have HU : Hid (∀ n, IsNum s n → n = v) := Lib.hid (fun n hn => by
      have := atoi_of_num hn
      rw [hv] at this
      injection this with this
      exact this.symm)
    clear hv hE
    by_cases hr : -999999 ≤ v ∧ v ≤ 999999
    · obtain ⟨N, hN⟩ : ∃ N, numI v = N := ⟨_, rfl⟩
      have cF := Lib.hid (fun w h => implFmt_any v w h)
      have e1 : fmtS v = numI v := if_pos hr
      have e2 : fmtB v = true := decide_eq_true hr
      rw [e1, e2, hN] at cF
      have HN := Lib.hid hN
      have HR := Lib.hid hr
      clear e1 e2 hN hr
      by_cases he : N = s
      · have HY := Lib.hid (ret_pari_yes (s := s) (n := v) ⟨HR.out.1, HR.out.2, by rw [HN.out]; exact he⟩)
        have hq := text_same N s he
        clear he
        go_enter Tryd.func11, Tryd.ntmps11
        go_wp2_with fail
        refine CA.out.mono ?_
        rintro e w1 ⟨rfl, hb1⟩
        go_wp2_with fail
        refine (cF.out w1 (pow10_stays HT.out hb1)).mono ?_
        rintro e w2 ⟨rfl, hb2⟩
        have hbw := hb1.trans (hb2.mono hb1.size)
        go_wp2_with fail
        go_ret2
        exact ⟨HY.out, hbw⟩
      · have HX := Lib.hid (ret_pari_no (s := s) (fun ⟨n, hn⟩ => he (by
          rw [← HN.out, ← HU.out n hn]
          exact hn.2.2)))
        have hq := text_ne N s he
        clear he
        go_enter Tryd.func11, Tryd.ntmps11
        go_wp2_with fail
        refine CA.out.mono ?_
        rintro e w1 ⟨rfl, hb1⟩
        go_wp2_with fail
        refine (cF.out w1 (pow10_stays HT.out hb1)).mono ?_
        rintro e w2 ⟨rfl, hb2⟩
        have hbw := hb1.trans (hb2.mono hb1.size)
        go_wp2_with fail
        go_ret2
        exact ⟨HX.out, hbw⟩
    · have cF := Lib.hid (fun w h => implFmt_any v w h)
      have e1 : fmtS v = ⟨#[]⟩ := if_neg hr
      have e2 : fmtB v = false := decide_eq_false hr
      rw [e1, e2] at cF
      have HX := Lib.hid (ret_pari_no (s := s) (fun ⟨n, hn⟩ => hr (by
        rw [← HU.out n hn]
        exact ⟨hn.1, hn.2.1⟩)))
      clear e1 e2 hr
      go_enter Tryd.func11, Tryd.ntmps11
      go_wp2_with fail
      refine CA.out.mono ?_
      rintro e w1 ⟨rfl, hb1⟩
      go_wp2_with fail
      refine (cF.out w1 (pow10_stays HT.out hb1)).mono ?_
      rintro e w2 ⟨rfl, hb2⟩
      have hbw := hb1.trans (hb2.mono hb1.size)
      go_wp2_with fail
      go_ret2
      exact ⟨HX.out, hbw⟩
  · have CA := Lib.hid (atoi_no s w hs hE (fun v hv => hA ⟨v, hv⟩))
    have HX := Lib.hid (ret_pari_no (s := s) (fun ⟨n, hn⟩ => hA ⟨n, atoi_of_num hn⟩))
    clear hA hE
    go_enter Tryd.func11, Tryd.ntmps11
    go_wp2_with fail
    refine CA.out.mono ?_
    rintro e w1 ⟨⟨v, N, rfl⟩, hb1⟩
    go_wp2_with fail
    go_ret2
    exact ⟨HX.out, hb1⟩

end Go.Proofs.YtlkajncgbnkkgaaDoor
