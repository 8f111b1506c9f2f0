/-
  The walk of the law FnSplitJoin: what is split is joined again, joining is the model's, and less is strict.
-/
import Derived.Test.YtlkajncgbnkkgaaSplitImplWalk
import Derived.Test.YtlkajncgbnkkgaaJoinImplWalk
import Derived.Test.YtlkajncgbnkkgaaDrawStrs
import Derived.Test.YtlkajncgbnkkgaaSplitJoin
namespace Go.Proofs.Ytlkajncgbnkkgaa.fnSplitJoin
open Go.RowKit
set_option linter.unusedVariables false

theorem less_impl (a b : ByteArray) (t : Bool) (h : Op.bytesLess a.toList b.toList = t) (w : World) :
    Calls Try.prog 13 #[.string a, .string b] w fun e w' => e = .returned (.bool t) ∧ w' = w := by
  subst h
  go_enter Try.func13, Try.ntmps13
  go_wp2
  go_ret
  exact ⟨rfl, rfl⟩
theorem less_spec (a b : ByteArray) (t : Bool) (h : Op.bytesLess a.toList b.toList = t) (w : World) :
    Calls Try.prog 14 #[.string a, .string b] w fun e w' => e = .returned (.bool t) ∧ w' = w := by
  subst h
  go_enter Try.func14, Try.ntmps14
  go_wp2
  go_ret
  exact ⟨rfl, rfl⟩

theorem vBig_any (a : Option Addr) (n c : Nat) (t : Bool) (h : decide ((65536 : Int) < (n : Int)) = t) (w : World) :
    Calls Try.prog 6 #[.slice a n c] w fun e w' => e = .returned (.bool t) ∧ w = w' := by
  go_enter Try.func6, Try.ntmps6
  go_wp2
  go_ret
  exact ⟨by rw [← h]; rfl, rfl⟩

set_option maxHeartbeats 2000000 in
theorem walk (a0 : Option Addr) (n c : Nat) (z0 : List Int) (w : World) (w0 : IsBytes w a0 n c z0) :
    Calls Try.prog 3 #[.slice a0 n c] w fun e w' => e = .returned (.bool true) ∧ Below w.heap.size w w' := by
  obtain ⟨l, hl⟩ : ∃ l, l = (z0.take n).map fun z => UInt8.ofNat z.toNat := ⟨_, rfl⟩
  have Y0 := Lib.hid (show Bytes w.heap.size w a0 n c l from hl ▸ w0.bytes)
  clear hl w0
  by_cases hb : 65536 < n
  · have cV := Lib.hid (vBig_any a0 n c true (by simp; omega) w)
    go_enter Try.func3, Try.ntmps3
    go_wp2_with (go_at_call 6; refine cV.out.mono ?_; rintro e w' ⟨rfl, rfl⟩)
    go_ret
    exact ⟨rfl, Below.refl _ _⟩
  · have cV := Lib.hid (vBig_any a0 n c false (by simp; omega) w)
    have hn : n ≤ 1000000 := by omega
    go_enter Try.func3, Try.ntmps3
    go_wp2_with (go_at_call 6; refine cV.out.mono ?_; rintro e w' ⟨rfl, rfl⟩)
    refine (drawSplit_any a0 n c l w Y0.out hn).mono ?_
    rintro e w1 ⟨s, sep, rfl, hs, hsep, hb1⟩
    go_wp2_with fail
    refine (implSplit_any s sep w1 (by omega) (by omega)).mono ?_
    rintro e w2 ⟨g, k, rfl, o2, hb2⟩
    obtain ⟨P, hP⟩ : ∃ P, splAns s sep = P := ⟨_, rfl⟩
    obtain ⟨ok, hok⟩ : ∃ ok, splOk s sep = ok := ⟨_, rfl⟩
    obtain ⟨m, hm⟩ : ∃ m, (splAns s sep).length = m := ⟨_, rfl⟩
    rw [hm, hP] at o2
    rw [hm, hok]
    have lg := own_lt o2
    have hb02 := hb1.trans (hb2.mono hb1.size)
    have HM := Lib.hid hm
    have HP := Lib.hid hP
    have HK := Lib.hid hok
    have O2 := Lib.hid o2
    clear hm hP hok o2
    go_wp2_with fail
    refine (drawJoin_any a0 n c l w2 ((Y0.out.keep hb02).mono hb02.size) hn).mono ?_
    rintro e w3 ⟨gj, kj, Q, t, rfl, hQl, hQs, ht, oj, hb3⟩
    have hb03 := hb02.trans (hb3.mono hb02.size)
    obtain ⟨mj, hmj⟩ : ∃ mj, Q.length = mj := ⟨_, rfl⟩
    rw [hmj] at oj hQl ⊢
    have SJ := Lib.hid (strs_of_own oj (fun s hs => by have := hQs s hs; omega) (own_lt oj))
    have hsum := jlen_small Q hQs
    rw [hmj] at hsum
    have HQ : Hid (∀ s ∈ Q, s.size ≤ 1048576) := Lib.hid (fun s hs => by have := hQs s hs; omega)
    have hQN : mj + (Q.map (·.size)).sum ≤ 1048576 := by omega
    have HQN := Lib.hid hQN
    clear oj hQs hsum hQN hmj
    go_wp2_with fail
    refine (impl_join_any _ mj kj Q t w3 SJ.out HQN.out (by omega)).mono ?_
    rintro e w4 ⟨rfl, hb4⟩
    have hb04 := hb03.trans (hb4.mono hb03.size)
    go_wp2_with fail
    refine (spec_join_any w3.heap.size _ mj kj Q t w4 hb4.size (SJ.out.keep hb4) HQ.out (by omega)).mono ?_
    rintro e w5 ⟨rfl, hb5⟩
    have hb05 := hb04.trans (hb5.mono hb04.size)
    obtain ⟨J, hJ⟩ : ∃ J, joinS Q t = J := ⟨_, rfl⟩
    obtain ⟨F, hF⟩ : ∃ F, joinB Q t = F := ⟨_, rfl⟩
    rw [hJ, hF]
    clear hJ hF
    have hFF : (F != F) = false := by cases F <;> rfl
    have hJJ : (J.toList != J.toList) = false := by simp
    go_wp2_with fail
    refine (drawLess_any a0 n c l w5 ((Y0.out.keep hb05).mono hb05.size) hn).mono ?_
    rintro e w6 ⟨x, y, rfl, hx, hy, hb6⟩
    have hb06 := hb05.trans (hb6.mono hb05.size)
    have LL : Hid ((Op.bytesLess x.toList y.toList = true ∧ Op.bytesLess y.toList x.toList = false) ∨ Op.bytesLess x.toList y.toList = false) := Lib.hid (by
      cases h : Op.bytesLess x.toList y.toList with
      | true => exact .inl ⟨rfl, less_asymm _ _ h⟩
      | false => exact .inr rfl)
    by_cases h1 : sep.size = 1
    · have q1 : ((sep.size : Int) != 1) = false := by rw [h1]; rfl
      obtain ⟨h0, hsb⟩ := sep_one h1
      obtain ⟨v, hv⟩ : ∃ v, sep.data.toList = [v] := ⟨_, hsb⟩
      have hPe : P = spl s v := by rw [← HP.out]; exact splAns_yes ⟨h1, by omega⟩ hv
      have hOk : ok = true := by rw [← HK.out]; exact splOk_yes ⟨h1, by omega⟩
      subst hOk
      have hmP : m = P.length := by rw [← HM.out, HP.out]
      have hN : m + (P.map (·.size)).sum ≤ 1048576 := by
        have h2 := spl_sum s v
        have h3 := spl_len s v
        rw [hmP, hPe]
        omega
      have HN := Lib.hid hN
      have HJ : Hid (joinAns P sep = (s.data.toList, true)) := Lib.hid (by rw [hPe]; exact joinAns_spl h1 (by omega) hv)
      have S2 := Lib.hid (strs_of_own O2.out (fun z hz => by
        rw [hPe] at hz
        have := spl_each s v z hz
        omega) lg)
      have S6 := Lib.hid ((((((S2.out.keep hb3).keep (hb4.mono hb3.size)).keep (hb5.mono (by have := hb3.size; have := hb4.size; omega))).keep (hb6.mono (by have := hb3.size; have := hb4.size; have := hb5.size; omega))).mono (show w2.heap.size ≤ w6.heap.size by have := hb3.size; have := hb4.size; have := hb5.size; have := hb6.size; omega)))
      have hjs : joinS P sep = s := by unfold joinS; rw [HJ.out]
      have hjb : joinB P sep = true := by unfold joinB; rw [HJ.out]
      have cJ := impl_join_any _ m k P sep w6 S6.out HN.out (by omega)
      rw [hjs, hjb] at cJ
      have CJ := Lib.hid cJ
      have hss : (s.toList == s.toList) = true := by simp
      clear hsb hv hPe hmP hN hjs hjb cJ h0 h1 HP HM HK
      rcases LL.out with ⟨hA, hB⟩ | hA
      · have HA := Lib.hid hA
        have HB := Lib.hid hB
        clear hA hB
        go_wp2_with (first | (go_at_call 13; ((with_reducible refine (less_impl x y _ HA.out _).mono ?_); rintro e w' ⟨rfl, rfl⟩)) | (go_at_call 13; ((with_reducible refine (less_impl y x _ HB.out _).mono ?_); rintro e w' ⟨rfl, rfl⟩)) | (go_at_call 14; refine (less_spec x y _ HA.out _).mono ?_; rintro e w' ⟨rfl, rfl⟩))
        refine CJ.out.mono ?_
        rintro e w7 ⟨rfl, hb7⟩
        have hb07 := hb06.trans (hb7.mono hb06.size)
        go_wp2_with fail
        go_ret
        exact ⟨rfl, hb07⟩
      · have HA := Lib.hid hA
        clear hA
        go_wp2_with (first | (go_at_call 13; ((with_reducible refine (less_impl x y _ HA.out _).mono ?_); rintro e w' ⟨rfl, rfl⟩)) | (go_at_call 14; refine (less_spec x y _ HA.out _).mono ?_; rintro e w' ⟨rfl, rfl⟩))
        refine CJ.out.mono ?_
        rintro e w7 ⟨rfl, hb7⟩
        have hb07 := hb06.trans (hb7.mono hb06.size)
        go_wp2_with fail
        go_ret
        exact ⟨rfl, hb07⟩
    · have q1 : ((sep.size : Int) != 1) = true := by simp; omega
      have hPe : P = [] := by rw [← HP.out]; exact splAns_no (fun h => h1 h.1)
      have hOk : ok = false := by rw [← HK.out]; exact splOk_no (fun h => h1 h.1)
      have hm0 : m = 0 := by rw [← HM.out, HP.out, hPe]; rfl
      subst hOk
      subst hm0
      clear hPe h1 HP HM HK
      rcases LL.out with ⟨hA, hB⟩ | hA
      · have HA := Lib.hid hA
        have HB := Lib.hid hB
        clear hA hB
        go_wp2_with (first | (go_at_call 13; ((with_reducible refine (less_impl x y _ HA.out _).mono ?_); rintro e w' ⟨rfl, rfl⟩)) | (go_at_call 13; ((with_reducible refine (less_impl y x _ HB.out _).mono ?_); rintro e w' ⟨rfl, rfl⟩)) | (go_at_call 14; refine (less_spec x y _ HA.out _).mono ?_; rintro e w' ⟨rfl, rfl⟩))
        go_ret
        exact ⟨rfl, hb06⟩
      · have HA := Lib.hid hA
        clear hA
        go_wp2_with (first | (go_at_call 13; ((with_reducible refine (less_impl x y _ HA.out _).mono ?_); rintro e w' ⟨rfl, rfl⟩)) | (go_at_call 14; refine (less_spec x y _ HA.out _).mono ?_; rintro e w' ⟨rfl, rfl⟩))
        go_ret
        exact ⟨rfl, hb06⟩

end Go.Proofs.Ytlkajncgbnkkgaa.fnSplitJoin
