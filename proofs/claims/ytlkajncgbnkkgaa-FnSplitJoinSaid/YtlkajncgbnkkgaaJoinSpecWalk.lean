/-
  The contract of the model's JoinStrings.
-/
import Derived.Test.YtlkajncgbnkkgaaSl
import Derived.Test.YtlkajncgbnkkgaaJoin
import Derived.Test.YtlkajncgbnkkgaaStands
import Derived.Deep.QuietTactic
import Derived.BigQuiet
import Derived.Lib.Hide
import Derived.WalkSpells
import Derived.WalkSmall
namespace Go.Proofs.Ytlkajncgbnkkgaa
open Go.RowKit
set_option linter.unusedVariables false

noncomputable def joinS (ss : List ByteArray) (sep : ByteArray) : ByteArray := ⟨(joinAns ss sep).1.toArray⟩
noncomputable def joinB (ss : List ByteArray) (sep : ByteArray) : Bool := (joinAns ss sep).2

theorem ret_join_no {ss : List ByteArray} {sep : ByteArray} (h : joinAns ss sep = ([], false)) :
    Ending.returned (.tuple #[.string ⟨#[]⟩, .bool false]) = .returned (.tuple #[.string (joinS ss sep), .bool (joinB ss sep)]) := by
  unfold joinS joinB
  rw [h]

theorem ret_join_yes {ss : List ByteArray} {sep o : ByteArray} {l : List UInt8} (h : joinAns ss sep = (l, true)) (ho : o.data.toList = l) :
    Ending.returned (.tuple #[.string o, .bool true]) = .returned (.tuple #[.string (joinS ss sep), .bool (joinB ss sep)]) := by
  unfold joinS joinB
  rw [h, ← ho]

theorem append_data (a b : ByteArray) : (a ++ b).data.toList = a.data.toList ++ b.data.toList := by simp

theorem big_no {ss : List ByteArray} {sep o : ByteArray} {k : Nat} {x : UInt8} (ho : o.data.toList = jn (ss.take k) x) (hb : 4000 < o.size) : joinAns ss sep = ([], false) := by
  refine joinAns_no fun h => ?_
  have h1 := jlen_take_le ss k
  have h2 := jn_len (ss.take k) x
  rw [← ho, ← size_data] at h2
  omega

set_option maxHeartbeats 4000000 in
theorem spec_join_any (B : Nat) (a : Option Addr) (n c : Nat) (ss : List ByteArray) (sep : ByteArray) (w : World) (hB : B ≤ w.heap.size) (h : Strs B w a n c ss) (hs : ∀ s ∈ ss, s.size ≤ 1048576) (hsep : sep.size ≤ 9223372036854775807) :
    Calls Try.prog 11 #[.slice a n c, .string sep] w fun e w' => e = .returned (.tuple #[.string (joinS ss sep), .bool (joinB ss sep)]) ∧ Below w.heap.size w w' := by
  have L := Lib.hid h.len
  have C := h.sl.cap
  have T := h.sl.top
  have H := Lib.hid h
  have HSZ := Lib.hid hs
  clear h hs
  by_cases h1 : sep.size = 1
  · by_cases hn : n = 0
    · have HN := Lib.hid (show ss = [] from List.eq_nil_of_length_eq_zero (by have := L.out; omega))
      subst hn
      have q1 : ((sep.size : Int) != 1) = false := by rw [h1]; rfl
      have H1 := Lib.hid h1
      clear h1
      go_enter Try.func11, Try.ntmps11
      go_wp2
      go_ret2
      exact ⟨ret_join_no (joinAns_no (by rw [HN.out]; simp)), Below.refl _ _⟩
    · obtain ⟨h0, hsb⟩ := sep_one h1
      obtain ⟨x, hx⟩ : ∃ x, sep[0] = x := ⟨_, rfl⟩
      have HX := Lib.hid (show sep.data.toList = [x] by rw [← hx]; exact hsb)
      have q1 : ((sep.size : Int) != 1) = false := by rw [h1]; rfl
      have q2 : ((n : Int) == 0) = false := by simp; omega
      have H1 := Lib.hid h1
      have s1 : (0 : Int) < (sep.size : Int) := by omega
      have s2 : sep.size ≤ 1 := by omega
      clear hsb h1
      go_enter Try.func11, Try.ntmps11
      go_wp2
      go_loopw [6, 7] (fun q i wr => ∃ (k : Nat) (o : ByteArray), k ≤ n ∧ i = .int .i64 k ∧ q = .string o ∧ o.size ≤ 4000 ∧ Hid (o.data.toList = jn (ss.take k) x) ∧ Hid (¬ Holds (ss.take k) x) ∧ Below w.heap.size w wr) (fun _ i _ => n - (intOf i).toNat)
      case atStart => exact ⟨0, ⟨#[]⟩, Nat.zero_le _, rfl, rfl, by decide, Lib.hid rfl, Lib.hid (Holds.nil _), Below.refl _ _⟩
      case round =>
        obtain ⟨k, o, hk, rfl, rfl, ho, HO, HF, hb⟩ := hrel
        by_cases hlt : k < n
        · obtain ⟨b, off, s, rfl, hbB, hs, hsz, hc⟩ := (H.out.keep (hb.mono hB)).elem k hlt
          have HS := Lib.hid hs
          have hz : s.size ≤ 1048576 := HSZ.out s (List.mem_of_getElem? hs)
          clear hs
          have hi0 : (0 : Int) ≤ (k : Int) := by omega
          have hi1 : (k : Int) < (n : Int) := by omega
          by_cases hm : x ∈ s.data.toList
          · have HM := Lib.hid hm
            clear hm
            go_wp2
            go_quiet ((go_at_call 27; exact Calls.quiet_of_same (stands_yes _ _ _ hsz HM.out)))
            go_wp2
            go_ret2
            exact ⟨ret_join_no (joinAns_no (fun h => h.2.2.1 x (by rw [HX.out]; simp) (Holds.of_at HS.out HM.out))), below_drewN hb _⟩
          · have HM := Lib.hid hm
            clear hm
            have HF' := Lib.hid (not_holds_succ HS.out HF.out HM.out)
            by_cases hk0 : k = 0
            · have HO' : Hid ((o ++ s).data.toList = jn (ss.take (k + 1)) x) := by
                have e := HO.out
                subst hk0
                rw [List.take_zero, jn_nil] at e
                exact Lib.hid (by rw [append_data, e, jn_take_one HS.out]; rfl)
              have hk1 : ¬ (0 : Int) < (k : Int) := by omega
              clear hk0
              by_cases hbig : 4000 < o.size + s.size
              · go_wp2
                go_quiet ((go_at_call 27; exact Calls.quiet_of_same (stands_no _ _ _ hsz HM.out)))
                go_wp2
                go_ret2
                exact ⟨ret_join_no (big_no HO'.out (by rw [ByteArray.size_append]; omega)), below_drewN hb _⟩
              · go_wp2
                go_quiet ((go_at_call 27; exact Calls.quiet_of_same (stands_no _ _ _ hsz HM.out)))
                go_wp2
                go_roundw
                case rel => exact ⟨k + 1, o ++ s, by omega, by go_num, rfl, by rw [ByteArray.size_append]; omega, HO', HF', below_drewN hb _⟩
                case measure => simp [intOf]; omega
            · have HO' : Hid ((o ++ sep ++ s).data.toList = jn (ss.take (k + 1)) x) :=
                Lib.hid (by rw [append_data, append_data, HO.out, HX.out, jn_take_succ (by omega) HS.out])
              have hk1 : (0 : Int) < (k : Int) := by omega
              clear hk0
              by_cases hbig : 4000 < o.size + sep.size + s.size
              · go_wp2
                go_quiet ((go_at_call 27; exact Calls.quiet_of_same (stands_no _ _ _ hsz HM.out)))
                go_wp2
                go_ret2
                exact ⟨ret_join_no (big_no HO'.out (by rw [ByteArray.size_append, ByteArray.size_append]; omega)), below_drewN hb _⟩
              · go_wp2
                go_quiet ((go_at_call 27; exact Calls.quiet_of_same (stands_no _ _ _ hsz HM.out)))
                go_wp2
                go_roundw
                case rel => exact ⟨k + 1, o ++ sep ++ s, by omega, by go_num, rfl, by rw [ByteArray.size_append, ByteArray.size_append]; omega, HO', HF', below_drewN hb _⟩
                case measure => simp [intOf]; omega
        · have e : ss.take k = ss := List.take_of_length_le (by have := L.out; omega)
          have HE := Lib.hid e
          clear e
          go_wp2
          go_ret2
          exact ⟨ret_join_yes (joinAns_yes ⟨H1.out, by
            intro e
            have := L.out
            rw [e] at this
            exact hn this.symm, fun y hy => by
              rw [HX.out] at hy
              simp at hy
              subst hy
              have := HF.out
              rwa [HE.out] at this, by
              have := HO.out
              rw [HE.out] at this
              rw [← jn_len ss x, ← this, ← size_data]
              exact ho⟩) (by have := HO.out; rw [HE.out] at this; rw [this, HX.out]; rfl), hb⟩
  · have q1 : ((sep.size : Int) != 1) = true := by simp; omega
    have H1 := Lib.hid h1
    clear h1
    go_enter Try.func11, Try.ntmps11
    go_wp2
    go_ret2
    exact ⟨ret_join_no (joinAns_no (fun h => H1.out h.1)), Below.refl _ _⟩

end Go.Proofs.Ytlkajncgbnkkgaa
