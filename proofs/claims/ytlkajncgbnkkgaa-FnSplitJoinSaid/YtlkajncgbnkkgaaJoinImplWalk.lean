/-
  The contract of the program's JoinStrings.
-/
import Derived.Test.YtlkajncgbnkkgaaJoinSpecWalk
import Derived.Test.YtlkajncgbnkkgaaShelf
import Derived.Deep.LoopGhost
namespace Go.Proofs.Ytlkajncgbnkkgaa
open Go.RowKit
set_option linter.unusedVariables false

theorem impl_join_no (a : Option Addr) (n c : Nat) (ss : List ByteArray) (sep : ByteArray) (w : World) (h : Strs w.heap.size w a n c ss) (hsep : sep.size ≤ 9223372036854775807) (hno : n = 0 ∨ sep.size ≠ 1) :
    Calls Try.prog 10 #[.slice a n c, .string sep] w fun e w' => e = .returned (.tuple #[.string (joinS ss sep), .bool (joinB ss sep)]) ∧ Below w.heap.size w w' := by
  have L := Lib.hid h.len
  have C := h.sl.cap
  have T := h.sl.top
  clear h
  have HN : Hid (joinAns ss sep = ([], false)) := Lib.hid (joinAns_no (fun h => by
    rcases hno with h0 | h0
    · exact h.2.1 (List.eq_nil_of_length_eq_zero (by rw [L.out, h0]))
    · exact h0 h.1))
  by_cases h0 : n = 0
  · subst h0
    clear hno
    have q : (((0 : Nat) : Int) == 0) = true := rfl
    go_enter Try.func10, Try.ntmps10
    go_wp2
    go_step3
    go_wp2
    try rw [Exit.noGoto_ret]
    go_ret2
    exact ⟨ret_join_no HN.out, Below.refl _ _⟩
  · have h1 : sep.size ≠ 1 := by rcases hno with h | h; exact absurd h h0; exact h
    clear hno
    have q1 : ((n : Int) == 0) = false := by simp; omega
    have q2 : ((sep.size : Int) != 1) = true := by simp; omega
    have HN1 := Lib.hid h1
    have HN0 : 0 < n := by omega
    clear h1 h0
    go_enter Try.func10, Try.ntmps10
    go_wp2
    go_step3
    go_wp2
    try rw [Exit.noGoto_ret]
    go_ret2
    exact ⟨ret_join_no HN.out, Below.refl _ _⟩

theorem sum_le {ss : List ByteArray} {k : Nat} {s : ByteArray} (h : ss[k]? = some s) : ((ss.take k).map (·.size)).sum + s.size ≤ (ss.map (·.size)).sum := by
  have := sum_take_le ss (k + 1)
  rw [sum_take_succ h] at this
  exact this

/-- the bytes of the first k strings -/
def upto (ss : List ByteArray) (k : Nat) : Nat := ((ss.take k).map (·.size)).sum
theorem upto_zero (ss : List ByteArray) : upto ss 0 = 0 := by simp [upto]
theorem upto_succ {ss : List ByteArray} {k : Nat} {s : ByteArray} (h : ss[k]? = some s) : upto ss (k + 1) = upto ss k + s.size := sum_take_succ h
theorem upto_le (ss : List ByteArray) (k : Nat) : upto ss k ≤ (ss.map (·.size)).sum := sum_take_le ss k
theorem upto_all {ss : List ByteArray} {n : Nat} (h : ss.length = n) : upto ss n = (ss.map (·.size)).sum := by
  unfold upto
  rw [List.take_of_length_le (by omega)]

set_option maxHeartbeats 4000000 in
theorem impl_join_any (a : Option Addr) (n c : Nat) (ss : List ByteArray) (sep : ByteArray) (w : World) (h : Strs w.heap.size w a n c ss) (hN : n + (ss.map (·.size)).sum ≤ 1048576) (hsep : sep.size ≤ 9223372036854775807) :
    Calls Try.prog 10 #[.slice a n c, .string sep] w fun e w' => e = .returned (.tuple #[.string (joinS ss sep), .bool (joinB ss sep)]) ∧ Below w.heap.size w w' := by
  by_cases hno : n = 0 ∨ sep.size ≠ 1
  · exact impl_join_no a n c ss sep w h hsep hno
  · have hn : 0 < n := by omega
    have h1 : sep.size = 1 := by omega
    clear hno
    have L := Lib.hid h.len
    have C := h.sl.cap
    have T := h.sl.top
    have H := Lib.hid h
    clear h
    obtain ⟨h0, hsb⟩ := sep_one h1
    obtain ⟨x, hx⟩ : ∃ x, sep[0] = x := ⟨_, rfl⟩
    have HX := Lib.hid (show sep.data.toList = [x] by rw [← hx]; exact hsb)
    have q1 : ((n : Int) == 0) = false := by simp; omega
    have q2 : ((sep.size : Int) != 1) = false := by rw [h1]; rfl
    have H1 := Lib.hid h1
    have s1 : (0 : Int) < (sep.size : Int) := by omega
    clear hsb h1
    go_enter Try.func10, Try.ntmps10
    go_wp2
    go_step3
    go_wp2
    go_step3
    go_wp2
    go_loopg [6, 7, 24] n (fun g s6 s7 s24 wr => ∃ (k m : Nat), k + g = n ∧ s24 = .int .i64 k ∧ s6 = .bool true ∧ s7 = .int .i64 m ∧ m ≤ 1048576 ∧ (0 < k → m ≤ 4000) ∧ Hid (m = n - 1 + upto ss k) ∧ Hid (¬ Holds (ss.take k) x) ∧ Below w.heap.size w wr)
    case atStart => exact ⟨0, n - 1, by omega, rfl, rfl, by go_num, by omega, by omega, Lib.hid (by rw [upto_zero]; omega), Lib.hid (Holds.nil _), Below.refl _ _⟩
    case round =>
      obtain ⟨k, m, hkg, rfl, rfl, rfl, hm, hm4, HM, HF, hb⟩ := hrel
      cases gk with
      | zero =>
        have hkn : ¬ (k : Int) < (n : Int) := by omega
        have e : k = n := by omega
        subst e
        have e : ss.take k = ss := List.take_of_length_le (by have := L.out; omega)
        have HE := Lib.hid e
        clear e
        have hm' : m ≤ 4000 := hm4 hn
        have HJ : Hid (jlen ss = m) := Lib.hid (by
          have h1 := HM.out
          rw [upto_all L.out] at h1
          unfold jlen
          rw [L.out]
          omega)
        have HY : Hid (joinAns ss sep = (Lib.join (ss.map (·.data.toList)) sep.data.toList, true)) := Lib.hid (joinAns_yes ⟨H1.out, by
          intro e
          have := L.out
          rw [e] at this
          simp at this
          omega, fun y hy => by
            rw [HX.out] at hy
            simp at hy
            subst hy
            have := HF.out
            rwa [HE.out] at this, by rw [HJ.out]; exact hm'⟩)
        obtain ⟨b, off, s0, rfl, hbB, hs0, _, _⟩ := (H.out.keep hb).elem 0 hn
        have hS := (H.out.keep hb)
        have hlen := Lib.hid (show (Lib.join (ss.map (·.data.toList)) sep.data.toList).length ≤ 140737488355328 by
          have h1 := jn_len ss x
          have h2 : Lib.join (ss.map (·.data.toList)) sep.data.toList = jn ss x := by rw [HX.out]; rfl
          rw [h2, h1, HJ.out]
          omega)
        have cJ := Lib.hid (Try.strings_Join b off c ss sep wr (fun j y hy => by
          obtain ⟨b', o', e, _, hcc⟩ := hS.sl.spot j (.string y) (by rw [List.getElem?_map, hy]; rfl)
          simp only [Option.some.injEq, Addr.mk.injEq, and_true] at e
          obtain ⟨rfl, rfl⟩ := e
          exact hcc) (by have := hb.size; omega) (by have := L.out; omega) (by have := L.out; omega) hlen.out)
        rw [L.out] at cJ
        clear hS hs0
        go_wp2_with (go_at_call 26; refine cJ.out.mono ?_; rintro e w2 ⟨rfl, hb2⟩)
        try rw [Exit.noGoto_ret]
        go_ret2
        exact ⟨ret_join_yes HY.out rfl, hb.trans (hb2.mono hb.size)⟩
      | succ g =>
        obtain ⟨b, off, s, rfl, hbB, hs, hsz, hc⟩ := (H.out.keep hb).elem k (by omega)
        have HS := Lib.hid hs
        have hsum := upto_le ss (k + 1)
        rw [upto_succ hs] at hsum
        clear hs
        have hkn : (k : Int) < (n : Int) := by omega
        have hmm : m + s.size ≤ 2097152 := by have := HM.out; omega
        by_cases hbig : 4000 < m + s.size
        · have HB : Hid (joinAns ss sep = ([], false)) := Lib.hid (joinAns_no (fun h => by
            have h1 := HM.out
            have h2 := h.2.2.2
            unfold jlen at h2
            rw [L.out] at h2
            omega))
          go_wp2
          rw [Exit.noGoto_ret]
          go_ret2
          exact ⟨ret_join_no HB.out, hb⟩
        · go_wp2
          obtain ⟨wo, rfl⟩ : ∃ wo : World, wo = wr := ⟨_, rfl⟩
          clear hc
          go_loopg [6, 36] s.size (fun g2 s6 s36 wy => ∃ j : Nat, j + g2 = s.size ∧ s36 = .int .i64 j ∧ s6 = .bool true ∧ Hid (Free s x j) ∧ Below w.heap.size w wy)
          case atStart => exact ⟨0, by omega, rfl, rfl, Lib.hid (fun j _ hj => by omega), hb⟩
          case round =>
            clear hb
            obtain ⟨j, hjg, rfl, rfl, HFR, hb⟩ := hrel
            cases gk with
            | zero =>
              have hjn : ¬ (j : Int) < (s.size : Int) := by omega
              have e : j = s.size := by omega
              subst e
              have HN' := Lib.hid (not_holds_succ HS.out HF.out HFR.out.all)
              go_wp2
              go_roundg g
              case measure => omega
              case rel => exact ⟨k + 1, m + s.size, by omega, by go_num, rfl, by go_num, by omega, by omega, Lib.hid (by have := HM.out; rw [upto_succ HS.out]; omega), HN', hb⟩
            | succ g2 =>
              have hjn : (j : Int) < (s.size : Int) := by omega
              have hlt : j < s.size := by omega
              have hj0 : (0 : Int) ≤ (j : Int) := by omega
              by_cases hxe : s[j] = x
              · have hq : ((s[j].toNat : Int) == (x.toNat : Int)) = true := by rw [byte_eq]; simp [hxe]
                have HB : Hid (joinAns ss sep = ([], false)) := Lib.hid (joinAns_no (fun h => h.2.2.1 x (by rw [HX.out]; simp) (Holds.of_at HS.out (hxe ▸ mem_of_at hlt))))
                clear hxe
                go_wp2
                go_quiet (fail)
                go_wp2
                rw [Exit.noGoto_ret]
                go_ret2
                exact ⟨ret_join_no HB.out, below_drewN hb _⟩
              · have hq : ((s[j].toNat : Int) == (x.toNat : Int)) = false := by rw [byte_eq]; simp [hxe]
                have HX' := Lib.hid (HFR.out.succ hlt hxe)
                clear hxe
                go_wp2
                go_quiet (fail)
                go_wp2
                go_roundg g2
                case measure => omega
                case rel => exact ⟨j + 1, by omega, by go_num, rfl, HX', below_drewN hb _⟩

end Go.Proofs.Ytlkajncgbnkkgaa
