/-
  The reference's comparison of pressed trees.
-/
import Derived.Test.YtoofpgehkihbcaaEqP
import Derived.Test.YtoofpgehkihbcaaWords
import Derived.Deep.QuietTactic
import Derived.BigQuiet
import Derived.Laws.StructEq
namespace Go.Proofs.Ytoofpgehkihbcaa
open Go.RowKit
set_option linter.unusedVariables false

set_option maxRecDepth 1000000 in
set_option maxHeartbeats 1000000 in
theorem l4Same_any (B : Nat) (a a2 : Option Addr) (n c n2 c2 : Nat) (t u : List Br) (w : World) (hB : B ≤ w.heap.size) (h : Brs B w a n c t) (h2 : Brs B w a2 n2 c2 u) (hn : n ≤ 1048576) (hn2 : n2 ≤ 1048576) (r : Bool) (hr : r = true ↔ t = u) :
    Calls Try.prog 53 #[.agg #[.slice a n c], .agg #[.slice a2 n2 c2]] w fun e w' => e = .returned (.bool r) ∧ Below w.heap.size w w' := by
  have L := Lib.hid h.len
  have C := h.cap
  have T := h.top
  have H := Lib.hid h
  have L2 := Lib.hid h2.len
  have C2 := h2.cap
  have T2 := h2.top
  have H2 := Lib.hid h2
  have HB := Lib.hid hB
  have HR := Lib.hid hr
  clear h h2 hB hr
  go_enter Try.func53, Try.ntmps53
  go_wp2
  go_loopw [5] (fun i wr => ∃ (k : Nat), k ≤ n ∧ k ≤ n2 ∧ i = .int .i64 k ∧ Hid (t.take k = u.take k) ∧ Hid (Below w.heap.size w wr) ∧ wr.cell? ⟨w.heap.size, 0, none⟩ = some (.slice a n c) ∧ wr.cell? ⟨w.heap.size + 1, 0, none⟩ = some (.slice a2 n2 c2)) (fun i _ => n - (intOf i).toNat)
  case atStart => exact ⟨0, Nat.zero_le _, Nat.zero_le _, rfl, Lib.hid rfl, Lib.hid (((Below.refl _ _).alloc (Nat.le_refl _) _).alloc (by simp) _), by simp, by simp⟩
  case round =>
    obtain ⟨k, hk, hk2, rfl, HE, HBw, hbox, hbox2⟩ := hrel
    by_cases hlt : k < n
    · by_cases hlt2 : k < n2
      · obtain ⟨b, o, l, p, e, rfl, hbB, hd, hl, hp, hc1, hc2, hc3⟩ := (H.out.keep (HBw.out.mono HB.out)).elem k hlt
        obtain ⟨b', o', l', p', e', rfl, hbB', hd', hl', hp', hc1', hc2', hc3'⟩ := (H2.out.keep (HBw.out.mono HB.out)).elem k hlt2
        have HD := Lib.hid hd
        have HD' := Lib.hid hd'
        clear hd hd'
        have hi0 : (0 : Int) ≤ (k : Int) := by omega
        have hi1 : (k : Int) < (n : Int) := by omega
        have hi2 : (k : Int) < (n2 : Int) := by omega
        by_cases q1 : l = l'
        · subst q1
          by_cases q2 : p = p'
          · subst q2
            by_cases q3 : e = e'
            · subst q3
              have b1 : (l.toList == l.toList) = true := by simp
              have b2 : (p == p) = true := by simp
              have b3 : (e == e) = true := by simp
              have HE2 : Hid (t.take (k + 1) = u.take (k + 1)) := Lib.hid (by
                obtain ⟨k1, e1⟩ := List.getElem?_eq_some_iff.1 HD.out
                obtain ⟨k2, e2⟩ := List.getElem?_eq_some_iff.1 HD'.out
                rw [List.take_succ_eq_append_getElem k1, List.take_succ_eq_append_getElem k2, HE.out, e1, e2])
              go_wp2
              go_quiet (fail)
              go_wp2
              go_roundw
              case rel => exact ⟨k + 1, by omega, by omega, by go_num, HE2, Lib.hid (below_drewN HBw.out _), hbox, hbox2⟩
              case measure => simp [intOf]; omega
            · have b1 : (l.toList == l.toList) = true := by simp
              have b2 : (p == p) = true := by simp
              have b3 : (e == e') = false := by simp [q3]
              have HX : Hid (r = false) := Lib.hid (sameB_no HR.out HD.out HD'.out (fun h => q3 (by injection h)))
              clear q3
              go_wp2
              go_quiet (fail)
              go_wp2
              go_ret
              exact ⟨ret_bool HX.out.symm, below_drewN HBw.out _⟩
          · have b1 : (l.toList == l.toList) = true := by simp
            have b2 : (p == p') = false := by simp [q2]
            have HX : Hid (r = false) := Lib.hid (sameB_no HR.out HD.out HD'.out (fun h => q2 (by injection h)))
            clear q2
            go_wp2
            go_quiet (fail)
            go_wp2
            go_ret
            exact ⟨ret_bool HX.out.symm, below_drewN HBw.out _⟩
        · have b1 : (l.toList == l'.toList) = false := by rw [str_eq_list]; simp [q1]
          have HX : Hid (r = false) := Lib.hid (sameB_no HR.out HD.out HD'.out (fun h => q1 (by injection h with h1; exact tx_inj h1)))
          clear q1
          go_wp2
          go_quiet (fail)
          go_wp2
          go_ret
          exact ⟨ret_bool HX.out.symm, below_drewN HBw.out _⟩
      · have HX : Hid (r = false) := Lib.hid (by
          cases r with
          | false => rfl
          | true =>
            have := HR.out.1 rfl
            have := L.out
            have := L2.out
            subst t
            omega)
        have hb : ((n : Int) == (n2 : Int)) = false := by simp; omega
        go_wp2
        go_ret
        exact ⟨ret_bool (by rw [HX.out]), HBw.out⟩
    · by_cases hnn : n = n2
      · subst hnn
        have e : k = n := by omega
        subst e
        have HX : Hid (r = true) := Lib.hid (HR.out.2 (by
          have := HE.out
          rwa [List.take_of_length_le (by rw [L.out]; omega), List.take_of_length_le (by rw [L2.out]; omega)] at this))
        have hb : ((k : Int) == (k : Int)) = true := by simp
        go_wp2
        go_ret
        exact ⟨ret_bool (by rw [HX.out]), HBw.out⟩
      · have HX : Hid (r = false) := Lib.hid (by
          cases r with
          | false => rfl
          | true =>
            have := HR.out.1 rfl
            have := L.out
            have := L2.out
            subst t
            omega)
        have hb : ((n : Int) == (n2 : Int)) = false := by simp; omega
        have hlt2 : k < n2 ∨ ¬ k < n2 := by omega
        go_wp2
        go_ret
        exact ⟨ret_bool (by rw [HX.out]), HBw.out⟩


end Go.Proofs.Ytoofpgehkihbcaa
