/-
  The contract of the laws' own equality of lists of strings.
-/
import Derived.Test.YtfehfjnmkaifbabOwn
import Derived.Deep.QuietTactic
import Derived.BigQuiet
import Derived.Lib.Hide
import Derived.Lib.Strings
import Derived.WalkSpells
import Derived.WalkSmall
namespace Go.Proofs.Ytfehfjnmkaifbab
open Go.RowKit
set_option linter.unusedVariables false

/-- two lists agree in the first k places -/
def Agree (k : Nat) (xs ys : List ByteArray) : Prop := ∀ j, j < k → xs[j]? = ys[j]?

theorem Agree.succ {k : Nat} {xs ys : List ByteArray} (h : Agree k xs ys) {s : ByteArray} (ha : xs[k]? = some s) (hb : ys[k]? = some s) : Agree (k + 1) xs ys := by
  intro j hj
  by_cases e : j = k
  · subst e; rw [ha, hb]
  · exact h j (by omega)

theorem Agree.eq {n : Nat} {xs ys : List ByteArray} (h : Agree n xs ys) (ha : xs.length = n) (hb : ys.length = n) : xs = ys := by
  apply List.ext_getElem?
  intro j
  by_cases hj : j < n
  · exact h j hj
  · rw [List.getElem?_eq_none (by omega), List.getElem?_eq_none (by omega)]

theorem Agree.ne {k : Nat} {xs ys : List ByteArray} {s t : ByteArray} (ha : xs[k]? = some s) (hb : ys[k]? = some t) (h : s ≠ t) : xs ≠ ys := by
  rintro rfl
  rw [ha] at hb
  exact h (by simpa using hb)

set_option maxHeartbeats 400000 in
theorem eqStringS_any (B : Nat) (a1 a2 : Option Addr) (n c m d : Nat) (xs ys : List ByteArray) (w : World) (hB : B ≤ w.heap.size) (h1 : Strs B w a1 n c xs) (h2 : Strs B w a2 m d ys) :
    Calls Try.prog 16 #[.slice a1 n c, .slice a2 m d] w fun e w' => e = .returned (.bool (decide (xs = ys))) ∧ Below w.heap.size w w' := by
  have L1 := Lib.hid h1.len
  have L2 := Lib.hid h2.len
  have C1 := h1.sl.cap
  have C2 := h2.sl.cap
  have T1 := h1.sl.top
  have T2 := h2.sl.top
  have H1 := Lib.hid h1
  have H2 := Lib.hid h2
  clear h1 h2
  by_cases hn : n = m
  · subst hn
    have hne : ((n : Int) != (n : Int)) = false := by simp
    go_enter Try.func16, Try.ntmps16
    go_wp2
    go_loopw [5] (fun i wr => ∃ k : Nat, k ≤ n ∧ i = .int .i64 k ∧ Hid (Agree k xs ys) ∧ Below w.heap.size w wr) (fun i _ => n - (intOf i).toNat)
    case atStart => exact ⟨0, Nat.zero_le _, rfl, Lib.hid (fun j hj => by omega), Below.refl _ _⟩
    case round =>
      obtain ⟨k, hk, rfl, ha, hb⟩ := hrel
      by_cases hlt : k < n
      · obtain ⟨b, o, s, rfl, hbB, hs, hsz, hc⟩ := (H1.out.keep (hb.mono hB)).elem k hlt
        obtain ⟨b', o', t, e2, hbB', ht, htz, hc'⟩ := (H2.out.keep (hb.mono hB)).elem k hlt
        subst e2
        have HS := Lib.hid hs
        have HT := Lib.hid ht
        clear hs ht
        have hi0 : (0 : Int) ≤ (k : Int) := by omega
        have hi1 : (k : Int) < (n : Int) := by omega
        by_cases hst : s = t
        · subst hst
          have hq : (s.toList == s.toList) = true := by simp
          go_wp2
          go_quiet (fail)
          go_wp2
          go_roundw
          case rel => exact ⟨k + 1, by omega, by go_num, Lib.hid (ha.out.succ HS.out HT.out), below_drewN hb _⟩
          case measure => simp [intOf]; omega
        · have hq : (s.toList == t.toList) = false := by rw [str_eq_list]; simp [hst]
          go_wp2
          go_quiet (fail)
          go_wp2
          go_ret
          exact ⟨ret_bool (by rw [decide_eq_false (Agree.ne HS.out HT.out hst)]), below_drewN hb _⟩
      · go_wp2
        go_ret
        have e : k = n := by omega
        subst e
        exact ⟨ret_bool (by rw [decide_eq_true (ha.out.eq L1.out L2.out)]), hb⟩
  · have hne : ((n : Int) != (m : Int)) = true := by simp; omega
    go_enter Try.func16, Try.ntmps16
    go_wp2
    go_ret
    exact ⟨ret_bool (by
      have := L1.out
      have := L2.out
      rw [decide_eq_false (by rintro rfl; omega)]), Below.refl _ _⟩

end Go.Proofs.Ytfehfjnmkaifbab
