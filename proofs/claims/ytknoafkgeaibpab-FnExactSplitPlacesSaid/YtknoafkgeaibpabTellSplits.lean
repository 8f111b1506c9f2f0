/-
  How many splits a rest has, out of those of what is behind its first words: the program's closure.
-/
import Derived.Test.YtknoafkgeaibpabBehind
namespace Go.Proofs.Ytknoafkgeaibpab
open Go.RowKit
set_option linter.unusedVariables false

/-- the numbers behind the words, one after the other added -/
def sumT (l : List Nat) (b : Nat → Int) : Int := l.foldl (fun a j => wrap64 (a + b j)) 0

theorem sumT_succ {l : List Nat} {b : Nat → Int} {i j : Nat} (h : l[i]? = some j) : sumT (l.take (i + 1)) b = wrap64 (sumT (l.take i) b + b j) := by
  obtain ⟨hi, e⟩ := List.getElem?_eq_some_iff.1 h
  unfold sumT
  rw [List.take_succ_eq_append_getElem hi, List.foldl_append, e]
  rfl

set_option maxRecDepth 1000000 in
set_option maxHeartbeats 1000000 in
theorem tellSplits_any (a : Option Addr) (m c : Nat) (l : List Nat) (b : Nat → Int) (w : World) (B bt ba g nn cc k : Nat) (h : Sl B w a m c (nums l)) (hm : m ≤ 1000) (ht : Told w bt ba g nn cc k)
    (hk : k + 1 < nn) (hl : ∀ j ∈ l, 1 ≤ j ∧ k + j < nn) (hb : ∀ j, 1 ≤ j → k + j < nn → w.cell? ⟨g, k + j, none⟩ = some (.int .i64 (b j))) :
    Calls Try.prog 76 #[.slice a m c, .func (.func 82) #[] #[.pointer (some ⟨bt, 0, none⟩), .pointer (some ⟨ba, 0, none⟩)]] w fun e w' => e = .returned (.int .i64 (sumT l b)) ∧ w = w' := by
  have L : l.length = m := by have := h.len; rwa [nums_len] at this
  have HL := Lib.hid L
  have C := h.cap
  have TT := h.top
  have H := Lib.hid h
  have HB := Lib.hid hb
  have HIn := Lib.hid hl
  have HT := Lib.hid ht
  clear h hb ht L hl
  go_enter Try.func76, Try.ntmps76
  go_wp2
  go_loop [5, 10] (fun s i => ∃ k2 : Nat, k2 ≤ m ∧ i = .int .i64 k2 ∧ s = .int .i64 (sumT (l.take k2) b)) (fun _ i => m - (intOf i).toNat)
  case atStart => exact ⟨0, Nat.zero_le _, rfl, rfl⟩
  case round =>
    obtain ⟨k2, hk2, rfl, rfl⟩ := hrel
    by_cases hlt : k2 < m
    · obtain ⟨j, hj⟩ : ∃ j, l[k2]? = some j := ⟨_, List.getElem?_eq_getElem (by rw [HL.out]; exact hlt)⟩
      obtain ⟨b9, o9, e9, _, hc⟩ := H.out.spot k2 _ (nums_at hj)
      subst e9
      have hij := HIn.out j (List.mem_of_getElem? hj)
      have hbj : k + j < nn ∧ w.cell? ⟨g, k + j, none⟩ = some (.int .i64 (b j)) := ⟨hij.2, HB.out j hij.1 hij.2⟩
      have cB := Lib.hid (behind_any w bt ba g nn cc k j (b j) HT.out hbj.1 hbj.2)
      have HS : Hid (sumT (l.take (k2 + 1)) b = wrap64 (sumT (l.take k2) b + b j)) := Lib.hid (sumT_succ hj)
      obtain ⟨q, hq⟩ : ∃ q, sumT (l.take k2) b = q := ⟨_, rfl⟩
      obtain ⟨z, hz⟩ : ∃ z, b j = z := ⟨_, rfl⟩
      rw [hq, hz] at HS
      rw [hz] at cB
      rw [hq]
      clear hj hbj hij hq hz
      go_wp2_with (first | (go_at_call 82; refine cB.out.mono ?_; rintro e w2 ⟨rfl, rfl⟩))
      go_round
      case rel => exact ⟨k2 + 1, by omega, by go_num, by rw [HS.out]⟩
      case measure => simp [intOf]; omega
    · have e : k2 = m := by omega
      have HN : Hid (sumT (l.take k2) b = sumT l b) := Lib.hid (by rw [List.take_of_length_le (by rw [HL.out]; omega)])
      rw [HN.out]
      clear e
      go_wp2
      go_ret
      exact ⟨rfl, rfl⟩

end Go.Proofs.Ytknoafkgeaibpab
