/-
  The least and the greatest number of a list (slices.Min, slices.Max), and what lengths and weights are: the program's functions.
-/
import Derived.Test.YthjafoacnfgjhabC10M
import Derived.Test.YthjafoacnfgjhabInts
import Derived.IntWalk
namespace Go.Proofs.Ythjafoacnfgjhab
open Go.RowKit
set_option linter.unusedVariables false

/-- the least of the first k numbers -/
def LeastTo (l : List Int) (k : Nat) (m : Int) : Prop := m ∈ l ∧ ∀ j x, j < k → l[j]? = some x → m ≤ x
/-- the greatest of the first k numbers -/
def MostTo (l : List Int) (k : Nat) (m : Int) : Prop := m ∈ l ∧ ∀ j x, j < k → l[j]? = some x → x ≤ m
theorem LeastTo.one {l : List Int} {x : Int} (h : l[0]? = some x) : LeastTo l 1 x := ⟨List.mem_of_getElem? h, fun j y hj hy => by
  have e : j = 0 := by omega
  subst e
  rw [h] at hy
  cases hy
  exact Int.le_refl _⟩
theorem MostTo.one {l : List Int} {x : Int} (h : l[0]? = some x) : MostTo l 1 x := ⟨List.mem_of_getElem? h, fun j y hj hy => by
  have e : j = 0 := by omega
  subst e
  rw [h] at hy
  cases hy
  exact Int.le_refl _⟩
theorem LeastTo.keep {l : List Int} {k : Nat} {m x : Int} (h : LeastTo l k m) (hx : l[k]? = some x) (hm : m ≤ x) : LeastTo l (k + 1) m := ⟨h.1, fun j y hj hy => by
  by_cases e : j = k
  · subst e; rw [hx] at hy; cases hy; exact hm
  · exact h.2 j y (by omega) hy⟩
theorem LeastTo.turn {l : List Int} {k : Nat} {m x : Int} (h : LeastTo l k m) (hx : l[k]? = some x) (hm : x ≤ m) : LeastTo l (k + 1) x := ⟨List.mem_of_getElem? hx, fun j y hj hy => by
  by_cases e : j = k
  · subst e; rw [hx] at hy; cases hy; exact Int.le_refl _
  · exact Int.le_trans hm (h.2 j y (by omega) hy)⟩
theorem MostTo.keep {l : List Int} {k : Nat} {m x : Int} (h : MostTo l k m) (hx : l[k]? = some x) (hm : x ≤ m) : MostTo l (k + 1) m := ⟨h.1, fun j y hj hy => by
  by_cases e : j = k
  · subst e; rw [hx] at hy; cases hy; exact hm
  · exact h.2 j y (by omega) hy⟩
theorem MostTo.turn {l : List Int} {k : Nat} {m x : Int} (h : MostTo l k m) (hx : l[k]? = some x) (hm : m ≤ x) : MostTo l (k + 1) x := ⟨List.mem_of_getElem? hx, fun j y hj hy => by
  by_cases e : j = k
  · subst e; rw [hx] at hy; cases hy; exact Int.le_refl _
  · exact Int.le_trans (h.2 j y (by omega) hy) hm⟩
theorem nOk_of_ends {l : List Int} {most lo hi : Int} (h1 : 1 ≤ l.length ∧ l.length ≤ 12) (hl : LeastTo l l.length lo) (hh : MostTo l l.length hi) : nOk l most = (decide (1 ≤ lo) && decide (hi ≤ most)) := by
  rw [Bool.eq_iff_iff, nOk_iff, Bool.and_eq_true, decide_eq_true_eq, decide_eq_true_eq]
  constructor
  · rintro ⟨_, _, h⟩
    exact ⟨(h lo hl.1).1, (h hi hh.1).2⟩
  · rintro ⟨ha, hb⟩
    refine ⟨h1.1, h1.2, fun x hx => ?_⟩
    obtain ⟨j, hj⟩ := List.getElem?_of_mem hx
    have hlt := (List.getElem?_eq_some_iff.1 hj).1
    exact ⟨Int.le_trans ha (hl.2 j x hlt hj), Int.le_trans (hh.2 j x hlt hj) hb⟩

set_option maxHeartbeats 400000 in
theorem slicesMin_any (B : Nat) (a : Option Addr) (n c : Nat) (l : List Int) (w : World) (hB : B ≤ w.heap.size) (h : Ints B w a n c l) (hn : 0 < n) :
    Calls Try.prog 76 #[.slice a n c] w fun e w' => (∃ m : Int, e = .returned (.int .i64 m) ∧ LeastTo l n m) ∧ w = w' := by
  have L := Lib.hid h.len
  have C := h.sl.cap
  have T := h.sl.top
  have H := Lib.hid h
  clear h
  obtain ⟨b, o, z0, rfl, hbB, hs0, _, hc0⟩ := H.out.elem 0 hn
  have HM0 := Lib.hid (LeastTo.one hs0)
  clear hs0
  have hn1 : ¬ (n : Int) < 1 := by omega
  have hn2 : (0 : Int) < (n : Int) := by omega
  rw [Nat.add_zero] at hc0
  go_enter Try.func76, Try.ntmps76
  go_wp2
  go_loop [3, 4] (fun s i => ∃ (k : Nat) (q : Int), 1 ≤ k ∧ k ≤ n ∧ i = .int .i64 k ∧ s = .int .i64 q ∧ Hid (LeastTo l k q)) (fun _ i => n - (intOf i).toNat)
  case atStart => exact ⟨1, _, by omega, by omega, rfl, rfl, HM0⟩
  case round =>
    clear hc0
    obtain ⟨k, q, hk1, hk, rfl, rfl, HQ⟩ := hrel
    by_cases hlt : k < n
    · obtain ⟨b', o', z, he, hbB, hs, _, hc⟩ := H.out.elem k hlt
      simp only [Option.some.injEq, Addr.mk.injEq, and_true] at he
      obtain ⟨rfl, rfl⟩ := he
      have HS := Lib.hid hs
      clear hs
      by_cases hqz : q < z
      · have HK := Lib.hid (HQ.out.keep HS.out (by omega))
        have hzq : ¬ z < q := by omega
        go_wp2
        go_round
        case rel => exact ⟨k + 1, q, by omega, by omega, by go_num, rfl, HK⟩
        case measure => simp [intOf]; omega
      · have HK := Lib.hid (HQ.out.turn HS.out (by omega))
        by_cases hzq : z < q
        · go_wp2
          go_round
          case rel => exact ⟨k + 1, z, by omega, by omega, by go_num, rfl, HK⟩
          case measure => simp [intOf]; omega
        · obtain rfl : q = z := by omega
          go_wp2
          go_round
          case rel => exact ⟨k + 1, q, by omega, by omega, by go_num, rfl, HK⟩
          case measure => simp [intOf]; omega
    · have HE : Hid (LeastTo l n q) := Lib.hid (by have e : k = n := by omega
                                                   subst e; exact HQ.out)
      go_wp2
      go_ret
      exact ⟨⟨_, rfl, HE.out⟩, rfl⟩

set_option maxHeartbeats 400000 in
theorem slicesMax_any (B : Nat) (a : Option Addr) (n c : Nat) (l : List Int) (w : World) (hB : B ≤ w.heap.size) (h : Ints B w a n c l) (hn : 0 < n) :
    Calls Try.prog 85 #[.slice a n c] w fun e w' => (∃ m : Int, e = .returned (.int .i64 m) ∧ MostTo l n m) ∧ w = w' := by
  have L := Lib.hid h.len
  have C := h.sl.cap
  have T := h.sl.top
  have H := Lib.hid h
  clear h
  obtain ⟨b, o, z0, rfl, hbB, hs0, _, hc0⟩ := H.out.elem 0 hn
  have HM0 := Lib.hid (MostTo.one hs0)
  clear hs0
  have hn1 : ¬ (n : Int) < 1 := by omega
  have hn2 : (0 : Int) < (n : Int) := by omega
  rw [Nat.add_zero] at hc0
  go_enter Try.func85, Try.ntmps85
  go_wp2
  go_loop [3, 4] (fun s i => ∃ (k : Nat) (q : Int), 1 ≤ k ∧ k ≤ n ∧ i = .int .i64 k ∧ s = .int .i64 q ∧ Hid (MostTo l k q)) (fun _ i => n - (intOf i).toNat)
  case atStart => exact ⟨1, _, by omega, by omega, rfl, rfl, HM0⟩
  case round =>
    clear hc0
    obtain ⟨k, q, hk1, hk, rfl, rfl, HQ⟩ := hrel
    by_cases hlt : k < n
    · obtain ⟨b', o', z, he, hbB, hs, _, hc⟩ := H.out.elem k hlt
      simp only [Option.some.injEq, Addr.mk.injEq, and_true] at he
      obtain ⟨rfl, rfl⟩ := he
      have HS := Lib.hid hs
      clear hs
      by_cases hqz : q < z
      · have HK := Lib.hid (HQ.out.turn HS.out (by omega))
        have hzq : ¬ z < q := by omega
        go_wp2
        go_round
        case rel => exact ⟨k + 1, z, by omega, by omega, by go_num, rfl, HK⟩
        case measure => simp [intOf]; omega
      · have HK := Lib.hid (HQ.out.keep HS.out (by omega))
        by_cases hzq : z < q
        · go_wp2
          go_round
          case rel => exact ⟨k + 1, q, by omega, by omega, by go_num, rfl, HK⟩
          case measure => simp [intOf]; omega
        · obtain rfl : q = z := by omega
          go_wp2
          go_round
          case rel => exact ⟨k + 1, q, by omega, by omega, by go_num, rfl, HK⟩
          case measure => simp [intOf]; omega
    · have HE : Hid (MostTo l n q) := Lib.hid (by have e : k = n := by omega
                                                  subst e; exact HQ.out)
      go_wp2
      go_ret
      exact ⟨⟨_, rfl, HE.out⟩, rfl⟩

set_option maxHeartbeats 400000 in
theorem areOfSymbols_any (B : Nat) (a : Option Addr) (n c : Nat) (l : List Int) (most : Int) (w : World) (hB : B ≤ w.heap.size) (h : Ints B w a n c l) :
    Calls Try.prog 71 #[.slice a n c, .int .i64 most] w fun e w' => e = .returned (.bool (nOk l most)) ∧ w = w' := by
  have L := Lib.hid h.len
  have C := h.sl.cap
  have T := h.sl.top
  have H := Lib.hid h
  clear h
  by_cases h1 : 1 ≤ n ∧ n ≤ 12
  · have cMi := Lib.hid (slicesMin_any B a n c l w hB H.out (by omega))
    have cMa := Lib.hid (slicesMax_any B a n c l w hB H.out (by omega))
    obtain ⟨ha, hb⟩ := h1
    have q1 : ((n : Int) == 0) = false := by simp; omega
    have q2 : ¬ (12 : Int) < (n : Int) := by omega
    have HE : Hid (∀ lo hi : Int, LeastTo l n lo → MostTo l n hi → nOk l most = (decide (1 ≤ lo) && decide (hi ≤ most))) := Lib.hid (fun lo hi hl hh => nOk_of_ends (by have := L.out; omega) (by rw [L.out]; exact hl) (by rw [L.out]; exact hh))
    go_enter Try.func71, Try.ntmps71
    go_wp2_with fail
    refine cMi.out.mono ?_
    rintro e w' ⟨⟨lo, rfl, hlo⟩, rfl⟩
    have HLo := Lib.hid hlo
    clear hlo
    by_cases hl1 : 1 ≤ lo
    · go_wp2_with (go_at_call 85; refine cMa.out.mono ?_; rintro e w' ⟨⟨hi, rfl, hhi⟩, rfl⟩; have HHi := Lib.hid hhi; clear hhi)
      go_ret
      exact ⟨ret_bool (by rw [HE.out lo hi HLo.out HHi.out]; simp [hl1]), rfl⟩
    · have HF : Hid (nOk l most = false) := Lib.hid (by
        cases hh : nOk l most with
        | false => rfl
        | true => exact absurd ((nOk_iff.1 hh).2.2 lo HLo.out.1).1 hl1)
      go_wp2_with (go_at_call 85; refine cMa.out.mono ?_; rintro e w' ⟨⟨hi, rfl, hhi⟩, rfl⟩; have HHi := Lib.hid hhi; clear hhi)
      go_ret
      exact ⟨ret_bool HF.out.symm, rfl⟩
  · have HF : Hid (nOk l most = false) := Lib.hid (nOk_not (by have := L.out; omega))
    by_cases h0 : n = 0
    · subst h0
      clear h1
      have q1 : (((0 : Nat) : Int) == 0) = true := rfl
      go_enter Try.func71, Try.ntmps71
      go_wp2
      go_ret
      exact ⟨ret_bool HF.out.symm, rfl⟩
    · have q1 : ((n : Int) == 0) = false := by simp; omega
      have q2 : (12 : Int) < (n : Int) := by omega
      clear h0 h1
      go_enter Try.func71, Try.ntmps71
      go_wp2
      go_ret
      exact ⟨ret_bool HF.out.symm, rfl⟩

end Go.Proofs.Ythjafoacnfgjhab
