/-
  The kid with a letter: the reference's search.
-/
import Derived.Test.YtfehfjnmkaifbabKidWith
import Derived.IntWalk
namespace Go.Proofs.Ytfehfjnmkaifbab
open Go.RowKit
set_option linter.unusedVariables false

/-- the reference's kid with a letter, or -1 -/
def KidNum (t : List Nd) (i : Nat) (l : Int) (w : World) (e : Ending) (w' : World) : Prop :=
  ∃ r : Int, e = .returned (.int .i64 r) ∧ (r = -1 ∧ (∀ j', ¬ IsKid t i l j') ∨ ∃ j : Nat, r = (j : Int) ∧ IsKid t i l j) ∧ Below w.heap.size w w'

set_option maxHeartbeats 1000000 in
theorem l2Kid_any (B : Nat) (a : Option Addr) (n c i : Nat) (t : List Nd) (l : Int) (w : World) (hB : B ≤ w.heap.size) (h : Nds B w a n c t) (hn : n ≤ 1000) (hi : i < n) :
    Calls Try.prog 50 #[.agg #[.slice a n c], .int .i64 (i : Int), .int .i64 l] w (KidNum t i l w) := by
  have L := Lib.hid h.len
  have C := h.cap
  have T := h.top
  have HB1 : Hid (Below w.heap.size w (w.alloc (.cells #[.slice a n c] 30))) := Lib.hid ((Below.refl _ _).alloc (Nat.le_refl _) _)
  have H := Lib.hid (h.keep (HB1.out.mono hB))
  clear h hB
  go_enter Try.func50, Try.ntmps50
  go_wp2
  go_loop [7] (fun q => ∃ k : Nat, i < k ∧ k ≤ n ∧ q = .int .i64 k ∧ Hid (∀ j, j < k → ¬ IsKid t i l j)) (fun q => n - (intOf q).toNat)
  case atStart => exact ⟨i + 1, by omega, by omega, by go_num, Lib.hid (fun j h => by rintro ⟨h1, _⟩; omega)⟩
  case round =>
    obtain ⟨k, hik, hkn, rfl, HN⟩ := hrel
    by_cases hlt : k < n
    · obtain ⟨b, o, lk, pk, ek, rfl, hbB, hd, hl, hp, hc1, hc2, hc3⟩ := H.out.elem k hlt
      have HD := Lib.hid hd
      clear hd
      by_cases hpi : pk = (i : Int)
      · have hb1 : (pk == (i : Int)) = true := by simp [hpi]
        by_cases hll : lk = l
        · have hb2 : (lk == l) = true := by simp [hll]
          have HX : Hid (IsKid t i l k) := Lib.hid ⟨hik, _, HD.out, hpi, hll⟩
          clear hpi hll
          go_wp2
          go_ret
          exact ⟨(k : Int), rfl, .inr ⟨k, rfl, HX.out⟩, HB1.out⟩
        · have hb2 : (lk == l) = false := by simp [hll]
          have HN2 : Hid (∀ j, j < k + 1 → ¬ IsKid t i l j) := Lib.hid (fun j hj => by
            by_cases e : j = k
            · subst e
              rintro ⟨_, d, h1, _, h3⟩
              rw [HD.out] at h1
              rw [← Option.some.inj h1] at h3
              exact hll h3
            · exact HN.out j (by omega))
          clear hpi hll
          go_wp2
          go_round
          case rel => exact ⟨k + 1, by omega, by omega, by go_num, HN2⟩
          case measure => simp [intOf]; omega
      · have hb1 : (pk == (i : Int)) = false := by simp [hpi]
        have HN2 : Hid (∀ j, j < k + 1 → ¬ IsKid t i l j) := Lib.hid (fun j hj => by
          by_cases e : j = k
          · subst e
            rintro ⟨_, d, h1, h2, _⟩
            rw [HD.out] at h1
            rw [← Option.some.inj h1] at h2
            exact hpi h2
          · exact HN.out j (by omega))
        clear hpi
        go_wp2
        go_round
        case rel => exact ⟨k + 1, by omega, by omega, by go_num, HN2⟩
        case measure => simp [intOf]; omega
    · have HX : Hid (∀ j, ¬ IsKid t i l j) := Lib.hid (fun j hj => by
        have hj' := hj
        obtain ⟨_, d, h1, _⟩ := hj'
        exact HN.out j (by have := (List.getElem?_eq_some_iff.1 h1).1; have := L.out; omega) hj)
      go_wp2
      go_ret
      exact ⟨-1, rfl, .inl ⟨rfl, HX.out⟩, HB1.out⟩

end Go.Proofs.Ytfehfjnmkaifbab
