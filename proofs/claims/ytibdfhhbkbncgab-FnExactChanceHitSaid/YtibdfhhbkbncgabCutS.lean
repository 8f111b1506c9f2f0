/-
  The reference's fractions.
-/
import Derived.Test.YtibdfhhbkbncgabFrI
import Derived.Test.YtibdfhhbkbncgabMost1
namespace Go.Proofs.Ytibdfhhbkbncgab
open Go.RowKit
set_option linter.unusedVariables false

set_option maxRecDepth 1000000 in
set_option maxHeartbeats 1000000 in
theorem l9Cut_any (a b : Nat) (w : World) (ha : a ≤ 9000000000000000000) (hb : b ≤ 9000000000000000000) (h0 : 0 < b) :
    Calls Try.prog 42 #[.int .i64 (a : Int), .int .i64 (b : Int)] w fun e w' => e = .returned (fv (fra a b)) ∧ Below w.heap.size w w' := by
  have HB1 : Hid (Below w.heap.size w (w.alloc (.cells #[.int .i64 0, .int .i64 0] 26))) := Lib.hid ((Below.refl _ _).alloc (Nat.le_refl _) _)
  have HW1 : Hid (∀ n, ((w.alloc (.cells #[.int .i64 0, .int .i64 0] 26)).drewN n).heap[w.heap.size]? = some (.cells #[.int .i64 0, .int .i64 0] 26)) := Lib.hid (fun n => new_drewN _ _ _)
  have hg := gcd_le_left' (a := a) h0
  have HF : Hid (fra a b = (a / Nat.gcd a b, b / Nat.gcd a b)) := Lib.hid rfl
  go_enter Try.func42, Try.ntmps42
  go_wp2
  go_loopw [5, 6] (fun x y wr => ∃ p q n : Nat, x = .int .i64 p ∧ y = .int .i64 q ∧ p ≤ 9000000000000000000 ∧ q ≤ 9000000000000000000 ∧ Hid (Nat.gcd p q = Nat.gcd a b) ∧ wr = (w.alloc (.cells #[.int .i64 0, .int .i64 0] 26)).drewN n) (fun _ y _ => (intOf y).toNat)
  case atStart => exact ⟨a, b, 0, rfl, rfl, ha, hb, Lib.hid rfl, rfl⟩
  case round =>
    obtain ⟨p, q, n, rfl, rfl, hp, hq, HG, rfl⟩ := hrel
    by_cases h0 : 0 < q
    · have hq0 : ((q : Int) != 0) = true := by simp; omega
      have hq1 : ¬ (q : Int) = 0 := by omega
      have hqb : ((q : Int) == 0) = false := by simp; omega
      obtain ⟨r, hr⟩ : ∃ r, p % q = r := ⟨_, rfl⟩
      have hrq : r < q := by rw [← hr]; exact Nat.mod_lt _ h0
      have e1 : (p : Int).tmod (q : Int) = (r : Int) := by rw [tmod_cast, hr]
      have HN : Hid (Nat.gcd q r = Nat.gcd a b) := Lib.hid (by rw [← HG.out, ← hr, Nat.gcd_comm q, ← Nat.gcd_rec, Nat.gcd_comm])
      clear hr
      go_wp2
      go_quiet (fail)
      go_wp2
      go_roundw
      case rel => exact ⟨q, r, n + nq, rfl, by first | rfl | go_num, hq, by omega, HN, by simp⟩
      case measure => simp [intOf]; omega
    · have h00 : q = 0 := by omega
      subst h00
      have HE : Nat.gcd a b = p := by rw [← HG.out, Nat.gcd_zero_right]
      rw [HE] at HF hg
      clear HE HG
      have hg0 : ¬ (p : Int) = 0 := by omega
      have hgb : ((p : Int) == 0) = false := by simp; omega
      have hgn : ¬ p = 0 := by omega
      obtain ⟨x, hx⟩ : ∃ x, a / p = x := ⟨_, rfl⟩
      obtain ⟨y, hy⟩ : ∃ y, b / p = y := ⟨_, rfl⟩
      have hxa : x ≤ a := by rw [← hx]; exact Nat.div_le_self _ _
      have hyb : y ≤ b := by rw [← hy]; exact Nat.div_le_self _ _
      have e1 : (a : Int).tdiv (p : Int) = (x : Int) := by rw [tdiv_cast, hx]
      have e2 : (b : Int).tdiv (p : Int) = (y : Int) := by rw [tdiv_cast, hy]
      rw [hx, hy] at HF
      clear hx hy
      have w1 : IntKind.i64.wrap (x : Int) = (x : Int) := by rw [IntKind.wrap_i64]; omega
      have w2 : IntKind.i64.wrap (y : Int) = (y : Int) := by rw [IntKind.wrap_i64]; omega
      have w3 : IntKind.i64.wrap ((a : Int).tdiv (p : Int)) = (x : Int) := by rw [e1, w1]
      have w4 : IntKind.i64.wrap ((b : Int).tdiv (p : Int)) = (y : Int) := by rw [e2, w2]
      have cM := Lib.hid (fun W => l1Most_is (p : Int) 1 W)
      have em : (if (1 : Int) < (p : Int) then (p : Int) else 1) = (p : Int) := by split <;> omega
      rw [em] at cM
      clear em
      go_wp2_with fail
      go_region_held3 (fun _ => True) (first | trivial) (first | (go_at_call 71; refine (cM.out _).mono ?_; rintro e w2 ⟨rfl, rfl⟩))
      go_wp2_with fail
      have hh : ((w.alloc (.cells #[.int .i64 0, .int .i64 0] 26)).drewN (n + 1)).heap[w.heap.size]? = some (.cells #[.int .i64 0, .int .i64 0] 26) := new_drewN _ _ _
      have hb := pair_below (v1 := .int .i64 (x : Int)) (v2 := .int .i64 (y : Int)) (below_drewN HB1.out (n + 1)) (Nat.le_refl _)
      obtain ⟨hc0, hc1⟩ := pair_set (a' := .int .i64 (x : Int)) (b' := .int .i64 (y : Int)) hh
      generalize (((w.alloc (.cells #[.int .i64 0, .int .i64 0] 26)).drewN (n + 1)).setCell ⟨w.heap.size, 0, none⟩ (.int .i64 (x : Int))).setCell ⟨w.heap.size, 1, none⟩ (.int .i64 (y : Int)) = W at *
      refine bodyPost_ret (v := fv (x, y)) (by simp [results, Try.results42, go_sem, hc0, hc1, fv]) rfl ⟨by rw [HF.out], hb⟩

end Go.Proofs.Ytibdfhhbkbncgab
