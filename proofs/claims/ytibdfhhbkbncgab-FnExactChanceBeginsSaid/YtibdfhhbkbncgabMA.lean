import Derived.Test.YtibdfhhbkbncgabOwn
import Derived.WalkKit
import Derived.Test.YtibdfhhbkbncgabFrI
import Derived.Test.YtibdfhhbkbncgabFrD
import Derived.Test.YtibdfhhbkbncgabGvT

/-
  The greater of two numbers: the reference's helper.
-/
namespace Go.Proofs.Ytibdfhhbkbncgab
open Go.RowKit
set_option linter.unusedVariables false

theorem l1Most_is (x y : Int) (w : World) : Calls Try.prog 71 #[.int .i64 x, .int .i64 y] w fun e w' => e = .returned (.int .i64 (if y < x then x else y)) ∧ w' = w := by
  by_cases h : y < x
  · rw [if_pos h]
    go_enter Try.func71, Try.ntmps71
    go_wp2
    go_ret
    exact ⟨rfl, rfl⟩
  · rw [if_neg h]
    go_enter Try.func71, Try.ntmps71
    go_wp2
    go_ret
    exact ⟨rfl, rfl⟩

end Go.Proofs.Ytibdfhhbkbncgab

/-
  The reference's fractions.
-/
namespace Go.Proofs.Ytibdfhhbkbncgab
open Go.RowKit
set_option linter.unusedVariables false

set_option maxRecDepth 1000000 in
set_option maxHeartbeats 1000000 in
theorem l9Cut_any (a b : Nat) (w : World) (ha : a ≤ 9000000000000000000) (hb : b ≤ 9000000000000000000) (h0 : 0 < b) :
    Calls Try.prog 42 #[.int .i64 (a : Int), .int .i64 (b : Int)] w fun e w' => e = .returned (fv (fra a b)) ∧ Below w.heap.size w w' := by
  have HB1 : Hid (Below w.heap.size w (w.alloc (.cells #[.int .i64 0, .int .i64 0] 26))) := Lib.hid ((Below.refl _ _).alloc (Nat.le_refl _) _)
  have HW1 : Hid (∀ n, ((w.alloc (.cells #[.int .i64 0, .int .i64 0] 26)).drewN n).heap[w.heap.size]? = some (.cells #[.int .i64 0, .int .i64 0] 26)) := Lib.hid (fun n => new_drewN _ _ _)
  have hg := gcd_le_left' (a := a) h0
  have HF : Hid (fra a b = (a / Nat.gcd a b, b / Nat.gcd a b)) := Lib.hid rfl
  go_enter Try.func42, Try.ntmps42
  go_wp2
  go_loopw [5, 6] (fun x y wr => ∃ p q n : Nat, x = .int .i64 p ∧ y = .int .i64 q ∧ p ≤ 9000000000000000000 ∧ q ≤ 9000000000000000000 ∧ Hid (Nat.gcd p q = Nat.gcd a b) ∧ wr = (w.alloc (.cells #[.int .i64 0, .int .i64 0] 26)).drewN n) (fun _ y _ => (intOf y).toNat)
  case atStart => exact ⟨a, b, 0, rfl, rfl, ha, hb, Lib.hid rfl, rfl⟩
  case round =>
    obtain ⟨p, q, n, rfl, rfl, hp, hq, HG, rfl⟩ := hrel
    by_cases h0 : 0 < q
    · have hq0 : ((q : Int) != 0) = true := by simp; omega
      have hq1 : ¬ (q : Int) = 0 := by omega
      have hqb : ((q : Int) == 0) = false := by simp; omega
      obtain ⟨r, hr⟩ : ∃ r, p % q = r := ⟨_, rfl⟩
      have hrq : r < q := by rw [← hr]; exact Nat.mod_lt _ h0
      have e1 : (p : Int).tmod (q : Int) = (r : Int) := by rw [tmod_cast, hr]
      have HN : Hid (Nat.gcd q r = Nat.gcd a b) := Lib.hid (by rw [← HG.out, ← hr, Nat.gcd_comm q, ← Nat.gcd_rec, Nat.gcd_comm])
      clear hr
      go_wp2
      go_quiet (fail)
      go_wp2
      go_roundw
      case rel => exact ⟨q, r, n + nq, rfl, by first | rfl | go_num, hq, by omega, HN, by simp⟩
      case measure => simp [intOf]; omega
    · have h00 : q = 0 := by omega
      subst h00
      have HE : Nat.gcd a b = p := by rw [← HG.out, Nat.gcd_zero_right]
      rw [HE] at HF hg
      clear HE HG
      have hg0 : ¬ (p : Int) = 0 := by omega
      have hgb : ((p : Int) == 0) = false := by simp; omega
      have hgn : ¬ p = 0 := by omega
      obtain ⟨x, hx⟩ : ∃ x, a / p = x := ⟨_, rfl⟩
      obtain ⟨y, hy⟩ : ∃ y, b / p = y := ⟨_, rfl⟩
      have hxa : x ≤ a := by rw [← hx]; exact Nat.div_le_self _ _
      have hyb : y ≤ b := by rw [← hy]; exact Nat.div_le_self _ _
      have e1 : (a : Int).tdiv (p : Int) = (x : Int) := by rw [tdiv_cast, hx]
      have e2 : (b : Int).tdiv (p : Int) = (y : Int) := by rw [tdiv_cast, hy]
      rw [hx, hy] at HF
      clear hx hy
      have w1 : IntKind.i64.wrap (x : Int) = (x : Int) := by rw [IntKind.wrap_i64]; omega
      have w2 : IntKind.i64.wrap (y : Int) = (y : Int) := by rw [IntKind.wrap_i64]; omega
      have w3 : IntKind.i64.wrap ((a : Int).tdiv (p : Int)) = (x : Int) := by rw [e1, w1]
      have w4 : IntKind.i64.wrap ((b : Int).tdiv (p : Int)) = (y : Int) := by rw [e2, w2]
      have cM := Lib.hid (fun W => l1Most_is (p : Int) 1 W)
      have em : (if (1 : Int) < (p : Int) then (p : Int) else 1) = (p : Int) := by split <;> omega
      rw [em] at cM
      clear em
      go_wp2_with fail
      go_region_held3 (fun _ => True) (first | trivial) (first | (go_at_call 71; refine (cM.out _).mono ?_; rintro e w2 ⟨rfl, rfl⟩))
      go_wp2_with fail
      have hh : ((w.alloc (.cells #[.int .i64 0, .int .i64 0] 26)).drewN (n + 1)).heap[w.heap.size]? = some (.cells #[.int .i64 0, .int .i64 0] 26) := new_drewN _ _ _
      have hb := pair_below (v1 := .int .i64 (x : Int)) (v2 := .int .i64 (y : Int)) (below_drewN HB1.out (n + 1)) (Nat.le_refl _)
      obtain ⟨hc0, hc1⟩ := pair_set (a' := .int .i64 (x : Int)) (b' := .int .i64 (y : Int)) hh
      generalize (((w.alloc (.cells #[.int .i64 0, .int .i64 0] 26)).drewN (n + 1)).setCell ⟨w.heap.size, 0, none⟩ (.int .i64 (x : Int))).setCell ⟨w.heap.size, 1, none⟩ (.int .i64 (y : Int)) = W at *
      refine bodyPost_ret (v := fv (x, y)) (by simp [results, Try.results42, go_sem, hc0, hc1, fv]) rfl ⟨by rw [HF.out], hb⟩

end Go.Proofs.Ytibdfhhbkbncgab

/-
  What stays while a function works on a trie that it was given and has a fraction to return: the trie's box, the fraction's, the trie, and all that was there before.
-/
namespace Go.Proofs.Ytibdfhhbkbncgab
open Go.RowKit
set_option linter.unusedVariables false

/-- W: when the function was entered; w: now; j: where the fraction lies behind the trie's box -/
structure Gf (ty : TypeId) (j : Nat) (W w : World) (a : Option Addr) (n c : Nat) (t : List Nd) : Prop where
  box : w.cell? ⟨W.heap.size, 0, none⟩ = some (.slice a n c)
  res : w.heap[W.heap.size + j]? = some (.cells #[.int .i64 0, .int .i64 0] ty)
  pos : 1 ≤ j
  lt : W.heap.size + j < w.heap.size
  bel : Below W.heap.size W w
  nds : Nds W.heap.size w a n c t

theorem Gf.start {W : World} {a : Option Addr} {n c : Nat} {t : List Nd} (ty : TypeId) (h : Nds W.heap.size W a n c t) : Gf ty 1 W ((W.alloc (.cells #[.slice a n c] 31)).alloc (.cells #[.int .i64 0, .int .i64 0] ty)) a n c t := by
  have hb : Below W.heap.size W ((W.alloc (.cells #[.slice a n c] 31)).alloc (.cells #[.int .i64 0, .int .i64 0] ty)) := ((Below.refl _ _).alloc (Nat.le_refl _) _).alloc (by simp) _
  refine ⟨?_, ?_, Nat.le_refl _, by simp, hb, h.keep hb⟩
  · rw [World.cell?_alloc_lt _ _ _ (by simp)]
    simp
  · have := heap_alloc_new (W.alloc (.cells #[.slice a n c] 31)) (.cells #[.int .i64 0, .int .i64 0] ty)
    simpa using this

theorem Gf.size {ty : TypeId} {j : Nat} {W w : World} {a : Option Addr} {n c : Nat} {t : List Nd} (h : Gf ty j W w a n c t) : W.heap.size < w.heap.size := by have := h.lt; omega

theorem Gf.on {ty : TypeId} {j : Nat} {W w w' : World} {a : Option Addr} {n c : Nat} {t : List Nd} (h : Gf ty j W w a n c t) (hb : Below w.heap.size w w') : Gf ty j W w' a n c t :=
  ⟨(hb.cell (p := ⟨W.heap.size, 0, none⟩) h.size).trans h.box, (hb.block _ h.lt).trans h.res, h.pos, Nat.lt_of_lt_of_le h.lt hb.size, h.bel.trans (hb.mono (Nat.le_of_lt h.size)), h.nds.keep (hb.mono (Nat.le_of_lt h.size))⟩

/-- behind changes that leave what is up to the fraction -/
theorem Gf.on2 {ty : TypeId} {j : Nat} {W w w' : World} {a : Option Addr} {n c : Nat} {t : List Nd} (h : Gf ty j W w a n c t) (hb : Below (W.heap.size + j + 1) w w') : Gf ty j W w' a n c t :=
  ⟨(hb.cell (p := ⟨W.heap.size, 0, none⟩) (show W.heap.size < W.heap.size + j + 1 by omega)).trans h.box, (hb.block _ (by omega)).trans h.res, h.pos, Nat.lt_of_lt_of_le h.lt hb.size, h.bel.trans (hb.mono (by omega)), h.nds.keep (hb.mono (by omega))⟩

theorem Gf.drewN {ty : TypeId} {j : Nat} {W w : World} {a : Option Addr} {n c : Nat} {t : List Nd} (h : Gf ty j W w a n c t) (q : Nat) : Gf ty j W (w.drewN q) a n c t := h.on (below_drewN (Below.refl _ _) q)

/-- what stands behind the store of the answer -/
theorem Gf.end' {ty : TypeId} {j : Nat} {W w : World} {a : Option Addr} {n c : Nat} {t : List Nd} (h : Gf ty j W w a n c t) (x y : Value) :
    (((w.setCell ⟨W.heap.size + j, 0, none⟩ x).setCell ⟨W.heap.size + j, 1, none⟩ y).cell? ⟨W.heap.size + j, 0, none⟩ = some x ∧ ((w.setCell ⟨W.heap.size + j, 0, none⟩ x).setCell ⟨W.heap.size + j, 1, none⟩ y).cell? ⟨W.heap.size + j, 1, none⟩ = some y) ∧ Below W.heap.size W ((w.setCell ⟨W.heap.size + j, 0, none⟩ x).setCell ⟨W.heap.size + j, 1, none⟩ y) :=
  ⟨pair_set h.res, pair_below h.bel (by omega)⟩

theorem Gf.open {ty : TypeId} {j : Nat} {W w : World} {a : Option Addr} {n c : Nat} {t : List Nd} (h : Gf ty j W w a n c t) :
    w.cell? ⟨W.heap.size + j, 0, none⟩ = some (.int .i64 0) ∧ w.cell? ⟨W.heap.size + j, 1, none⟩ = some (.int .i64 0) ∧ w.frozen? ⟨W.heap.size + j, 0, none⟩ = false ∧ w.frozen? ⟨W.heap.size + j, 1, none⟩ = false := frozen_new2 h.res

end Go.Proofs.Ytibdfhhbkbncgab
