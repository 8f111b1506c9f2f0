/-
  The program's quotient of a fraction by a number.
-/
import Derived.Test.YthjafoacnfgjhacFrI
namespace Go.Proofs.Ythjafoacnfgjhac
open Go.RowKit
set_option linter.unusedVariables false

theorem pair_cells (w : World) (x y : Value) (e : TypeId) : (w.alloc (.cells #[x, y] e)).cell? ⟨w.heap.size, 0, none⟩ = some x ∧ (w.alloc (.cells #[x, y] e)).cell? ⟨w.heap.size, 1, none⟩ = some y := by
  exact ⟨by simp, by simp⟩

theorem far2 {W : World} {s : Nat} {v1 v2 : Value} {p : Addr} (h : p.block ≠ s) : ((W.setCell ⟨s, 0, none⟩ v1).setCell ⟨s, 1, none⟩ v2).cell? p = W.cell? p := by
  rw [World.cell?_setCell_far _ _ _ _ (by simpa using fun e : s = p.block => h e.symm), World.cell?_setCell_far _ _ _ _ (by simpa using fun e : s = p.block => h e.symm)]

theorem frozen_new2 {W : World} {s : Nat} {a b : Value} {e : TypeId} (h : W.heap[s]? = some (.cells #[a, b] e)) : W.cell? ⟨s, 0, none⟩ = some a ∧ W.cell? ⟨s, 1, none⟩ = some b ∧ W.frozen? ⟨s, 0, none⟩ = false ∧ W.frozen? ⟨s, 1, none⟩ = false := by
  refine ⟨?_, ?_, ?_, ?_⟩ <;> simp [World.cell?, World.frozen?, h]

set_option maxRecDepth 1000000 in
set_option maxHeartbeats 1000000 in
theorem dividedBy_any (p : Nat × Nat) (d : Nat) (w : World) (h1 : p.1 ≤ 9000000000000000000) (h2 : p.2 * d ≤ 9000000000000000000) (h0 : 0 < p.2) (hd : 0 < d) :
    Calls Try.prog 61 #[fv p, .int .i64 (d : Int)] w fun e w' => e = .returned (fv (fra p.1 (p.2 * d))) ∧ Below w.heap.size w w' := by
  obtain ⟨x, y⟩ := p
  have hp0 : 0 < y * d := Nat.mul_pos h0 hd
  have cF := Lib.hid (fun W => fractionOf_any x (y * d) W h1 h2 hp0)
  have HB1 : Hid (Below w.heap.size w ((w.alloc (.cells #[.int .i64 (x : Int), .int .i64 (y : Int)] 65)).alloc (.cells #[.int .i64 0, .int .i64 0] 65))) := Lib.hid (((Below.refl _ _).alloc (Nat.le_refl _) _).alloc (by simp) _)
  obtain ⟨u1, u2⟩ := pair_cells w (.int .i64 (x : Int)) (.int .i64 (y : Int)) 65
  have HW1 : Hid (((w.alloc (.cells #[.int .i64 (x : Int), .int .i64 (y : Int)] 65)).alloc (.cells #[.int .i64 0, .int .i64 0] 65)).heap[w.heap.size + 1]? = some (.cells #[.int .i64 0, .int .i64 0] 65)) := Lib.hid (by
    have := heap_alloc_new (w.alloc (.cells #[.int .i64 (x : Int), .int .i64 (y : Int)] 65)) (.cells #[.int .i64 0, .int .i64 0] 65)
    simpa using this)
  have hyd : ((y : Int) * (d : Int)) = ((y * d : Nat) : Int) := by rw [Int.natCast_mul]
  simp only at h1 h2 h0 hp0
  obtain ⟨z, hz⟩ : ∃ z, y * d = z := ⟨_, rfl⟩
  rw [hz] at hyd h2 cF
  have hwr : IntKind.i64.wrap ((y : Int) * (d : Int)) = (z : Int) := by rw [hyd, IntKind.wrap_i64]; omega
  show Calls Try.prog 61 #[.agg #[.int .i64 (x : Int), .int .i64 (y : Int)], .int .i64 (d : Int)] w fun e w' => e = .returned (fv (fra x (y * d))) ∧ Below w.heap.size w w'
  rw [hz]
  obtain ⟨⟨q1, q2⟩, hq⟩ : ∃ q, fra x z = q := ⟨_, rfl⟩
  rw [hq] at cF ⊢
  rw [fv_mk] at cF
  clear hq hz
  go_enter Try.func61, Try.ntmps61
  go_wp2_with fail
  refine (cF.out _).mono ?_
  rintro e w2 ⟨rfl, hb2⟩
  have hh := (hb2.block (w.heap.size + 1) (by simp)).trans HW1.out
  have HB2 := Lib.hid (HB1.out.trans (hb2.mono HB1.out.size))
  obtain ⟨f1, f2, f3, f4⟩ := frozen_new2 hh
  clear hb2
  go_wp2_with fail
  have hb := pair_below (v1 := .int .i64 (q1 : Int)) (v2 := .int .i64 (q2 : Int)) HB2.out (Nat.le_succ w.heap.size)
  obtain ⟨hc0, hc1⟩ := pair_set (a' := .int .i64 (q1 : Int)) (b' := .int .i64 (q2 : Int)) hh
  generalize ((w2.setCell ⟨w.heap.size + 1, 0, none⟩ (.int .i64 (q1 : Int))).setCell ⟨w.heap.size + 1, 1, none⟩ (.int .i64 (q2 : Int))) = W at *
  refine bodyPost_ret (v := fv (q1, q2)) (by simp [results, Try.results61, go_sem, hc0, hc1, fv]) rfl ⟨rfl, hb⟩

end Go.Proofs.Ythjafoacnfgjhac
