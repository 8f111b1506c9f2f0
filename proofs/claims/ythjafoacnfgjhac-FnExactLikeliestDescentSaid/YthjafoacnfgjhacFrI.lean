/-
  The program's fractions.
-/
import Derived.Test.YthjafoacnfgjhacFr
import Derived.Test.YthjafoacnfgjhacOwn
import Derived.Deep.QuietTactic
import Derived.BigQuiet
import Derived.Deep.RegionHeld3
namespace Go.Proofs.Ythjafoacnfgjhac
open Go.RowKit
set_option linter.unusedVariables false

/-- a fraction as the program holds it -/
def fv (p : Nat × Nat) : Value := .agg #[.int .i64 (p.1 : Int), .int .i64 (p.2 : Int)]
theorem fv_mk (x y : Nat) : fv (x, y) = .agg #[.int .i64 (x : Int), .int .i64 (y : Int)] := rfl

theorem pair_set {W : World} {s : Nat} {a b a' b' : Value} {e : TypeId} (h : W.heap[s]? = some (.cells #[a, b] e)) :
    ((W.setCell ⟨s, 0, none⟩ a').setCell ⟨s, 1, none⟩ b').cell? ⟨s, 0, none⟩ = some a' ∧ ((W.setCell ⟨s, 0, none⟩ a').setCell ⟨s, 1, none⟩ b').cell? ⟨s, 1, none⟩ = some b' := by
  have h2 : ((W.setCell ⟨s, 0, none⟩ a').setCell ⟨s, 1, none⟩ b').heap[s]? = some (.cells #[a', b'] e) := by
    simp [World.setCell, Array.getElem?_modify, h]
  constructor <;> simp [World.cell?, h2]
theorem pair_below {B s : Nat} {w W : World} {v1 v2 : Value} (h : Below B w W) (hs : B ≤ s) : Below B w ((W.setCell ⟨s, 0, none⟩ v1).setCell ⟨s, 1, none⟩ v2) :=
  (h.setCell (p := ⟨s, 0, none⟩) hs _).setCell (p := ⟨s, 1, none⟩) hs _

theorem new_drewN (w : World) (o : Obj) (n : Nat) : ((w.alloc o).drewN n).heap[w.heap.size]? = some o := by
  rw [show ((w.alloc o).drewN n).heap = (w.alloc o).heap by simp]
  exact heap_alloc_new w o

theorem tmod_cast (p q : Nat) : (p : Int).tmod (q : Int) = ((p % q : Nat) : Int) := by
  rw [Int.tmod_eq_emod_of_nonneg (by omega)]
  exact (Int.natCast_emod p q).symm
theorem tdiv_cast (p q : Nat) : (p : Int).tdiv (q : Int) = ((p / q : Nat) : Int) := by
  rw [Int.tdiv_eq_ediv_of_nonneg (by omega)]
  exact (Int.natCast_ediv p q).symm

set_option maxRecDepth 1000000 in
set_option maxHeartbeats 1000000 in
theorem commonDivisor_any (a b : Nat) (w : World) (ha : a ≤ 9000000000000000000) (hb : b ≤ 9000000000000000000) :
    Calls Try.prog 71 #[.int .i64 (a : Int), .int .i64 (b : Int)] w fun e w' => e = .returned (.int .i64 ((Nat.gcd a b : Nat) : Int)) ∧ ∃ n, w' = w.drewN n := by
  go_enter Try.func71, Try.ntmps71
  go_wp2
  go_loopw [0, 1] (fun x y wr => ∃ p q n : Nat, x = .int .i64 p ∧ y = .int .i64 q ∧ p ≤ 9000000000000000000 ∧ q ≤ 9000000000000000000 ∧ Hid (Nat.gcd p q = Nat.gcd a b) ∧ wr = w.drewN n) (fun _ y _ => (intOf y).toNat)
  case atStart => exact ⟨a, b, 0, rfl, rfl, ha, hb, Lib.hid rfl, rfl⟩
  case round =>
    obtain ⟨p, q, n, rfl, rfl, hp, hq, HG, rfl⟩ := hrel
    by_cases h0 : 0 < q
    · have hq0 : ((q : Int) != 0) = true := by simp; omega
      have hq1 : ¬ (q : Int) = 0 := by omega
      have hqb : ((q : Int) == 0) = false := by simp; omega
      obtain ⟨r, hr⟩ : ∃ r, p % q = r := ⟨_, rfl⟩
      have hrq : r < q := by rw [← hr]; exact Nat.mod_lt _ h0
      have e1 : (p : Int).tmod (q : Int) = (r : Int) := by rw [tmod_cast, hr]
      have HN : Hid (Nat.gcd q r = Nat.gcd a b) := Lib.hid (by rw [← HG.out, ← hr, Nat.gcd_comm q, ← Nat.gcd_rec, Nat.gcd_comm])
      clear hr
      go_wp2
      go_quiet (fail)
      go_wp2
      go_roundw
      case rel => exact ⟨q, r, n + nq, rfl, by first | rfl | go_num, hq, by omega, HN, by simp⟩
      case measure => simp [intOf]; omega
    · have h00 : q = 0 := by omega
      subst h00
      have HE : Hid (Nat.gcd a b = p) := Lib.hid (by rw [← HG.out, Nat.gcd_zero_right])
      go_wp2
      go_ret
      exact ⟨ret_num (by rw [HE.out]), n, rfl⟩

theorem gcd_le_left' {a b : Nat} (hb : 0 < b) : 0 < Nat.gcd a b ∧ Nat.gcd a b ≤ b := ⟨Nat.gcd_pos_of_pos_right a hb, Nat.gcd_le_right a hb⟩

set_option maxRecDepth 1000000 in
set_option maxHeartbeats 1000000 in
theorem fractionOf_any (a b : Nat) (w : World) (ha : a ≤ 9000000000000000000) (hb : b ≤ 9000000000000000000) (h0 : 0 < b) :
    Calls Try.prog 67 #[.int .i64 (a : Int), .int .i64 (b : Int)] w fun e w' => e = .returned (fv (fra a b)) ∧ Below w.heap.size w w' := by
  have HB1 : Hid (Below w.heap.size w (w.alloc (.cells #[.int .i64 0, .int .i64 0] 65))) := Lib.hid ((Below.refl _ _).alloc (Nat.le_refl _) _)
  have cG := Lib.hid (fun W => commonDivisor_any a b W ha hb)
  have hg := gcd_le_left' (a := a) h0
  have HF : Hid (fra a b = (a / Nat.gcd a b, b / Nat.gcd a b)) := Lib.hid rfl
  obtain ⟨g, hgg⟩ : ∃ g, Nat.gcd a b = g := ⟨_, rfl⟩
  rw [hgg] at hg HF cG
  clear hgg
  have hg0 : ¬ (g : Int) = 0 := by omega
  have hgb : ((g : Int) == 0) = false := by simp; omega
  obtain ⟨x, hx⟩ : ∃ x, a / g = x := ⟨_, rfl⟩
  obtain ⟨y, hy⟩ : ∃ y, b / g = y := ⟨_, rfl⟩
  have hxa : x ≤ a := by rw [← hx]; exact Nat.div_le_self _ _
  have hyb : y ≤ b := by rw [← hy]; exact Nat.div_le_self _ _
  have e1 : (a : Int).tdiv (g : Int) = (x : Int) := by rw [tdiv_cast, hx]
  have e2 : (b : Int).tdiv (g : Int) = (y : Int) := by rw [tdiv_cast, hy]
  rw [hx, hy] at HF
  rw [HF.out]
  clear hx hy HF
  go_enter Try.func67, Try.ntmps67
  go_wp2_with fail
  refine (cG.out _).mono ?_
  rintro e w2 ⟨rfl, n, rfl⟩
  go_wp2_with fail
  go_region
  go_wp2_with fail
  have hh : ((w.alloc (.cells #[.int .i64 0, .int .i64 0] 65)).drewN (n + 1)).heap[w.heap.size]? = some (.cells #[.int .i64 0, .int .i64 0] 65) := new_drewN _ _ _
  have hb := pair_below (v1 := .int .i64 (x : Int)) (v2 := .int .i64 (y : Int)) (below_drewN HB1.out (n + 1)) (Nat.le_refl _)
  obtain ⟨hc0, hc1⟩ := pair_set (a' := .int .i64 (x : Int)) (b' := .int .i64 (y : Int)) hh
  generalize (((w.alloc (.cells #[.int .i64 0, .int .i64 0] 65)).drewN (n + 1)).setCell ⟨w.heap.size, 0, none⟩ (.int .i64 (x : Int))).setCell ⟨w.heap.size, 1, none⟩ (.int .i64 (y : Int)) = W at *
  refine bodyPost_ret (v := fv (x, y)) (by simp [results, Try.results67, go_sem, hc0, hc1, fv]) rfl ⟨rfl, hb⟩

end Go.Proofs.Ythjafoacnfgjhac
