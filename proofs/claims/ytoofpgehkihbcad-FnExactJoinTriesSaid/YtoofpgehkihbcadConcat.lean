/-
  Two lists of strings, one behind the other: slices.Concat.
-/
import Derived.Test.YtoofpgehkihbcadWords
import Derived.Lib.AppendZerosOnto
import Derived.RangeFuncBox
namespace Go.Proofs.Ytoofpgehkihbcad
open Go.RowKit Go.Lib
set_option linter.unusedVariables false

set_option maxRecDepth 1000000 in
set_option maxHeartbeats 1000000 in
theorem growNil_any (n : Nat) (w : World) (hn : n ≤ 100000) :
    Calls Try.prog 61 #[.slice none 0 0, .int .i64 (n : Int)] w fun e w' => ∃ v, e = .returned v ∧ w'.ownsRow w.heap.size 9 1 v 0 [] ∧ Below w.heap.size w w' := by
  obtain ⟨i0, hii, hz0, hz1, hz2⟩ := info_parts infoS
  by_cases h0 : n = 0
  · subst h0
    go_enter Try.func61, Try.ntmps61
    go_wp2
    go_ret
    exact ⟨_, rfl, World.ownsRow_nil _ _ _ _, Below.refl _ _⟩
  · have hp : (0 : Int) < (n : Int) := by omega
    have hold : (Builtin.firstCells i0.size 0 (.slice none 0 0)).run Try.prog w.drew = .ok (#[] : Array Value) w.drew := run_firstCells_none w.drew i0.size 0 0 0
    have hrz0 := fun ty => Lib.run_append_grow_zeros w 43 3 ty 9 i0 (.string ByteArray.empty) .i64 .i64 Try.underlying43 Try.underlying3 hii hz0 none 0 0 [] hold n (by omega) (by omega) (by omega) (by omega) (by rw [hz2]; omega) (growslice_fits (by omega) (by rw [hz2]; omega))
    rw [Nat.zero_add] at hrz0
    have hge := grownCap_ge w n 0 9
    have hle := grownCap_le_maxLen w n 0 9 (by unfold maxLen; omega)
    obtain ⟨G, hG⟩ : ∃ G, grownCap w n 0 9 = G := ⟨_, rfl⟩
    rw [hG] at hrz0 hge hle
    obtain ⟨cs, hcs⟩ : ∃ cs, ((([] : List Value).toArray ++ Builtin.zeroCells (Value.string ByteArray.empty).cells n ++ Builtin.zeroCells (Value.string ByteArray.empty).cells (G - n))) = cs := ⟨_, rfl⟩
    have hsz : cs.size = G := by
      rw [← hcs]
      simp [Builtin.zeroCells, Value.cells]
      omega
    rw [hcs] at hrz0
    have HR := Lib.hid hrz0
    unfold maxLen at hle
    have HO : Hid ((w.drew.alloc (.cells cs 9)).ownsRow w.heap.size 9 1 (.slice (some ⟨w.heap.size, 0, none⟩) 0 G) 0 []) := Lib.hid ⟨rfl, .inr ⟨w.heap.size, G, cs, rfl, Nat.le_refl _, World.alloc_heap_new w.drew _, Nat.zero_le _, by unfold maxLen; omega, by omega, by simp⟩⟩
    have HB : Hid (Below w.heap.size w (w.drew.alloc (.cells cs 9))) := Lib.hid ((Below.refl _ _).drew.alloc (Nat.le_refl _) _)
    clear hrz0 hold hG hcs hsz
    have e1 : ¬ ((n : Int) < 0) := by omega
    go_enter Try.func61, Try.ntmps61
    go_wp2_with (at_builtin; refine Lib.wpList_append_run _ rfl _ _ _ _ rfl _ _ rfl rfl _ _ (HR.out _) ?_)
    go_ret
    exact ⟨_, rfl, HO.out, HB.out⟩

def catAt (n1 n2 : Nat) (xs1 xs2 : List Value) : Nat → Nat × List Value
  | 0 => (0, [])
  | 1 => (n1, xs1)
  | _ => (n1 + n2, xs1 ++ xs2)

set_option maxRecDepth 1000000 in
set_option maxHeartbeats 2000000 in
theorem concat2_any (B g n1 c1 n2 c2 : Nat) (a1 a2 : Option Addr) (xs1 xs2 : List Value) (w : World) (hB : B ≤ w.heap.size) (hg : g < w.heap.size) (h1 : Sl B w a1 n1 c1 xs1) (h2 : Sl B w a2 n2 c2 xs2)
    (hc1 : w.cell? ⟨g, 0, none⟩ = some (.slice a1 n1 c1)) (hc2 : w.cell? ⟨g, 1, none⟩ = some (.slice a2 n2 c2)) (ho1 : ∀ u ∈ xs1, u.oneCell' = true) (ho2 : ∀ u ∈ xs2, u.oneCell' = true) (hn1 : n1 ≤ 1000) (hn2 : n2 ≤ 1000) :
    Calls Try.prog 38 #[.slice (some ⟨g, 0, none⟩) 2 2] w fun e w' => ∃ v, e = .returned v ∧ w'.ownsRow w.heap.size 9 1 v (n1 + n2) (xs1 ++ xs2) ∧ Below w.heap.size w w' := by
  have C1 := h1.cap
  have T1 := h1.top
  have C2 := h2.cap
  have T2 := h2.top
  have H1 := Lib.hid (fun (W : World) (hW : Below w.heap.size w W) => h1.keep (hW.mono hB))
  have H2 := Lib.hid (fun (W : World) (hW : Below w.heap.size w W) => h2.keep (hW.mono hB))
  have HC : Hid (∀ W, Below w.heap.size w W → W.cell? ⟨g, 0, none⟩ = some (.slice a1 n1 c1) ∧ W.cell? ⟨g, 1, none⟩ = some (.slice a2 n2 c2)) := Lib.hid (fun W hW => ⟨(hW.cell (p := ⟨g, 0, none⟩) hg).trans hc1, (hW.cell (p := ⟨g, 1, none⟩) hg).trans hc2⟩)
  have HO1 := Lib.hid ho1
  have HO2 := Lib.hid ho2
  clear h1 h2 ho1 ho2 hg hB
  obtain ⟨i0, hii, hz0, hz1, hz2⟩ := info_parts infoS
  go_enter Try.func38, Try.ntmps38
  go_wp2
  go_loop [3, 11] (fun q i => (i = .int .i64 (0 : Nat) ∧ q = .int .i64 (0 : Nat)) ∨ (i = .int .i64 (1 : Nat) ∧ q = .int .i64 n1) ∨ (i = .int .i64 (2 : Nat) ∧ q = .int .i64 ((n1 + n2 : Nat) : Int))) (fun _ i => 2 - (intOf i).toNat)
  case atStart => exact .inl ⟨rfl, rfl⟩
  case round =>
    rcases hrel with ⟨rfl, rfl⟩ | ⟨rfl, rfl⟩ | ⟨rfl, rfl⟩
    · go_wp2
      go_round
      case rel => exact .inr (.inl ⟨by go_num, by go_num⟩)
      case measure => simp [intOf]
    · have e1 : ¬ ((n1 : Int) + (n2 : Int) < 0) := by omega
      have e2 : (0 : Int) ≤ (n1 : Int) + (n2 : Int) := by omega
      go_wp2
      go_round
      case rel => exact .inr (.inr ⟨by go_num, by go_num⟩)
      case measure => simp [intOf]
    · clear hc1 hc2
      go_wp2_with fail
      refine (growNil_any (n1 + n2) w (by omega)).mono ?_
      rintro e w1 ⟨v, rfl, hO, hb⟩
      have HB1 := Lib.hid hb
      have HOv := Lib.hid hO
      obtain ⟨av, cv, rfl⟩ := own_slice hO
      clear hO hb
      go_wp2
      go_loopw [6, 27] (fun q i wr => ∃ (j : Nat), j ≤ 2 ∧ i = .int .i64 j ∧ Hid (wr.ownsRow w.heap.size 9 1 q (catAt n1 n2 xs1 xs2 j).1 (catAt n1 n2 xs1 xs2 j).2) ∧ Hid (Below w.heap.size w wr)) (fun _ i _ => 2 - (intOf i).toNat)
      case atStart => exact ⟨0, by omega, rfl, HOv, HB1⟩
      case round =>
        obtain ⟨j, hj, rfl, HO, HBw⟩ := hrel
        obtain ⟨hc1, hc2⟩ := HC.out _ HBw.out
        have hbs := HBw.out.size
        match j, hj with
        | 0, _ =>
          have HO' : Hid (wr.ownsRow w.heap.size 9 1 _ 0 []) := Lib.hid HO.out
          obtain ⟨aq, cq, rfl⟩ := own_slice HO'.out
          clear hc2 HO
          go_wp2_with (at_builtin; refine wpList_append_sl rfl _ _ 43 rfl w.heap.size 9 i0 (.string ByteArray.empty) 16 Try.underlying43 hii hz0 hz1 hz2 rfl _ _ _ rfl HO'.out rfl (H1.out _ HBw.out) HO1.out (by unfold maxLen; omega) (by omega) hbs ?_; intro v9 w9 hO9 hG9; have HO9 := Lib.hid hO9; have HB9 := Lib.hid (HBw.out.trans (below_grown HO'.out (Nat.le_refl _) hbs hG9)); clear hO9 hG9)
          go_roundw
          case rel => exact ⟨1, by omega, by go_num, Lib.hid (by have := HO9.out; simpa [catAt] using this), HB9⟩
          case measure => simp [intOf]
        | 1, _ =>
          have HO' : Hid (wr.ownsRow w.heap.size 9 1 _ n1 xs1) := Lib.hid HO.out
          obtain ⟨aq, cq, rfl⟩ := own_slice HO'.out
          clear hc1 HO
          go_wp2_with (at_builtin; refine wpList_append_sl rfl _ _ 43 rfl w.heap.size 9 i0 (.string ByteArray.empty) 16 Try.underlying43 hii hz0 hz1 hz2 rfl _ _ _ rfl HO'.out rfl (H2.out _ HBw.out) HO2.out (by unfold maxLen; omega) (by omega) hbs ?_; intro v9 w9 hO9 hG9; have HO9 := Lib.hid hO9; have HB9 := Lib.hid (HBw.out.trans (below_grown HO'.out (Nat.le_refl _) hbs hG9)); clear hO9 hG9)
          go_roundw
          case rel => exact ⟨2, by omega, by go_num, Lib.hid HO9.out, HB9⟩
          case measure => simp [intOf]
        | 2, _ =>
          have HO' : Hid (wr.ownsRow w.heap.size 9 1 _ (n1 + n2) (xs1 ++ xs2)) := Lib.hid HO.out
          clear hc1 hc2 HO
          go_wp2
          go_ret
          exact ⟨_, rfl, HO'.out, HBw.out⟩

end Go.Proofs.Ytoofpgehkihbcad
