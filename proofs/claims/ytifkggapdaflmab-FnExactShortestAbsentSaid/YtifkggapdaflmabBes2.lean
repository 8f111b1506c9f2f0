/-
  A slice of texts that is read beside a row that is stored into.
-/
import Derived.Test.YtifkggapdaflmabBes
import Derived.Test.YtifkggapdaflmabNumsB
import Derived.Test.YtifkggapdaflmabPrt2
namespace Go.Proofs.Ytifkggapdaflmab
open Go.RowKit
set_option linter.unusedVariables false

theorem Bes.grown {B : Nat} {w w2 : World} {a : Option Addr} {n c g : Nat} {xs : List Txt} (h : Bes B w a n c xs g) (hB : B ≤ w.heap.size) (hG : w.grownBy w2 (some g)) : Bes B w2 a n c xs g := by
  refine ⟨⟨⟨h.wds.sl.len, h.wds.sl.cap, h.wds.sl.top, fun i u hu => ?_⟩, h.wds.each⟩, h.far⟩
  obtain ⟨b, o', ha, hb, hc⟩ := h.wds.sl.spot i u hu
  have hne : b ≠ g := h.far _ ha (by
    rintro rfl
    simp at hu)
  exact ⟨b, o', ha, hb, (World.cell?_of_block (a := ⟨b, o' + i, none⟩) (hG.block b (by omega) (fun e => by injection e with e; exact hne e))).trans hc⟩

/-- texts lie in no block of numbers -/
theorem Bes.ints {w : World} {a : Option Addr} {n c g nn : Nat} {xs : List Txt} {cz : Array Value} {t : TypeId} (h : Wds w.heap.size w a n c xs) (hg : w.heap[g]? = some (.cells cz t (0, 0))) (hz : cz.toList = List.replicate nn (.int .i64 0)) : Bes w.heap.size w a n c xs g :=
  ⟨h, fun x hx hn => by
    obtain ⟨y, r, rfl⟩ := List.exists_cons_of_ne_nil hn
    obtain ⟨b, o', ha, hb, hc⟩ := h.sl.spot 0 (.string (bx y)) rfl
    rw [hx] at ha
    injection ha with ha
    subst ha
    intro e
    simp only at e
    subst e
    simp only [World.cell?, hg, Option.isSome_none, Bool.false_eq_true, if_false, Nat.add_zero] at hc
    have h1 : cz.toList[o']? = some (.string (bx y)) := by rw [Array.getElem?_toList]; exact hc
    rw [hz, List.getElem?_replicate] at h1
    split at h1
    · injection h1 with h1; cases h1
    · cases h1⟩

/-- texts lie in no empty block -/
theorem Bes.empty {w : World} {a : Option Addr} {n c g : Nat} {xs : List Txt} {t : TypeId} (h : Wds w.heap.size w a n c xs) (hg : w.heap[g]? = some (.cells #[] t (0, 0))) : Bes w.heap.size w a n c xs g :=
  ⟨h, fun x hx hn => by
    obtain ⟨y, r, rfl⟩ := List.exists_cons_of_ne_nil hn
    obtain ⟨b, o', ha, hb, hc⟩ := h.sl.spot 0 (.string (bx y)) rfl
    rw [hx] at ha
    injection ha with ha
    subst ha
    intro e
    simp only at e
    subst e
    simp [World.cell?, hg] at hc⟩

/-- a row that was made later lies elsewhere -/
theorem Bes.later {B : Nat} {w : World} {a : Option Addr} {n c g : Nat} {xs : List Txt} (h : Wds B w a n c xs) (hg : B ≤ g) : Bes B w a n c xs g :=
  ⟨h, fun x hx hn => by
    obtain ⟨y, r, rfl⟩ := List.exists_cons_of_ne_nil hn
    obtain ⟨b, o', ha, hb, hc⟩ := h.sl.spot 0 (.string (bx y)) rfl
    rw [hx] at ha
    injection ha with ha
    subst ha
    simp only
    omega⟩

theorem nums_set (l : List Nat) (j v : Nat) : (nums l).set j (.int .i64 (v : Int)) = nums (l.set j v) := by
  unfold nums; rw [List.map_set]

/-- making n zeros, as one step -/
theorem make_run {P : Program} (t e : TypeId) (z : Value) (bytes : Nat) (ht : P.underlying t = some (.slice e)) (hi : (P.info? e).map (fun i => (i.zero, i.size, i.bytes)) = some (some z, 1, bytes)) (hz1 : z.cells = #[z]) (n : Nat) (hn : n ≤ 1000) (hb : bytes ≤ 100) :
    ∃ cz : Array Value, cz.size = n ∧ cz.toList = List.replicate n z ∧ ∀ W : World, (Instr.makeSlice t (.int .i64 (n : Int)) (.int .i64 (n : Int))).run P W = .ok (.slice (some ⟨W.heap.size, 0, none⟩) n n) (W.alloc (.cells cz e)) := by
  obtain ⟨i0, hi0, hz0, hs0, hb0⟩ := info_parts hi
  refine ⟨madeCells #[z] n, by rw [size_madeCells], toList_madeCells_one z n, fun W => ?_⟩
  have h63' : (n : Int) ≤ 9223372036854775807 := by omega
  have hb' : (i0.bytes : Int) * (n : Int) ≤ 281474976710656 := by
    rw [hb0]
    have : bytes * n ≤ 100 * 1000 := Nat.mul_le_mul hb hn
    have h : ((bytes * n : Nat) : Int) ≤ 281474976710656 := by omega
    rwa [Int.natCast_mul] at h
  have hr := run_make (P := P) W t e i0 z ht hi0 hz0 .i64 .i64 n n (by omega) (Int.le_refl _) hb' h63'
  simp only [Int.toNat_natCast, hs0, Nat.mul_one, hz1] at hr
  exact hr

end Go.Proofs.Ytifkggapdaflmab
