/-
  Copies of lists of strings, in memory of their own; marks that are written into them.
-/
import Derived.Test.YthjafoacnfgjhabMarkS
import Derived.Test.YthjafoacnfgjhabStrsTo
import Derived.Test.YthjafoacnfgjhabBas
namespace Go.Proofs.Ythjafoacnfgjhab
open Go.RowKit
set_option linter.unusedVariables false

set_option maxHeartbeats 400000 in
theorem toStringS_own (B : Nat) (a : Option Addr) (n c : Nat) (ss : List ByteArray) (w : World) (hB : B ≤ w.heap.size) (h : Strs B w a n c ss) (hn : n ≤ 1048576) :
    Calls Try.prog 11 #[.slice a n c] w fun e w' => e = .returned (.slice (some ⟨w.heap.size, 0, none⟩) n n) ∧ w'.ownsRow w.heap.size 9 1 (.slice (some ⟨w.heap.size, 0, none⟩) n n) n (ss.map Value.string) ∧ Strs w'.heap.size w' (some ⟨w.heap.size, 0, none⟩) n n ss ∧ w.heap.size < w'.heap.size ∧ Below w.heap.size w w' := by
  have L := Lib.hid h.len
  have C := h.sl.cap
  have T := h.sl.top
  have H := Lib.hid h
  clear h
  obtain ⟨i0, hi, hz0, hz1, hz2⟩ := info_parts infoS
  go_enter Try.func11, Try.ntmps11
  go_wp2_with (first | (at_make; refine wpList_make_full _ rfl _ _ 22 rfl w.heap.size 9 i0 (.string ByteArray.empty) 1 Try.underlying22 hi hz0 hz1 .i64 .i64 _ _ n rfl rfl rfl rfl (by rw [hz2]; omega) (by unfold maxLen; omega) (Nat.le_refl _) ?_; intro w1 hown hgrow))
  have hlt1 : w.heap.size < w1.heap.size := own_lt hown
  have hown0 : w1.ownsRow w.heap.size 9 1 (.slice (some ⟨w.heap.size, 0, none⟩) n n) n (copied ss n 0) := by
    rw [copied_zero]
    have e := toList_madeCells_one (.string ByteArray.empty) n
    rw [Nat.mul_one] at hown
    exact e ▸ hown
  have hb1 : Below w.heap.size w w1 := (Below.refl _ _).grown hgrow (Nat.le_refl _) (fun k e => by cases e)
  clear hown hgrow
  go_loopw [4] (fun i wr => ∃ k : Nat, k ≤ n ∧ i = .int .i64 k ∧ wr.ownsRow w.heap.size 9 1 (.slice (some ⟨w.heap.size, 0, none⟩) n n) n (copied ss n k) ∧ Below w.heap.size w wr ∧ w.heap.size < wr.heap.size) (fun i _ => n - (intOf i).toNat)
  case atStart => exact ⟨0, Nat.zero_le _, rfl, hown0, hb1, hlt1⟩
  case round =>
    clear hown0 hb1 hlt1
    obtain ⟨k, hk, rfl, hown, hb, hlt2⟩ := hrel
    by_cases hlt : k < n
    · obtain ⟨b, o, s, rfl, hbB, hs, hsz, hc⟩ := (H.out.keep (hb.mono hB)).elem k hlt
      have HS := Lib.hid hs
      clear hs
      have hf := hown.frozenAt k
      have hd := hown.cellAt k (by omega)
      rw [copied_at (by have := L.out; omega) hlt] at hd
      have hst := (hown.stored k (.string s)).1
      rw [copied_succ L.out HS.out] at hst
      have HST := Lib.hid hst
      clear hst
      have HO := Lib.hid hown
      clear hown
      go_wp2
      go_roundw
      case rel => exact ⟨k + 1, by omega, by go_num, HST.out, hb.setCell (p := ⟨w.heap.size, k, none⟩) (Nat.le_refl _) _, by simpa using hlt2⟩
      case measure => simp [intOf]; omega
    · have e : k = n := by omega
      subst e
      rw [copied_all L.out] at hown
      have HO := Lib.hid hown
      have HS9 := Lib.hid (strs_of_own hown H.out.each (own_lt hown))
      clear hown
      go_wp2
      go_ret
      exact ⟨rfl, HO.out, HS9.out, hlt2, hb⟩

theorem grown_setS {a w : World} {g k : Nat} (h : a.grownBy w (some g)) (u : Value) : a.grownBy (w.setCell ⟨g, k, none⟩ u) (some g) :=
  ⟨h.os, h.tape, h.output, by simpa [World.setCell] using h.size, fun i hi hne => (Below.heap_setCell w ⟨g, k, none⟩ u i (by intro e; exact hne (by rw [e]))).trans (h.block i hi hne)⟩
theorem grown_of_belowS {a w : World} {row : Option Nat} (h : Below a.heap.size a w) : a.grownBy w row := ⟨h.os, h.tape, h.output, h.size, fun k hk _ => h.block k hk⟩

set_option maxHeartbeats 1000000 in
theorem markStringS_own (base g n c k : Nat) (xs : List Value) (w : World) (h : w.ownsRow base 9 1 (.slice (some ⟨g, 0, none⟩) n c) n xs) (hbase : base ≤ w.heap.size) (hn : n ≤ 10000000) (hk : k ≤ 10000000) :
    Calls Try.prog 19 #[.slice (some ⟨g, 0, none⟩) n c, .int .i64 (k : Int)] w fun e w' => e = .returned (.int .i64 ((k + n : Nat) : Int)) ∧
      w'.ownsRow base 9 1 (.slice (some ⟨g, 0, none⟩) n c) n ((marks k n).map Value.string) ∧ w.grownBy w' (some g) := by
  have L : Hid (xs.length = n) := Lib.hid (by have := h.1; simpa using this)
  have HB := own_base h
  go_enter Try.func19, Try.ntmps19
  go_wp2
  go_loopw [1, 5] (fun q i wr => ∃ j : Nat, j ≤ n ∧ i = .int .i64 j ∧ q = .int .i64 ((k + j : Nat) : Int) ∧ wr.ownsRow base 9 1 (.slice (some ⟨g, 0, none⟩) n c) n (marked xs k j) ∧ w.grownBy wr (some g)) (fun _ i _ => n - (intOf i).toNat)
  case atStart => exact ⟨0, Nat.zero_le _, rfl, rfl, by rw [marked_zero]; exact h, World.grownBy.refl _ _⟩
  case round =>
    clear h
    obtain ⟨j, hj, rfl, rfl, hown, hb⟩ := hrel
    by_cases hlt : j < n
    · have hsz := own_lt hown
      have cM := Lib.hid (markText_any (k + j) wr (by omega))
      have HOW := Lib.hid hown
      have hbs := hb.size
      clear hown
      go_wp2_with (go_at_call 38; refine cM.out.mono ?_; rintro e w1 ⟨rfl, hb1⟩; have hf := (own_keep HOW.out hb1).frozenAt j; have hd := (own_keep HOW.out hb1).cellAt j (by omega); rw [marked_at (by rw [L.out]; exact hlt)] at hd)
      have hst := ((own_keep HOW.out hb1).stored j (.string (mt (k + j)))).1
      rw [marked_succ (by rw [L.out]; exact hlt)] at hst
      go_roundw
      case rel => exact ⟨j + 1, by omega, by go_num, by go_num, hst, grown_setS (hb.trans (grown_of_belowS hb1)) _⟩
      case measure => simp [intOf]; omega
    · have e : j = n := by omega
      subst e
      have HOW : Hid (wr.ownsRow base 9 1 (.slice (some ⟨g, 0, none⟩) j c) j ((marks k j).map Value.string)) := Lib.hid (by rw [← marked_all L.out]; exact hown)
      clear hown
      go_wp2
      go_ret
      exact ⟨rfl, HOW.out, hb⟩

theorem markStringS_copy (base g n c : Nat) (xs : List Value) (w : World) (h : w.ownsRow base 9 1 (.slice (some ⟨g, 0, none⟩) n c) n xs) (hn : n ≤ 1048576) (hbase : base ≤ w.heap.size) :
    Calls Try.prog 19 #[.slice (some ⟨g, 0, none⟩) n c, .int .i64 1] w fun e w' => e = .returned (.int .i64 ((1 + n : Nat) : Int)) ∧ w.grownBy w' (some g) :=
  (markStringS_own base g n c 1 xs w h hbase (by omega) (by omega)).mono fun e w' ⟨h1, _, h2⟩ => ⟨h1, h2⟩

theorem own_farS {base : Nat} {w w' : World} {e : TypeId} {size n g : Nat} {v : Value} {xs : List Value} (h : w.ownsRow base e size v n xs) (hg : w.grownBy w' (some g)) (hb : g < base) : w'.ownsRow base e size v n xs := by
  refine ⟨h.1, ?_⟩
  rcases h.2 with hn | ⟨g', cap, cur, hv, hbg, hc, rest⟩
  · exact .inl hn
  · refine .inr ⟨g', cap, cur, hv, hbg, ?_, rest⟩
    rw [hg.block g' (Array.getElem?_eq_some_iff.1 hc).1 (by simp; omega)]
    exact hc

theorem grown_belowS {w w' : World} {g : Nat} (h : w.grownBy w' (some g)) (hg : g ≤ w.heap.size) : Below g w w' :=
  (Below.refl _ _).grown h hg (fun k e => by cases e; exact Nat.le_refl _)

end Go.Proofs.Ythjafoacnfgjhab
