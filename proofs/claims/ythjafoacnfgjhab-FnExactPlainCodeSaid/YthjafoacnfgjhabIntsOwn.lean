/-
  Copies of lists of numbers, in memory of their own; marks that are written into them.
-/
import Derived.Test.YthjafoacnfgjhabInts
import Derived.Laws.OwnMore
namespace Go.Proofs.Ythjafoacnfgjhab
open Go.RowKit
set_option linter.unusedVariables false

theorem own_far {base : Nat} {w w' : World} {e : TypeId} {size n g : Nat} {v : Value} {xs : List Value} (h : w.ownsRow base e size v n xs) (hg : w.grownBy w' (some g)) (hb : g < base) : w'.ownsRow base e size v n xs := by
  refine ⟨h.1, ?_⟩
  rcases h.2 with hn | ⟨g', cap, cur, hv, hbg, hc, rest⟩
  · exact .inl hn
  · refine .inr ⟨g', cap, cur, hv, hbg, ?_, rest⟩
    rw [hg.block g' (Array.getElem?_eq_some_iff.1 hc).1 (by simp; omega)]
    exact hc

theorem grown_below {w w' : World} {g : Nat} (h : w.grownBy w' (some g)) (hg : g ≤ w.heap.size) : Below g w w' :=
  (Below.refl _ _).grown h hg (fun k e => by cases e; exact Nat.le_refl _)

set_option maxHeartbeats 400000 in
theorem toIntS_own (B : Nat) (a : Option Addr) (n c : Nat) (l : List Int) (w : World) (hB : B ≤ w.heap.size) (h : Ints B w a n c l) (hn : n ≤ 1048576) :
    Calls Try.prog 15 #[.slice a n c] w fun e w' => e = .returned (.slice (some ⟨w.heap.size, 0, none⟩) n n) ∧ w'.ownsRow w.heap.size 3 1 (.slice (some ⟨w.heap.size, 0, none⟩) n n) n (ints l) ∧ Ints w'.heap.size w' (some ⟨w.heap.size, 0, none⟩) n n l ∧ w.heap.size < w'.heap.size ∧ Below w.heap.size w w' := by
  have L := Lib.hid h.len
  have C := h.sl.cap
  have T := h.sl.top
  have H := Lib.hid h
  clear h
  obtain ⟨i0, hi, hz0, hz1, hz2⟩ := info_parts infoI
  go_enter Try.func15, Try.ntmps15
  go_wp2_with (first | (at_make; refine wpList_make_full _ rfl _ _ 29 rfl w.heap.size 3 i0 (.int .i64 0) 1 Try.underlying29 hi hz0 hz1 .i64 .i64 _ _ n rfl rfl rfl rfl (by rw [hz2]; omega) (by unfold maxLen; omega) (Nat.le_refl _) ?_; intro w1 hown hgrow))
  have hlt1 : w.heap.size < w1.heap.size := own_lt hown
  have hown0 : w1.ownsRow w.heap.size 3 1 (.slice (some ⟨w.heap.size, 0, none⟩) n n) n (icopied l n 0) := by
    rw [icopied_zero]
    have e := toList_madeCells_one (.int .i64 0) n
    rw [Nat.mul_one] at hown
    exact e ▸ hown
  have hb1 : Below w.heap.size w w1 := (Below.refl _ _).grown hgrow (Nat.le_refl _) (fun k e => by cases e)
  clear hown hgrow
  go_loopw [4] (fun i wr => ∃ k : Nat, k ≤ n ∧ i = .int .i64 k ∧ wr.ownsRow w.heap.size 3 1 (.slice (some ⟨w.heap.size, 0, none⟩) n n) n (icopied l n k) ∧ Below w.heap.size w wr ∧ w.heap.size < wr.heap.size) (fun i _ => n - (intOf i).toNat)
  case atStart => exact ⟨0, Nat.zero_le _, rfl, hown0, hb1, hlt1⟩
  case round =>
    clear hown0 hb1 hlt1
    obtain ⟨k, hk, rfl, hown, hb, hlt2⟩ := hrel
    by_cases hlt : k < n
    · obtain ⟨b, o, s, rfl, hbB, hs, hsz, hc⟩ := (H.out.keep (hb.mono hB)).elem k hlt
      have HS := Lib.hid hs
      clear hs hsz
      have hf := hown.frozenAt k
      have hd := hown.cellAt k (by omega)
      rw [icopied_at (by have := L.out; omega) hlt] at hd
      have hst := (hown.stored k (.int .i64 s)).1
      rw [icopied_succ L.out HS.out] at hst
      have HST := Lib.hid hst
      clear hst
      have HO := Lib.hid hown
      clear hown
      go_wp2
      go_roundw
      case rel => exact ⟨k + 1, by omega, by go_num, HST.out, hb.setCell (p := ⟨w.heap.size, k, none⟩) (Nat.le_refl _) _, by simpa using hlt2⟩
      case measure => simp [intOf]; omega
    · have e : k = n := by omega
      subst e
      rw [icopied_all L.out] at hown
      have HO := Lib.hid hown
      have HI : Hid (Ints wr.heap.size wr (some ⟨w.heap.size, 0, none⟩) k k l) := Lib.hid (by
        obtain ⟨a', c', e', hI⟩ := ints_of_own hown H.out.each
        cases e'
        exact hI)
      clear hown
      go_wp2
      go_ret
      exact ⟨rfl, HO.out, HI.out, hlt2, hb⟩

/-- what is marked after j rounds -/
def imk (xs : List Value) (k j : Nat) : List Value := ((List.range j).map fun i => Value.int .i64 ((k + i : Nat) : Int)) ++ xs.drop j
theorem imk_zero (xs : List Value) (k : Nat) : imk xs k 0 = xs := by simp [imk]
theorem imk_succ {xs : List Value} {k j : Nat} (h : j < xs.length) : (imk xs k j).set j (.int .i64 ((k + j : Nat) : Int)) = imk xs k (j + 1) := by
  unfold imk
  rw [List.set_append_right _ _ (by simp)]
  have e1 : j - ((List.range j).map fun i => Value.int .i64 ((k + i : Nat) : Int)).length = 0 := by simp
  rw [e1, List.drop_eq_getElem_cons h, List.set_cons_zero, List.range_succ, List.map_append]
  simp
theorem imk_at {xs : List Value} {k j : Nat} (h : j < xs.length) : (imk xs k j)[j]? = some xs[j] := by
  unfold imk
  rw [List.getElem?_append_right (by simp)]
  simp [h]

set_option maxHeartbeats 1000000 in
theorem markIntS_copy (base g n c : Nat) (xs : List Value) (w : World) (h : w.ownsRow base 3 1 (.slice (some ⟨g, 0, none⟩) n c) n xs) (hn : n ≤ 1048576) :
    Calls Try.prog 18 #[.slice (some ⟨g, 0, none⟩) n c, .int .i64 1] w fun e w' => e = .returned (.int .i64 ((1 + n : Nat) : Int)) ∧ w.grownBy w' (some g) := by
  have L : Hid (xs.length = n) := Lib.hid (by have := h.1; simpa using this)
  have HB := own_base h
  have HO0 := Lib.hid h
  clear h
  go_enter Try.func18, Try.ntmps18
  go_wp2
  go_loopw [1, 5] (fun q i wr => ∃ j : Nat, j ≤ n ∧ i = .int .i64 j ∧ q = .int .i64 ((1 + j : Nat) : Int) ∧ Hid (wr.ownsRow base 3 1 (.slice (some ⟨g, 0, none⟩) n c) n (imk xs 1 j)) ∧ Hid (w.grownBy wr (some g))) (fun _ i _ => n - (intOf i).toNat)
  case atStart => exact ⟨0, Nat.zero_le _, rfl, rfl, Lib.hid (by rw [imk_zero]; exact HO0.out), Lib.hid (World.grownBy.refl _ _)⟩
  case round =>
    obtain ⟨j, hj, rfl, rfl, HO, hb⟩ := hrel
    by_cases hlt : j < n
    · have hxl : j < xs.length := by rw [L.out]; exact hlt
      have hf := HO.out.frozenAt j
      have hd := HO.out.cellAt j (by omega)
      obtain ⟨u, hu⟩ : ∃ u, (imk xs 1 j)[j]? = some u := ⟨_, imk_at hxl⟩
      rw [hu] at hd
      have HS := Lib.hid (HO.out.stored j (.int .i64 ((1 + j : Nat) : Int)))
      have HS1 : Hid ((wr.setCell ⟨g, j, none⟩ (.int .i64 ((1 + j : Nat) : Int))).ownsRow base 3 1 (.slice (some ⟨g, 0, none⟩) n c) n (imk xs 1 (j + 1))) := Lib.hid (by have := HS.out.1; rwa [imk_succ hxl] at this)
      have HG : Hid (w.grownBy (wr.setCell ⟨g, j, none⟩ (.int .i64 ((1 + j : Nat) : Int))) (some g)) := Lib.hid (hb.out.trans HS.out.2)
      obtain ⟨kk, hkk⟩ : ∃ kk : Int, ((1 + j : Nat) : Int) = kk := ⟨_, rfl⟩
      have HK := Lib.hid hkk
      have hkb : 0 ≤ kk ∧ kk ≤ 2000000 := by omega
      rw [hkk] at HS1 HG ⊢
      clear hkk hu HS hxl
      go_wp2
      go_roundw
      case rel => exact ⟨j + 1, by omega, by go_num, by rw [← HK.out]; go_num, HS1, HG⟩
      case measure => simp [intOf]; omega
    · have e : j = n := by omega
      subst e
      go_wp2
      go_ret
      exact ⟨rfl, hb.out⟩

end Go.Proofs.Ythjafoacnfgjhab
