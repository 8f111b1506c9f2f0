/-
  The reference's first words and last words.
-/
import Derived.Test.YtpneflbnipefaabFrst
import Derived.Test.YtpneflbnipefaabBegins
import Derived.Test.YtpneflbnipefaabWordsN
import Derived.Deep.QuietTactic
import Derived.BigQuiet
namespace Go.Proofs.Ytpneflbnipefaab
open Go.RowKit
set_option linter.unusedVariables false

def FstTo (xs : List Txt) (f : Bool) (k : Nat) (x : Txt) (j : Nat) : Prop := ∀ (i : Nat) (y : Txt), i < j → i ≠ k → xs[i]? = some y → ¬ (if f = true then y <+: x else x <+: y)
theorem FstTo.zero (xs : List Txt) (f : Bool) (k : Nat) (x : Txt) : FstTo xs f k x 0 := fun i y h => by omega
theorem FstTo.self {xs : List Txt} {f : Bool} {k : Nat} {x : Txt} {q : Bool} (h : q = true ↔ FstTo xs f k x k) : q = true ↔ FstTo xs f k x (k + 1) :=
  h.trans ⟨fun a i y h1 h2 => a i y (by omega) h2, fun a i y h1 h2 => a i y (by omega) h2⟩
theorem FstTo.good {xs : List Txt} {f : Bool} {k j : Nat} {x y : Txt} {q : Bool} (h : q = true ↔ FstTo xs f k x j) (hy : xs[j]? = some y) (hn : ¬ (if f = true then y <+: x else x <+: y)) : q = true ↔ FstTo xs f k x (j + 1) :=
  h.trans ⟨fun a i z h1 h2 h3 => by
    by_cases c : i = j
    · subst c
      rw [hy] at h3
      obtain rfl := Option.some.inj h3
      exact hn
    · exact a i z (by omega) h2 h3, fun a i z h1 h2 => a i z (by omega) h2⟩
theorem FstTo.bad {xs : List Txt} {f : Bool} {k j : Nat} {x y : Txt} (hjk : j ≠ k) (hy : xs[j]? = some y) (hn : if f = true then y <+: x else x <+: y) : false = true ↔ FstTo xs f k x (j + 1) :=
  ⟨fun h => (by cases h), fun a => absurd hn (a j y (by omega) hjk hy)⟩
theorem FstTo.all {xs : List Txt} {f : Bool} {k n : Nat} {x : Txt} {q : Bool} (h : q = true ↔ FstTo xs f k x n) (hn : n = xs.length) : q = true ↔ Fst xs f k x :=
  h.trans ⟨fun a i y h1 h2 => a i y (by rw [hn]; exact (List.getElem?_eq_some_iff.1 h2).1) h1 h2, fun a i y _ h1 h2 => a i y h1 h2⟩

theorem frst_sub (xs : List Txt) (f : Bool) : ∀ k, ∀ x ∈ frst xs f k, x ∈ xs
  | 0, x, h => by simp [frst] at h
  | k + 1, x, h => by
    have ih := frst_sub xs f k
    cases hx : xs[k]? with
    | none => simp [frst, hx] at h; exact ih x h
    | some y =>
      by_cases hf : Fst xs f k y
      · rw [frst_hit hx hf] at h
        rcases List.mem_append.1 h with h | h
        · exact ih x h
        · rw [List.mem_singleton] at h
          rw [h]
          exact at_mem hx
      · rw [frst_miss hx hf] at h
        exact ih x h

set_option maxRecDepth 1000000 in
set_option maxHeartbeats 2000000 in
theorem l5First_any (B : Nat) (a : Option Addr) (n c : Nat) (f : Bool) (xs : List Txt) (w : World) (hB : B ≤ w.heap.size) (h : Wds B w a n c xs) (hn : n ≤ 40) (hw : ∀ x ∈ xs, IsW x) :
    Calls Try.prog 57 #[.slice a n c, .bool f] w fun e w' => ∃ a' c', e = .returned (.slice a' (frst xs f n).length c') ∧ Wds w'.heap.size w' a' (frst xs f n).length c' (frst xs f n) ∧ Below w.heap.size w w' := by
  have L := Lib.hid h.len
  have C := h.sl.cap
  have T := h.sl.top
  have H := Lib.hid h
  have HB := Lib.hid hB
  have HW := Lib.hid hw
  clear h hB hw
  obtain ⟨i0, hi, hz0, hz1, hz2⟩ := info_parts infoS
  have HO0 := Lib.hid (World.ownsRow_lit (base := w.heap.size) (e := 9) (size := 1) w #[] 0 (by simp) (by unfold maxLen; omega) rfl)
  go_enter Try.func57, Try.ntmps57
  go_wp2
  go_loopw [5, 6] (fun o i wr => ∃ (k : Nat) (v : Value) (rs : List Txt), k ≤ n ∧ i = .int .i64 k ∧ v = o ∧ rs.length ≤ k ∧ Hid (wr.ownsRow w.heap.size 9 1 v rs.length (rs.map (fun x => Value.string (bx x)))) ∧ Hid (rs = frst xs f k) ∧ Hid (Below w.heap.size w wr)) (fun _ i _ => n - (intOf i).toNat)
  case atStart => exact ⟨0, _, [], Nat.zero_le _, rfl, rfl, Nat.le_refl _, Lib.hid (by simpa using HO0.out), Lib.hid rfl, Lib.hid ((Below.refl _ _).alloc (Nat.le_refl _) _)⟩
  case round =>
    clear HO0
    obtain ⟨k, v, rs, hk, rfl, rfl, hrs, HO, HR, HBw⟩ := hrel
    by_cases hlt : k < n
    · obtain ⟨b, o, s, rfl, hbB, hs, hsz, hcw⟩ := H.out.elem k hlt
      have HS := Lib.hid hs
      have hbw : b < w.heap.size := by have := HB.out; omega
      have s12 : s.size ≤ 12 := by have := (HW.out _ (at_mem hs)).1; rwa [tx_len] at this
      have HBs := HBw.out.size
      clear hs
      go_wp2
      go_loopw [7, 8] (fun p i w2 => ∃ (j : Nat) (q : Bool), j ≤ n ∧ i = .int .i64 j ∧ p = .bool q ∧ Hid (q = true ↔ FstTo xs f k (tx s) j) ∧ Hid (Below wr.heap.size wr w2)) (fun _ i _ => n - (intOf i).toNat)
      case atStart => exact ⟨0, true, Nat.zero_le _, rfl, rfl, Lib.hid ⟨fun _ => FstTo.zero _ _ _ _, fun _ => rfl⟩, Lib.hid (Below.refl _ _)⟩
      case round =>
        rename World => wo
        obtain ⟨j, q, hj, rfl, rfl, HQ, HBi⟩ := hrel
        by_cases hlj : j < n
        · by_cases hjk : j = k
          · subst hjk
            have HQn := Lib.hid (FstTo.self HQ.out)
            have hne : ((j : Int) != (j : Int)) = false := by simp
            go_wp2
            go_quiet (fail)
            go_wp2
            go_roundw
            case rel => exact ⟨j + 1, q, by omega, by go_num, rfl, HQn, Lib.hid (by have h5 := HBi.out; exact ⟨h5.os, h5.tape, h5.output, h5.size, h5.block⟩)⟩
            case measure => simp [intOf]; omega
          · obtain ⟨b', o', s', e', hbB', hs', hsz', hcw'⟩ := H.out.elem j hlj
            simp only [Option.some.injEq, Addr.mk.injEq] at e'
            obtain ⟨rfl, rfl, _⟩ := e'
            have HS' := Lib.hid hs'
            have s12' : s'.size ≤ 12 := by have := (HW.out _ (at_mem hs')).1; rwa [tx_len] at this
            have hne : ((j : Int) != (k : Int)) = true := by simp; omega
            have hB2 := HBw.out.trans (HBi.out.mono HBs)
            have hc1 : wo.cell? ⟨b, o + k, none⟩ = some (.string s) := (hB2.cell (p := ⟨b, o + k, none⟩) hbw).trans hcw
            have hc2 : wo.cell? ⟨b, o + j, none⟩ = some (.string s') := (hB2.cell (p := ⟨b, o + j, none⟩) hbw).trans hcw'
            have hi0 : (0 : Int) ≤ (k : Int) := by omega
            have hi1 : (k : Int) < (n : Int) := by omega
            have hj0 : (0 : Int) ≤ (j : Int) := by omega
            have hj1 : (j : Int) < (n : Int) := by omega
            clear hs' hB2
            cases f with
            | true =>
              by_cases hp : tx s' <+: tx s
              · have cB := Lib.hid (fun W => (l2Begins_any s s' true ⟨fun _ => hp, fun _ => rfl⟩ W (by omega) (by omega)).mono (fun e w' h => (⟨h.1, h.2.symm⟩ : e = _ ∧ w' = W)))
                have HQn := Lib.hid (FstTo.bad (f := true) hjk HS'.out (by simpa using hp))
                clear hp
                go_wp2
                go_quiet ((go_at_call 87; exact Calls.quiet_of_same (cB.out _)))
                go_wp2
                go_roundw
                case rel => exact ⟨j + 1, false, by omega, by go_num, rfl, HQn, Lib.hid (by have h5 := HBi.out; exact ⟨h5.os, h5.tape, h5.output, h5.size, h5.block⟩)⟩
                case measure => simp [intOf]; omega
              · have cB := Lib.hid (fun W => (l2Begins_any s s' false ⟨fun h => (by cases h), fun h => absurd h hp⟩ W (by omega) (by omega)).mono (fun e w' h => (⟨h.1, h.2.symm⟩ : e = _ ∧ w' = W)))
                have HQn := Lib.hid (FstTo.good (f := true) HQ.out HS'.out (by simpa using hp))
                clear hp
                go_wp2
                go_quiet ((go_at_call 87; exact Calls.quiet_of_same (cB.out _)))
                go_wp2
                go_roundw
                case rel => exact ⟨j + 1, q, by omega, by go_num, rfl, HQn, Lib.hid (by have h5 := HBi.out; exact ⟨h5.os, h5.tape, h5.output, h5.size, h5.block⟩)⟩
                case measure => simp [intOf]; omega
            | false =>
              by_cases hp : tx s <+: tx s'
              · have cB := Lib.hid (fun W => (l2Begins_any s' s true ⟨fun _ => hp, fun _ => rfl⟩ W (by omega) (by omega)).mono (fun e w' h => (⟨h.1, h.2.symm⟩ : e = _ ∧ w' = W)))
                have HQn := Lib.hid (FstTo.bad (f := false) hjk HS'.out (by simpa using hp))
                clear hp
                go_wp2
                go_quiet ((go_at_call 87; exact Calls.quiet_of_same (cB.out _)))
                go_wp2
                go_roundw
                case rel => exact ⟨j + 1, false, by omega, by go_num, rfl, HQn, Lib.hid (by have h5 := HBi.out; exact ⟨h5.os, h5.tape, h5.output, h5.size, h5.block⟩)⟩
                case measure => simp [intOf]; omega
              · have cB := Lib.hid (fun W => (l2Begins_any s' s false ⟨fun h => (by cases h), fun h => absurd h hp⟩ W (by omega) (by omega)).mono (fun e w' h => (⟨h.1, h.2.symm⟩ : e = _ ∧ w' = W)))
                have HQn := Lib.hid (FstTo.good (f := false) HQ.out HS'.out (by simpa using hp))
                clear hp
                go_wp2
                go_quiet ((go_at_call 87; exact Calls.quiet_of_same (cB.out _)))
                go_wp2
                go_roundw
                case rel => exact ⟨j + 1, q, by omega, by go_num, rfl, HQn, Lib.hid (by have h5 := HBi.out; exact ⟨h5.os, h5.tape, h5.output, h5.size, h5.block⟩)⟩
                case measure => simp [intOf]; omega
        · have e : j = n := by omega
          have HQ2 : Hid (q = true ↔ Fst xs f k (tx s)) := Lib.hid (FstTo.all (by rw [e] at HQ; exact HQ.out) L.out.symm)
          have hB2 := HBw.out.trans (HBi.out.mono HBs)
          have hc1 : wo.cell? ⟨b, o + k, none⟩ = some (.string s) := (hB2.cell (p := ⟨b, o + k, none⟩) hbw).trans hcw
          have HB2 := Lib.hid hB2
          have HO1 := Lib.hid (own_stay HO.out HBi.out)
          have hz1s := hB2.size
          clear hB2
          cases q with
          | false =>
            have HR2 : Hid (rs = frst xs f (k + 1)) := Lib.hid (by rw [frst_miss HS.out (fun h => by have := HQ2.out.2 h; cases this)]; exact HR.out)
            go_wp2
            go_roundw
            case rel => exact ⟨k + 1, v, rs, by omega, by go_num, rfl, by omega, HO1, HR2, HB2⟩
            case measure => simp [intOf]; omega
          | true =>
            have HR2 : Hid (rs ++ [tx s] = frst xs f (k + 1)) := Lib.hid (by rw [frst_hit HS.out (HQ2.out.1 rfl), HR.out])
            have hi0 : (0 : Int) ≤ (k : Int) := by omega
            have hi1 : (k : Int) < (n : Int) := by omega
            go_wp2_with (first
              | (at_builtin; refine wpList_append_sl rfl _ _ 26 rfl w.heap.size 9 i0 (.string ByteArray.empty) 16 Try.underlying26 hi hz0 hz1 hz2 rfl _ _ _ rfl (HO1.out.alloc _) rfl (sl_new _ _ _) (by simp [Value.oneCell']) (by unfold maxLen; omega) (by omega) (by simp; omega) ?_; intro v2 w2 hO2 hG2))
            have HB3 : Below w.heap.size w w2 := HB2.out.trans (((Below.refl _ wo).alloc (by omega) _).trans (below_grown (HO1.out.alloc _) (by omega) (by simp; omega) hG2))
            go_roundw
            case rel => exact ⟨k + 1, v2, rs ++ [tx s], by omega, by go_num, rfl, by simp; omega, Lib.hid (by simpa [bx_tx] using hO2), HR2, Lib.hid HB3⟩
            case measure => simp [intOf]; omega
    · have e : k = n := by omega
      have HS2 : Hid (∀ x ∈ rs, x ∈ xs) := Lib.hid (by rw [HR.out]; exact frst_sub xs f k)
      have HW1 := Lib.hid (own_wds HO.out (fun x hx => by have := (HW.out x (HS2.out x hx)).1; omega))
      have HR2 : Hid (rs = frst xs f n) := Lib.hid (by rw [← e]; exact HR.out)
      clear e
      go_wp2
      go_ret
      obtain ⟨a1, c1, rfl, hW⟩ := HW1.out
      have h9 := HR2.out
      clear HR2 HS2 HR
      subst h9
      exact ⟨_, _, rfl, hW, HBw.out⟩

end Go.Proofs.Ytpneflbnipefaab
