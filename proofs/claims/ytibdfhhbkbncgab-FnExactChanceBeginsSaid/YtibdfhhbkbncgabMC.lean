import Derived.Test.YtibdfhhbkbncgabFreeM
import Derived.Test.YtibdfhhbkbncgabWordsN
import Derived.Deep.QuietTactic
import Derived.BigQuiet
import Derived.Test.YtibdfhhbkbncgabMB
import Derived.Test.YtibdfhhbkbncgabDrawn
import Derived.Test.YtibdfhhbkbncgabMA

/-
  The words of a list that begin with none of its others, or with which none of the others begins.
-/
namespace Go.Proofs.Ytibdfhhbkbncgab
set_option linter.unusedVariables false

/-- a text stands to none of the others -/
def Fst (xs : List Txt) (f : Bool) (k : Nat) (x : Txt) : Prop := ∀ (j : Nat) (y : Txt), j ≠ k → xs[j]? = some y → ¬ (if f = true then y <+: x else x <+: y)

open Classical in
noncomputable def frst (xs : List Txt) (f : Bool) : Nat → List Txt
  | 0 => []
  | k + 1 => frst xs f k ++ (match xs[k]? with
    | some x => if Fst xs f k x then [x] else []
    | none => [])

theorem frst_hit {xs : List Txt} {f : Bool} {k : Nat} {x : Txt} (h : xs[k]? = some x) (hf : Fst xs f k x) : frst xs f (k + 1) = frst xs f k ++ [x] := by
  simp [frst, h, hf]
theorem frst_miss {xs : List Txt} {f : Bool} {k : Nat} {x : Txt} (h : xs[k]? = some x) (hf : ¬ Fst xs f k x) : frst xs f (k + 1) = frst xs f k := by
  simp [frst, h, hf]

theorem frst_len (xs : List Txt) (f : Bool) : ∀ k, k ≤ xs.length → (frst xs f k).length ≤ k ∧ ((frst xs f k).length = k ↔ ∀ (j : Nat) (x : Txt), j < k → xs[j]? = some x → Fst xs f j x)
  | 0, _ => by simp [frst]
  | k + 1, hk => by
    have ih := frst_len xs f k (by omega)
    obtain ⟨x, hx⟩ : ∃ x, xs[k]? = some x := ⟨_, List.getElem?_eq_getElem (by omega)⟩
    by_cases hf : Fst xs f k x
    · rw [frst_hit hx hf, List.length_append]
      refine ⟨by simp; omega, fun h j z hj hz => ?_, fun h => ?_⟩
      · by_cases c : j = k
        · subst c
          rw [hx] at hz
          obtain rfl := Option.some.inj hz
          exact hf
        · exact ih.2.1 (by simp at h; omega) j z (by omega) hz
      · have := ih.2.2 (fun j z hj hz => h j z (by omega) hz)
        simp
        omega
    · rw [frst_miss hx hf]
      exact ⟨by omega, fun h => by omega, fun h => absurd (h k x (by omega) hx) hf⟩

/-- all words of a trie are first ones where each stands alone -/
theorem free_iff {t : List Nd} {ps : List Txt} (hv : Valid t ps) : (frst (wds t ps) true (wds t ps).length).length = (wds t ps).length ↔ ∀ y : EW t ps, Aln y := by
  rw [(frst_len (wds t ps) true _ (Nat.le_refl _)).2]
  constructor
  · intro h y m z hz hp
    by_cases c : m = y.i
    · exact c
    · exfalso
      have hasc := hv.tells.asc
      have hne : y.x ≠ z := fun e => c (asc_inj hasc (e ▸ hz) y.at')
      have him := asc_pos hasc y.at' hz (bef_pre hp hne)
      obtain ⟨j, u, d, hu, hd, he, hpu⟩ := hv.word m z (by omega) hz
      obtain ⟨dy, hdy, hey⟩ := y.en
      obtain ⟨k, hk⟩ := List.getElem?_of_mem (mem_wds.2 ⟨j, d, hd, hu, he⟩)
      obtain ⟨q, hq⟩ := List.getElem?_of_mem (mem_wds.2 ⟨y.i, dy, hdy, y.at', hey⟩)
      have hkl := (List.getElem?_eq_some_iff.1 hk).1
      by_cases e : q = k
      · subst e
        rw [hk] at hq
        obtain rfl := Option.some.inj hq
        exact hne (hp.eq_of_length (Nat.le_antisymm hp.length_le hpu.length_le))
      · exact h k u hkl hk q y.x e hq (by simp; exact hp.trans hpu)
  · intro h k x hk hx j y hj hy hp
    simp at hp
    obtain ⟨i1, d1, hd1, h1, he1⟩ := mem_wds.1 (at_mem hx)
    obtain ⟨i2, d2, hd2, h2, he2⟩ := mem_wds.1 (at_mem hy)
    have hi := h ⟨i2, y, h2, d2, hd2, he2⟩ i1 x h1 hp
    simp at hi
    subst hi
    rw [h1] at h2
    obtain rfl := Option.some.inj h2
    exact hj (asc_inj hv.wordsAsc hy hx)

end Go.Proofs.Ytibdfhhbkbncgab

namespace Go.Proofs.Ytibdfhhbkbncgab
set_option linter.unusedVariables false

open Classical in
/-- no other node is under this one -/
noncomputable def lastP (ps : List Txt) (q : Nat × Txt) : Bool := decide (∀ (m : Nat) (z : Txt), ps[m]? = some z → q.2 <+: z → m = q.1)

theorem lastP_iff {ps : List Txt} {q : Nat × Txt} : lastP ps q = true ↔ ∀ (m : Nat) (z : Txt), ps[m]? = some z → q.2 <+: z → m = q.1 := by simp [lastP]

theorem pls_pre (t : List Nd) (ps : List Txt) (k : Nat) : ∀ m, k ≤ m → ∃ r, pls t ps m = pls t ps k ++ r
  | 0, h => ⟨[], by obtain rfl : k = 0 := by omega
                    simp⟩
  | m + 1, h => by
    by_cases e : k = m + 1
    · subst e; exact ⟨[], by simp⟩
    · obtain ⟨r, hr⟩ := pls_pre t ps k m (by omega)
      exact ⟨r ++ _, by rw [pls, hr, List.append_assoc]⟩

theorem fst_last {t : List Nd} {ps : List Txt} (hv : Valid t ps) {k j : Nat} {d : Nd} {x : Txt} (hd : t[k]? = some d) (hx : ps[k]? = some x) (he : d.e = true) (hj : (wds t ps)[j]? = some x) :
    Fst (wds t ps) false j x ↔ lastP ps (k, x) = true := by
  rw [lastP_iff]
  constructor
  · intro h m z hz hp
    by_cases c : m = k
    · exact c
    · exfalso
      have hasc := hv.tells.asc
      have hne : x ≠ z := fun e => c (asc_inj hasc (e ▸ hz) hx)
      have him := asc_pos hasc hx hz (bef_pre hp hne)
      obtain ⟨i, u, d2, hu, hd2, he2, hpu⟩ := hv.word m z (by omega) hz
      obtain ⟨q, hq⟩ := List.getElem?_of_mem (mem_wds.2 ⟨i, d2, hd2, hu, he2⟩)
      by_cases e : q = j
      · subst e
        rw [hj] at hq
        obtain rfl := Option.some.inj hq
        exact hne (hp.eq_of_length (Nat.le_antisymm hp.length_le hpu.length_le))
      · exact h q u e hq (by simp; exact hp.trans hpu)
  · intro h i y hi hy hp
    simp at hp
    obtain ⟨i2, d2, hd2, h2, he2⟩ := mem_wds.1 (at_mem hy)
    have h3 := h i2 y h2 hp
    simp at h3
    subst h3
    rw [hx] at h2
    obtain rfl := Option.some.inj h2
    exact hi (asc_inj hv.wordsAsc hy hj)

theorem frst_pls {t : List Nd} {ps : List Txt} (hv : Valid t ps) : ∀ k, k ≤ t.length → frst (wds t ps) false (pls t ps k).length = ((pls t ps k).filter (lastP ps)).map Prod.snd
  | 0, _ => by simp [pls, frst]
  | k + 1, hk => by
    have ih := frst_pls hv k (by omega)
    obtain ⟨d, hd⟩ : ∃ d, t[k]? = some d := ⟨_, List.getElem?_eq_getElem (by omega)⟩
    obtain ⟨x, hx⟩ : ∃ x, ps[k]? = some x := ⟨_, List.getElem?_eq_getElem (by have := hv.lenEq; omega)⟩
    cases he : d.e with
    | false => rw [pls_miss hd hx he, ih]
    | true =>
      have hhit := pls_hit hd hx he
      have hj : (wds t ps)[(pls t ps k).length]? = some x := by
        obtain ⟨r, hr⟩ := pls_pre t ps (k + 1) t.length hk
        rw [← pls_all hv, hr, hhit, List.append_assoc, List.map_append, List.getElem?_append_right (by simp)]
        simp
      rw [hhit, List.length_append, List.filter_append, List.map_append, ← ih]
      by_cases hf : Fst (wds t ps) false (pls t ps k).length x
      · have h9 := (fst_last hv hd hx he hj).1 hf
        rw [show (pls t ps k).length + [(k, x)].length = (pls t ps k).length + 1 from rfl, frst_hit hj hf]
        simp [h9]
      · have h9 : lastP ps (k, x) = false := by
          cases h8 : lastP ps (k, x) with
          | false => rfl
          | true => exact absurd ((fst_last hv hd hx he hj).2 h8) hf
        rw [show (pls t ps k).length + [(k, x)].length = (pls t ps k).length + 1 from rfl, frst_miss hj hf]
        simp [h9]

theorem frst_last {t : List Nd} {ps : List Txt} (hv : Valid t ps) : frst (wds t ps) false (wds t ps).length = ((pls t ps t.length).filter (lastP ps)).map Prod.snd := by
  rw [← frst_pls hv t.length (Nat.le_refl _)]
  congr 1
  rw [← pls_all hv, List.length_map]

/-- what a word's closure asks -/
theorem lastP_aln {t : List Nd} {ps : List Txt} (y : EW t ps) : lastP ps y.val = true ↔ Aln y := lastP_iff

theorem frst_sub (xs : List Txt) (f : Bool) : ∀ k, ∀ x ∈ frst xs f k, x ∈ xs
  | 0, x, h => by simp [frst] at h
  | k + 1, x, h => by
    have ih := frst_sub xs f k
    cases hx : xs[k]? with
    | none => simp [frst, hx] at h; exact ih x h
    | some y =>
      by_cases hf : Fst xs f k y
      · rw [frst_hit hx hf] at h
        rcases List.mem_append.1 h with h | h
        · exact ih x h
        · rw [List.mem_singleton] at h
          rw [h]
          exact at_mem hx
      · rw [frst_miss hx hf] at h
        exact ih x h

end Go.Proofs.Ytibdfhhbkbncgab

/-
  Whether a text begins with another: the reference's test.
-/
namespace Go.Proofs.Ytibdfhhbkbncgab
open Go.RowKit
set_option linter.unusedVariables false

theorem l2Begins_any (s p : ByteArray) (r : Bool) (hr : r = true ↔ tx p <+: tx s) (w : World) (hs : s.size ≤ 100) (hp : p.size ≤ 100) :
    Calls Try.prog 76 #[.string s, .string p] w fun e w' => e = .returned (.bool r) ∧ w = w' := by
  by_cases hl : p.size ≤ s.size
  · have HX : Hid (((s.extract 0 p.size).toList == p.toList) = r) := Lib.hid (by
      rw [str_eq_list, Bool.eq_iff_iff, decide_eq_true_eq, hr, List.prefix_iff_eq_take]
      constructor
      · intro h
        have := congrArg tx h
        rw [tx_extract] at this
        rw [tx_len]; exact this.symm
      · intro h
        apply tx_inj
        rw [tx_extract, ← tx_len p]; exact h.symm)
    clear hr
    go_enter Try.func76, Try.ntmps76
    go_wp2
    go_ret
    exact ⟨ret_bool HX.out, rfl⟩
  · have HX : Hid (r = false) := Lib.hid (by
      cases r with
      | false => rfl
      | true =>
        have := (hr.1 rfl).length_le
        rw [tx_len, tx_len] at this
        omega)
    clear hr
    go_enter Try.func76, Try.ntmps76
    go_wp2
    go_ret
    exact ⟨ret_bool HX.out.symm, rfl⟩

end Go.Proofs.Ytibdfhhbkbncgab

/-
  The reference's first words and last words.
-/
namespace Go.Proofs.Ytibdfhhbkbncgab
open Go.RowKit
set_option linter.unusedVariables false

def FstTo (xs : List Txt) (f : Bool) (k : Nat) (x : Txt) (j : Nat) : Prop := ∀ (i : Nat) (y : Txt), i < j → i ≠ k → xs[i]? = some y → ¬ (if f = true then y <+: x else x <+: y)
theorem FstTo.zero (xs : List Txt) (f : Bool) (k : Nat) (x : Txt) : FstTo xs f k x 0 := fun i y h => by omega
theorem FstTo.self {xs : List Txt} {f : Bool} {k : Nat} {x : Txt} {q : Bool} (h : q = true ↔ FstTo xs f k x k) : q = true ↔ FstTo xs f k x (k + 1) :=
  h.trans ⟨fun a i y h1 h2 => a i y (by omega) h2, fun a i y h1 h2 => a i y (by omega) h2⟩
theorem FstTo.good {xs : List Txt} {f : Bool} {k j : Nat} {x y : Txt} {q : Bool} (h : q = true ↔ FstTo xs f k x j) (hy : xs[j]? = some y) (hn : ¬ (if f = true then y <+: x else x <+: y)) : q = true ↔ FstTo xs f k x (j + 1) :=
  h.trans ⟨fun a i z h1 h2 h3 => by
    by_cases c : i = j
    · subst c
      rw [hy] at h3
      obtain rfl := Option.some.inj h3
      exact hn
    · exact a i z (by omega) h2 h3, fun a i z h1 h2 => a i z (by omega) h2⟩
theorem FstTo.bad {xs : List Txt} {f : Bool} {k j : Nat} {x y : Txt} (hjk : j ≠ k) (hy : xs[j]? = some y) (hn : if f = true then y <+: x else x <+: y) : false = true ↔ FstTo xs f k x (j + 1) :=
  ⟨fun h => (by cases h), fun a => absurd hn (a j y (by omega) hjk hy)⟩
theorem FstTo.all {xs : List Txt} {f : Bool} {k n : Nat} {x : Txt} {q : Bool} (h : q = true ↔ FstTo xs f k x n) (hn : n = xs.length) : q = true ↔ Fst xs f k x :=
  h.trans ⟨fun a i y h1 h2 => a i y (by rw [hn]; exact (List.getElem?_eq_some_iff.1 h2).1) h1 h2, fun a i y _ h1 h2 => a i y h1 h2⟩

set_option maxRecDepth 1000000 in
set_option maxHeartbeats 2000000 in
theorem l5First_any (B : Nat) (a : Option Addr) (n c : Nat) (f : Bool) (xs : List Txt) (w : World) (hB : B ≤ w.heap.size) (h : Wds B w a n c xs) (hn : n ≤ 40) (hw : ∀ x ∈ xs, IsW x) :
    Calls Try.prog 47 #[.slice a n c, .bool f] w fun e w' => ∃ a' c', e = .returned (.slice a' (frst xs f n).length c') ∧ Wds w'.heap.size w' a' (frst xs f n).length c' (frst xs f n) ∧ Below w.heap.size w w' := by
  have L := Lib.hid h.len
  have C := h.sl.cap
  have T := h.sl.top
  have H := Lib.hid h
  have HB := Lib.hid hB
  have HW := Lib.hid hw
  clear h hB hw
  obtain ⟨i0, hi, hz0, hz1, hz2⟩ := info_parts infoS
  have HO0 := Lib.hid (World.ownsRow_lit (base := w.heap.size) (e := 9) (size := 1) w #[] 0 (by simp) (by unfold maxLen; omega) rfl)
  go_enter Try.func47, Try.ntmps47
  go_wp2
  go_loopw [5, 6] (fun o i wr => ∃ (k : Nat) (v : Value) (rs : List Txt), k ≤ n ∧ i = .int .i64 k ∧ v = o ∧ rs.length ≤ k ∧ Hid (wr.ownsRow w.heap.size 9 1 v rs.length (rs.map (fun x => Value.string (bx x)))) ∧ Hid (rs = frst xs f k) ∧ Hid (Below w.heap.size w wr)) (fun _ i _ => n - (intOf i).toNat)
  case atStart => exact ⟨0, _, [], Nat.zero_le _, rfl, rfl, Nat.le_refl _, Lib.hid (by simpa using HO0.out), Lib.hid rfl, Lib.hid ((Below.refl _ _).alloc (Nat.le_refl _) _)⟩
  case round =>
    clear HO0
    obtain ⟨k, v, rs, hk, rfl, rfl, hrs, HO, HR, HBw⟩ := hrel
    by_cases hlt : k < n
    · obtain ⟨b, o, s, rfl, hbB, hs, hsz, hcw⟩ := H.out.elem k hlt
      have HS := Lib.hid hs
      have hbw : b < w.heap.size := by have := HB.out; omega
      have s12 : s.size ≤ 12 := by have := (HW.out _ (at_mem hs)).1; rwa [tx_len] at this
      have HBs := HBw.out.size
      clear hs
      go_wp2
      go_loopw [7, 8] (fun p i w2 => ∃ (j : Nat) (q : Bool), j ≤ n ∧ i = .int .i64 j ∧ p = .bool q ∧ Hid (q = true ↔ FstTo xs f k (tx s) j) ∧ Hid (Below wr.heap.size wr w2)) (fun _ i _ => n - (intOf i).toNat)
      case atStart => exact ⟨0, true, Nat.zero_le _, rfl, rfl, Lib.hid ⟨fun _ => FstTo.zero _ _ _ _, fun _ => rfl⟩, Lib.hid (Below.refl _ _)⟩
      case round =>
        rename World => wo
        obtain ⟨j, q, hj, rfl, rfl, HQ, HBi⟩ := hrel
        by_cases hlj : j < n
        · by_cases hjk : j = k
          · subst hjk
            have HQn := Lib.hid (FstTo.self HQ.out)
            have hne : ((j : Int) != (j : Int)) = false := by simp
            go_wp2
            go_quiet (fail)
            go_wp2
            go_roundw
            case rel => exact ⟨j + 1, q, by omega, by go_num, rfl, HQn, Lib.hid (by have h5 := HBi.out; exact ⟨h5.os, h5.tape, h5.output, h5.size, h5.block⟩)⟩
            case measure => simp [intOf]; omega
          · obtain ⟨b', o', s', e', hbB', hs', hsz', hcw'⟩ := H.out.elem j hlj
            simp only [Option.some.injEq, Addr.mk.injEq] at e'
            obtain ⟨rfl, rfl, _⟩ := e'
            have HS' := Lib.hid hs'
            have s12' : s'.size ≤ 12 := by have := (HW.out _ (at_mem hs')).1; rwa [tx_len] at this
            have hne : ((j : Int) != (k : Int)) = true := by simp; omega
            have hB2 := HBw.out.trans (HBi.out.mono HBs)
            have hc1 : wo.cell? ⟨b, o + k, none⟩ = some (.string s) := (hB2.cell (p := ⟨b, o + k, none⟩) hbw).trans hcw
            have hc2 : wo.cell? ⟨b, o + j, none⟩ = some (.string s') := (hB2.cell (p := ⟨b, o + j, none⟩) hbw).trans hcw'
            have hi0 : (0 : Int) ≤ (k : Int) := by omega
            have hi1 : (k : Int) < (n : Int) := by omega
            have hj0 : (0 : Int) ≤ (j : Int) := by omega
            have hj1 : (j : Int) < (n : Int) := by omega
            clear hs' hB2
            cases f with
            | true =>
              by_cases hp : tx s' <+: tx s
              · have cB := Lib.hid (fun W => (l2Begins_any s s' true ⟨fun _ => hp, fun _ => rfl⟩ W (by omega) (by omega)).mono (fun e w' h => (⟨h.1, h.2.symm⟩ : e = _ ∧ w' = W)))
                have HQn := Lib.hid (FstTo.bad (f := true) hjk HS'.out (by simpa using hp))
                clear hp
                go_wp2
                go_quiet ((go_at_call 76; exact Calls.quiet_of_same (cB.out _)))
                go_wp2
                go_roundw
                case rel => exact ⟨j + 1, false, by omega, by go_num, rfl, HQn, Lib.hid (by have h5 := HBi.out; exact ⟨h5.os, h5.tape, h5.output, h5.size, h5.block⟩)⟩
                case measure => simp [intOf]; omega
              · have cB := Lib.hid (fun W => (l2Begins_any s s' false ⟨fun h => (by cases h), fun h => absurd h hp⟩ W (by omega) (by omega)).mono (fun e w' h => (⟨h.1, h.2.symm⟩ : e = _ ∧ w' = W)))
                have HQn := Lib.hid (FstTo.good (f := true) HQ.out HS'.out (by simpa using hp))
                clear hp
                go_wp2
                go_quiet ((go_at_call 76; exact Calls.quiet_of_same (cB.out _)))
                go_wp2
                go_roundw
                case rel => exact ⟨j + 1, q, by omega, by go_num, rfl, HQn, Lib.hid (by have h5 := HBi.out; exact ⟨h5.os, h5.tape, h5.output, h5.size, h5.block⟩)⟩
                case measure => simp [intOf]; omega
            | false =>
              by_cases hp : tx s <+: tx s'
              · have cB := Lib.hid (fun W => (l2Begins_any s' s true ⟨fun _ => hp, fun _ => rfl⟩ W (by omega) (by omega)).mono (fun e w' h => (⟨h.1, h.2.symm⟩ : e = _ ∧ w' = W)))
                have HQn := Lib.hid (FstTo.bad (f := false) hjk HS'.out (by simpa using hp))
                clear hp
                go_wp2
                go_quiet ((go_at_call 76; exact Calls.quiet_of_same (cB.out _)))
                go_wp2
                go_roundw
                case rel => exact ⟨j + 1, false, by omega, by go_num, rfl, HQn, Lib.hid (by have h5 := HBi.out; exact ⟨h5.os, h5.tape, h5.output, h5.size, h5.block⟩)⟩
                case measure => simp [intOf]; omega
              · have cB := Lib.hid (fun W => (l2Begins_any s' s false ⟨fun h => (by cases h), fun h => absurd h hp⟩ W (by omega) (by omega)).mono (fun e w' h => (⟨h.1, h.2.symm⟩ : e = _ ∧ w' = W)))
                have HQn := Lib.hid (FstTo.good (f := false) HQ.out HS'.out (by simpa using hp))
                clear hp
                go_wp2
                go_quiet ((go_at_call 76; exact Calls.quiet_of_same (cB.out _)))
                go_wp2
                go_roundw
                case rel => exact ⟨j + 1, q, by omega, by go_num, rfl, HQn, Lib.hid (by have h5 := HBi.out; exact ⟨h5.os, h5.tape, h5.output, h5.size, h5.block⟩)⟩
                case measure => simp [intOf]; omega
        · have e : j = n := by omega
          have HQ2 : Hid (q = true ↔ Fst xs f k (tx s)) := Lib.hid (FstTo.all (by rw [e] at HQ; exact HQ.out) L.out.symm)
          have hB2 := HBw.out.trans (HBi.out.mono HBs)
          have hc1 : wo.cell? ⟨b, o + k, none⟩ = some (.string s) := (hB2.cell (p := ⟨b, o + k, none⟩) hbw).trans hcw
          have HB2 := Lib.hid hB2
          have HO1 := Lib.hid (own_stay HO.out HBi.out)
          have hz1s := hB2.size
          clear hB2
          cases q with
          | false =>
            have HR2 : Hid (rs = frst xs f (k + 1)) := Lib.hid (by rw [frst_miss HS.out (fun h => by have := HQ2.out.2 h; cases this)]; exact HR.out)
            go_wp2
            go_roundw
            case rel => exact ⟨k + 1, v, rs, by omega, by go_num, rfl, by omega, HO1, HR2, HB2⟩
            case measure => simp [intOf]; omega
          | true =>
            have HR2 : Hid (rs ++ [tx s] = frst xs f (k + 1)) := Lib.hid (by rw [frst_hit HS.out (HQ2.out.1 rfl), HR.out])
            have hi0 : (0 : Int) ≤ (k : Int) := by omega
            have hi1 : (k : Int) < (n : Int) := by omega
            go_wp2_with (first
              | (at_builtin; refine wpList_append_sl rfl _ _ 47 rfl w.heap.size 9 i0 (.string ByteArray.empty) 16 Try.underlying47 hi hz0 hz1 hz2 rfl _ _ _ rfl (HO1.out.alloc _) rfl (sl_new _ _ _) (by simp [Value.oneCell']) (by unfold maxLen; omega) (by omega) (by simp; omega) ?_; intro v2 w2 hO2 hG2))
            have HB3 : Below w.heap.size w w2 := HB2.out.trans (((Below.refl _ wo).alloc (by omega) _).trans (below_grown (HO1.out.alloc _) (by omega) (by simp; omega) hG2))
            go_roundw
            case rel => exact ⟨k + 1, v2, rs ++ [tx s], by omega, by go_num, rfl, by simp; omega, Lib.hid (by simpa [bx_tx] using hO2), HR2, Lib.hid HB3⟩
            case measure => simp [intOf]; omega
    · have e : k = n := by omega
      have HS2 : Hid (∀ x ∈ rs, x ∈ xs) := Lib.hid (by rw [HR.out]; exact frst_sub xs f k)
      have HW1 := Lib.hid (own_wds HO.out (fun x hx => by have := (HW.out x (HS2.out x hx)).1; omega))
      have HR2 : Hid (rs = frst xs f n) := Lib.hid (by rw [← e]; exact HR.out)
      clear e
      go_wp2
      go_ret
      obtain ⟨a1, c1, rfl, hW⟩ := HW1.out
      have h9 := HR2.out
      clear HR2 HS2 HR
      subst h9
      exact ⟨_, _, rfl, hW, HBw.out⟩

end Go.Proofs.Ytibdfhhbkbncgab

/-
  The words of a trie that begin with none of its others.
-/
namespace Go.Proofs.Ytibdfhhbkbncgab
set_option linter.unusedVariables false

theorem wordsW (t : List Nd) : ∀ x ∈ wordsOf t, IsW x := by
  by_cases ht : IsT t
  · obtain ⟨ps, hv⟩ := ht
    intro x hx
    rw [wordsOf_eq hv] at hx
    exact hv.wordsW x hx
  · intro x hx
    rw [wordsOf_no ht] at hx
    cases hx

noncomputable def listFirstWords (t : List Nd) : List Txt := frst (wordsOf t) true (wordsOf t).length

theorem listFirstWords_short {t : List Nd} : ∀ x ∈ listFirstWords t, x.length ≤ 9223372036854775807 := fun x hx => by
  have := wordsOf_short t x (frst_sub _ _ _ x hx)
  omega

end Go.Proofs.Ytibdfhhbkbncgab

/-
  The chance that a random text begins with a word: the reference.
-/
namespace Go.Proofs.Ytibdfhhbkbncgab
open Go.RowKit
set_option linter.unusedVariables false
set_option linter.unusedSimpArgs false

set_option maxRecDepth 1000000 in
set_option maxHeartbeats 2000000 in
theorem specBeg_no (t : List Nd) (n c : Nat) (k0 m0 : Int) (hn : n ≤ 1048576) (hr : ¬ (trieB t = true ∧ 1 ≤ k0 ∧ k0 ≤ 26 ∧ 0 ≤ m0 ∧ m0 ≤ 12)) (W : World) (a : Option Addr) (h : Nds W.heap.size W a n c t) :
    Calls Try.prog 20 #[.agg #[.slice a n c], .int .i64 k0, .int .i64 m0] W fun e w' => e = .returned (.tuple #[fv (0, 0), .bool false]) ∧ Below W.heap.size W w' := by
  have G0 := Lib.hid (Gf.start 26 h)
  have cT := Lib.hid (fun W' (G : Gf 26 1 W W' a n c t) => l2Trie_any W.heap.size a n c t W' (Nat.le_of_lt G.size) G.nds hn)
  have cR : Hid (trieB t = true → ∀ W', Calls Try.prog 40 #[.int .i64 k0, .int .i64 m0] W' fun e w' => e = .returned (.bool false) ∧ w' = W') := Lib.hid (fun ht W' => by
    have := l9Random_any k0 m0 W'
    rwa [decide_eq_false (fun h => hr ⟨ht, h⟩)] at this)
  obtain ⟨q, hq⟩ : ∃ q, trieB t = q := ⟨_, rfl⟩
  rw [hq] at cT cR
  have hbx := G0.out.box
  clear hq hr h
  go_enter Try.func20, Try.ntmps20
  go_wp2_with fail
  obtain ⟨W1, hW1⟩ : ∃ W1, (W.alloc (.cells #[.slice a n c] 31)).alloc (.cells #[.int .i64 0, .int .i64 0] 26) = W1 := ⟨_, rfl⟩
  rw [hW1] at G0 ⊢
  clear hW1 hbx
  refine (cT.out _ G0.out).mono ?_
  rintro e w2 ⟨rfl, hb2⟩
  have G2 := Lib.hid (G0.out.on hb2)
  have hbx := G2.out.box
  obtain ⟨f1, f2, f3, f4⟩ := G2.out.open
  clear hb2
  cases q with
  | false =>
    obtain ⟨hE, hB9⟩ := G2.out.end' (.int .i64 0) (.int .i64 0)
    have HE := Lib.hid hE
    have HB9 := Lib.hid hB9
    clear hE hB9
    go_wp2_with fail
    generalize ((w2.setCell ⟨W.heap.size + 1, 0, none⟩ (.int .i64 0)).setCell ⟨W.heap.size + 1, 1, none⟩ (.int .i64 0)) = W9 at *
    obtain ⟨hc0, hc1⟩ := HE.out
    exact bodyPost_ret (v := .tuple #[fv (0, 0), .bool false]) (by simp [results, Try.results20, go_sem, hc0, hc1, fv]) rfl ⟨rfl, HB9.out⟩
  | true =>
    go_wp2_with fail
    refine (cR.out (by trivial) _).mono ?_
    rintro e w3 ⟨rfl, rfl⟩
    obtain ⟨hE, hB9⟩ := G2.out.end' (.int .i64 0) (.int .i64 0)
    have HE := Lib.hid hE
    have HB9 := Lib.hid hB9
    clear hE hB9
    go_wp2_with fail
    generalize ((w3.setCell ⟨W.heap.size + 1, 0, none⟩ (.int .i64 0)).setCell ⟨W.heap.size + 1, 1, none⟩ (.int .i64 0)) = W9 at *
    obtain ⟨hc0, hc1⟩ := HE.out
    exact bodyPost_ret (v := .tuple #[fv (0, 0), .bool false]) (by simp [results, Try.results20, go_sem, hc0, hc1, fv]) rfl ⟨rfl, HB9.out⟩

set_option maxRecDepth 1000000 in
set_option maxHeartbeats 2000000 in
theorem specBeg_yes (t : List Nd) (ps : List Txt) (n c k m : Nat) (hn : n ≤ 1048576) (hv : Valid t ps) (hk1 : 1 ≤ k) (hk : k ≤ 26) (hm : m ≤ 12) (x : Nat × Nat) (hx : fra (tsum (begw k m) (listFirstWords t)) (k ^ m) = x) (W : World) (a : Option Addr) (h : Nds W.heap.size W a n c t) :
    Calls Try.prog 20 #[.agg #[.slice a n c], .int .i64 (k : Int), .int .i64 (m : Int)] W fun e w' => e = .returned (.tuple #[fv x, .bool true]) ∧ Below W.heap.size W w' := by
  have G0 := Lib.hid (Gf.start 26 h)
  have cT := Lib.hid (fun W' (G : Gf 26 1 W W' a n c t) => l2Trie_any W.heap.size a n c t W' (Nat.le_of_lt G.size) G.nds hn)
  rw [trieB_iff.2 ⟨ps, hv⟩] at cT
  have cR : Hid (∀ W', Calls Try.prog 40 #[.int .i64 (k : Int), .int .i64 (m : Int)] W' fun e w' => e = .returned (.bool true) ∧ w' = W') := Lib.hid (fun W' => by
    have := l9Random_any (k : Int) (m : Int) W'
    rwa [decide_eq_true (by omega)] at this)
  have cW := Lib.hid (fun W' (G : Gf 26 1 W W' a n c t) => drawnWords_own W.heap.size a n c t W' (Nat.le_of_lt G.size) G.nds hn ⟨ps, hv⟩)
  have hm40' := wordsOf_size t
  have HSh := Lib.hid (wordsOf_short t)
  have HIw := Lib.hid (wordsW t)
  have hlf : listFirstWords t = frst (wordsOf t) true (wordsOf t).length := rfl
  obtain ⟨w0, hw0⟩ : ∃ w0, wordsOf t = w0 := ⟨_, rfl⟩
  obtain ⟨q0, hq0⟩ : ∃ q0, w0.length = q0 := ⟨_, rfl⟩
  rw [hw0] at cW HSh HIw hm40' hlf
  rw [hq0] at cW hm40' hlf
  have HSub := Lib.hid (frst_sub w0 true q0)
  have hle := (frst_len w0 true q0 (by omega)).1
  have cFs := Lib.hid (fun (a' : Option Addr) (c' : Nat) (W' : World) (hW : Wds W'.heap.size W' a' q0 c' w0) => l5First_any W'.heap.size a' q0 c' true w0 W' (Nat.le_refl _) hW hm40' HIw.out)
  rw [hlf] at hx
  obtain ⟨ws, hws⟩ : ∃ ws, frst w0 true q0 = ws := ⟨_, rfl⟩
  obtain ⟨q, hq⟩ : ∃ q, ws.length = q := ⟨_, rfl⟩
  rw [hws] at cFs HSub hx hle
  rw [hq] at cFs hle
  have hm40 : q ≤ 40 := by omega
  have HSh : Hid (∀ x ∈ ws, x.length ≤ 12) := Lib.hid (fun x hx => HSh.out x (HSub.out x hx))
  have HLw : Hid (∀ x ∈ ws, Low x) := Lib.hid (fun x hx => (HIw.out x (HSub.out x hx)).2)
  have HM := Lib.hid hq
  have hK0 : 0 < k ^ m := Nat.pow_pos (by omega)
  have hKb := pow_bd (k := k) (j := m) hk hm
  have cPw := Lib.hid (fun W' => l9Power_any k m hk hm W')
  have cPj := Lib.hid (fun (j : Nat) (hj : j ≤ 12) W' => l9Power_any k j hk hj W')
  have HBj := Lib.hid (fun (j : Nat) (hj : j ≤ m) => (Nat.pow_le_pow_right hk1 hj : k ^ j ≤ k ^ m))
  have cF := Lib.hid (fun (s : ByteArray) (h1 : s.size ≤ 12) (h2 : Low (tx s)) W' => l9First_any k s hk h1 h2 W')
  obtain ⟨K, hKK⟩ : ∃ K, k ^ m = K := ⟨_, rfl⟩
  rw [hKK] at hK0 hKb cPw hx HBj
  obtain ⟨tot, htot⟩ : ∃ tot, tsum (begw k m) ws = tot := ⟨_, rfl⟩
  have HTot := Lib.hid htot
  have htl := tsum_le (begw k m) K (xs := ws) (fun x _ => by rw [← hKK]; exact begw_le hk1)
  have HTk : Hid (∀ j, tsum (begw k m) (ws.take j) ≤ tsum (begw k m) ws) := Lib.hid (fun j => by have := tsum_app (begw k m) (ws.take j) (ws.drop j); rw [List.take_append_drop] at this; omega)
  have hKq : K * q ≤ K * 40 := Nat.mul_le_mul_left _ hm40
  rw [htot] at hx htl HTk
  rw [hq] at htl
  have cC := Lib.hid (fun W' => l9Cut_any tot K W' (by omega) (by omega) hK0)
  obtain ⟨x1, x2⟩ := x
  rw [hx, fv_mk] at cC
  have hbx := G0.out.box
  clear hws hq hw0 hq0 hlf hKK htot hx h hv
  go_enter Try.func20, Try.ntmps20
  go_wp2_with fail
  obtain ⟨W1, hW1⟩ : ∃ W1, (W.alloc (.cells #[.slice a n c] 31)).alloc (.cells #[.int .i64 0, .int .i64 0] 26) = W1 := ⟨_, rfl⟩
  rw [hW1] at G0 ⊢
  clear hW1 hbx
  refine (cT.out _ G0.out).mono ?_
  rintro e w2 ⟨rfl, hb2⟩
  have G2 := Lib.hid (G0.out.on hb2)
  have hbx := G2.out.box
  clear hb2
  go_wp2_with fail
  refine (cR.out _).mono ?_
  rintro e w3 ⟨rfl, rfl⟩
  go_wp2_with fail
  refine (cW.out _ G2.out).mono ?_
  rintro e w3' ⟨a3, c3, rfl, hW3, hb3⟩
  have G3 := Lib.hid (G2.out.on hb3)
  have HW3 := Lib.hid hW3
  clear hb3 hbx hW3
  go_wp2_with fail
  refine (cFs.out _ _ _ HW3.out).mono ?_
  rintro e w4 ⟨a4, c4, rfl, hW4, hb4⟩
  have G4 := Lib.hid (G3.out.on hb4)
  have C4 := hW4.sl.cap
  have T4 := hW4.sl.top
  have HW4 := Lib.hid hW4
  clear hb4 hW4
  go_wp2_with fail
  go_loopw [8, 10] (fun s i wr => ∃ (j z : Nat), j ≤ q ∧ i = .int .i64 j ∧ s = .int .i64 z ∧ z ≤ tot ∧ Hid (tsum (begw k m) (ws.take j) = z) ∧ wr = w4) (fun _ i _ => q - (intOf i).toNat)
  case atStart => exact ⟨0, 0, Nat.zero_le _, rfl, rfl, by omega, Lib.hid rfl, rfl⟩
  case round =>
    obtain ⟨j, z, hj, rfl, rfl, hz, HZ, rfl⟩ := hrel
    by_cases hlj : j < q
    · obtain ⟨b, o, s, rfl, _, hs, _, hc⟩ := Wds.elem HW4.out j hlj
      have HS := Lib.hid (tsum_succ (begw k m) hs)
      have hmem := at_mem hs
      have hs12 : s.size ≤ 12 := by have := HSh.out _ hmem; rwa [tx_len] at this
      have cF1 := Lib.hid (cF.out s hs12 (HLw.out _ hmem))
      have hj0 : (0 : Int) ≤ (j : Int) := by omega
      have hj1 : (j : Int) < (q : Int) := by omega
      have hz2 := HTk.out (j + 1)
      rw [HS.out, HZ.out] at hz2
      clear hs hmem
      by_cases hl : s.size ≤ m
      · have hbl2 : decide ((s.size : Int) ≤ (m : Int)) = true := decide_eq_true (by omega)
        have hbl3 : (s.size : Int) ≤ (m : Int) := by omega
        have HHt : Hid (begw k m (tx s) = if fst9 k (tx s) = true then k ^ (m - s.size) else 0) := Lib.hid (by unfold begw addw; rw [tx_len, if_pos hl])
        obtain ⟨f, hf⟩ : ∃ f, fst9 k (tx s) = f := ⟨_, rfl⟩
        rw [hf] at cF1 HHt
        have cP1 := cPj.out (m - s.size) (by omega)
        have hpj := HBj.out (m - s.size) (by omega)
        have hms : ((m - s.size : Nat) : Int) = (m : Int) - (s.size : Int) := by omega
        rw [hms] at cP1
        obtain ⟨pj, hpj2⟩ : ∃ pj, k ^ (m - s.size) = pj := ⟨_, rfl⟩
        rw [hpj2] at cP1 hpj HHt
        have CP1 := Lib.hid cP1
        clear hf cP1 hpj2 hms
        go_wp2_with fail
        refine (cF1.out _).mono ?_
        rintro e w5 ⟨rfl, rfl⟩
        cases f with
        | false =>
          go_wp2_with fail
          go_roundw
          case rel => exact ⟨j + 1, z, by omega, by go_num, rfl, by omega, Lib.hid (by rw [HS.out, HHt.out, HZ.out]; simp), by trivial⟩
          case measure => simp [intOf]; omega
        | true =>
          rw [HHt.out] at hz2
          have hz3 : z + pj ≤ tot := by simpa using hz2
          have hwr : IntKind.i64.wrap ((z : Int) + (pj : Int)) = (z : Int) + (pj : Int) := by rw [IntKind.wrap_i64]; omega
          go_wp2_with fail
          refine (CP1.out _).mono ?_
          rintro e w6 ⟨rfl, rfl⟩
          go_wp2_with fail
          go_roundw
          case rel => exact ⟨j + 1, z + pj, by omega, by go_num, by go_num, by omega, Lib.hid (by rw [HS.out, HHt.out, HZ.out]; simp), by trivial⟩
          case measure => simp [intOf]; omega
      · have hbl2 : decide ((s.size : Int) ≤ (m : Int)) = false := decide_eq_false (by omega)
        have hbl3 : ¬ (s.size : Int) ≤ (m : Int) := by omega
        have HHt : Hid (begw k m (tx s) = 0) := Lib.hid (by unfold begw; rw [tx_len, if_neg hl])
        go_wp2_with fail
        go_roundw
        case rel => exact ⟨j + 1, z, by omega, by go_num, rfl, by omega, Lib.hid (by rw [HS.out, HHt.out, HZ.out]; rfl), by trivial⟩
        case measure => simp [intOf]; omega
    · have HF : Hid ((z : Int) = (tot : Int)) := Lib.hid (by rw [← HZ.out, List.take_of_length_le (by rw [HM.out]; omega), HTot.out])
      go_wp2_with fail
      refine (cPw.out _).mono ?_
      rintro e w6 ⟨rfl, rfl⟩
      go_wp2_with fail
      rw [HF.out]
      refine (cC.out _).mono ?_
      rintro e w7 ⟨rfl, hb7⟩
      have G7 := Lib.hid (G4.out.on hb7)
      clear hb7
      obtain ⟨f1, f2, f3, f4⟩ := G7.out.open
      obtain ⟨hE, hB9⟩ := G7.out.end' (.int .i64 (x1 : Int)) (.int .i64 (x2 : Int))
      have HE := Lib.hid hE
      have HB9 := Lib.hid hB9
      clear hE hB9
      go_wp2_with fail
      generalize ((w7.setCell ⟨W.heap.size + 1, 0, none⟩ (.int .i64 (x1 : Int))).setCell ⟨W.heap.size + 1, 1, none⟩ (.int .i64 (x2 : Int))) = W9 at *
      obtain ⟨hc0, hc1⟩ := HE.out
      exact bodyPost_ret (v := .tuple #[fv (x1, x2), .bool true]) (by simp [results, Try.results20, go_sem, hc0, hc1, fv]) rfl ⟨rfl, HB9.out⟩

end Go.Proofs.Ytibdfhhbkbncgab
