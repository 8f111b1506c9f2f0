/-
  The reference's text of a branch, for branches that may be of any form.
-/
import Derived.Test.YtoofpgehkihbcaaBrs
import Derived.Test.YtoofpgehkihbcaaPrT
import Derived.Test.YtoofpgehkihbcaaWord
namespace Go.Proofs.Ytoofpgehkihbcaa
open Go.RowKit
set_option linter.unusedVariables false

/-- the branches tell these texts, as those of a pressed tree do -/
def TellsB (p : List Br) (qs : List Txt) : Prop := ToldB p p.length qs ∧ (∀ (i : Nat) (d : Br), 1 ≤ i → p[i]? = some d → d.l ≠ []) ∧ ∀ x ∈ qs, x.length ≤ 12

theorem tellsB_prw {ws : List Txt} (hw : ∀ w ∈ ws, IsW w) : TellsB (prw ws) (stl ws) := by
  refine ⟨told_prs hw, fun i d hi hd => ?_, fun x hx => (stl_isW hw x hx).1⟩
  have hs := stl_sta ws
  have hl : i < (stl ws).length := by rw [← prw_len]; exact (List.getElem?_eq_some_iff.1 hd).1
  obtain ⟨y, hy⟩ : ∃ y, (stl ws)[i]? = some y := ⟨_, List.getElem?_eq_getElem hl⟩
  have hd2 : (prw ws)[i]? = some (brOf (stl ws) (fun x => decide (x ∈ ws)) y) := brs_at hy
  rw [hd] at hd2
  obtain rfl := Option.some.inj hd2
  have hne : y ≠ [] := by
    rintro rfl
    have := asc_inj hs.asc hy hs.zero
    omega
  have hk := up_kd hs.root (at_mem hy) hne
  intro e
  have e2 : y.drop (up (stl ws) y).length = [] := e
  obtain ⟨r, hr⟩ := hk.2.2.1
  rw [List.drop_eq_nil_iff] at e2
  exact hk.2.2.2.1 (hk.2.2.1.eq_of_length_le e2)

/-- on the way up from branch i: at place z, s has been read -/
def UpB (p : List Br) (i : Nat) (z : Int) (s : ByteArray) : Prop := ∀ qs, TellsB p qs → ∀ x, qs[i]? = some x → ∃ (j : Nat) (y : Txt), z = (j : Int) ∧ qs[j]? = some y ∧ x = y ++ tx s

theorem UpB.start {p : List Br} {i : Nat} : UpB p i (i : Int) ⟨#[]⟩ := fun qs _ x hx => ⟨i, x, rfl, hx, by simp⟩

theorem UpB.up {p : List Br} {i j : Nat} {l s : ByteArray} {q : Int} {e : Bool} (h : UpB p i (j : Int) s) (hj : 1 ≤ j) (hd : p[j]? = some ⟨tx l, q, e⟩) : UpB p i q (l ++ s) := fun qs hT x hx => by
  obtain ⟨j', y, e1, e2, e3⟩ := h qs hT x hx
  obtain rfl : j' = j := by omega
  obtain ⟨_, k, z, f1, f2, f3, f4⟩ := hT.1.step j' _ hj (List.getElem?_eq_some_iff.1 hd).1 hd
  rw [e2] at f4
  refine ⟨k, z, f1, f3, ?_⟩
  rw [e3, Option.some.inj f4]
  show (z ++ tx l) ++ tx s = z ++ tx (l ++ s)
  rw [List.append_assoc]
  simp

/-- if it cannot go on, no texts are told -/
theorem UpB.stuck {p : List Br} {i j : Nat} {l s : ByteArray} {q : Int} {e : Bool} (h : UpB p i (j : Int) s) (hj : 1 ≤ j) (hd : p[j]? = some ⟨tx l, q, e⟩) (hbad : (j : Int) ≤ q ∨ l = ⟨#[]⟩ ∨ ¬ IsW (tx l)) : ∀ qs, TellsB p qs → ∀ x, qs[i]? = some x → False := fun qs hT x hx => by
  obtain ⟨hw, k, z, f1, f2, f3, f4⟩ := hT.1.step j _ hj (List.getElem?_eq_some_iff.1 hd).1 hd
  rcases hbad with hb | hb | hb
  · have f5 : q = (k : Int) := f1
    omega
  · exact hT.2.1 j _ hj hd (by rw [hb])
  · exact hb hw

def PreB (p : List Br) (i : Nat) (s : ByteArray) : Prop := ∀ qs, TellsB p qs → ∀ x, qs[i]? = some x → tx s = x

set_option maxRecDepth 1000000 in
set_option maxHeartbeats 1000000 in
theorem l4Prefix_any (B : Nat) (a : Option Addr) (n c i : Nat) (p : List Br) (w : World) (hB : B ≤ w.heap.size) (h : Brs B w a n c p) (hn : n ≤ 1048576) (hi : i < n) :
    Calls Try.prog 30 #[.agg #[.slice a n c], .int .i64 (i : Int)] w fun e w' => ∃ s, e = .returned (.string s) ∧ s.size ≤ 24 ∧ PreB p i s ∧ Below w.heap.size w w' := by
  have L := Lib.hid h.len
  have C := h.cap
  have T := h.top
  have H := Lib.hid h
  have HB := Lib.hid hB
  clear h hB
  have HB1 : Hid (Below w.heap.size w (w.alloc (.cells #[.slice a n c] 30))) := Lib.hid ((Below.refl _ _).alloc (Nat.le_refl _) _)
  go_enter Try.func30, Try.ntmps30
  go_wp2
  go_loopw [1, 5] (fun b s wr => ∃ (z : Int) (t : ByteArray), b = .int .i64 z ∧ s = .string t ∧ z ≤ i ∧ -9223372036854775808 ≤ z ∧ t.size ≤ 24 ∧ Hid (UpB p i z t) ∧ Hid (Below w.heap.size w wr) ∧ wr.cell? ⟨w.heap.size, 0, none⟩ = some (.slice a n c) ∧ w.heap.size < wr.heap.size) (fun b _ _ => (intOf b).toNat)
  case atStart => exact ⟨i, ⟨#[]⟩, rfl, rfl, Int.le_refl _, by omega, by show (0 : Nat) ≤ 24; omega, Lib.hid UpB.start, HB1, by simp, by simp⟩
  case round =>
    obtain ⟨z, t, rfl, rfl, hzi, hz63, ht, HU, HBw, hbox, hsz⟩ := hrel
    have HBs := HBw.out.size
    by_cases hz0 : 0 < z
    · obtain ⟨j, rfl⟩ : ∃ j : Nat, z = j := ⟨z.toNat, by omega⟩
      have hjn : j < n := by omega
      have hj1 : 1 ≤ j := by omega
      by_cases hlen : t.size ≤ 12
      · obtain ⟨b, o, l, q, e, rfl, hbB, hd, hl, hq, hc1, hc2, hc3⟩ := (H.out.keep (HBw.out.mono HB.out)).elem j hjn
        have hd12 : decide ((t.size : Int) ≤ 12) = true := decide_eq_true (by omega)
        have HUp := Lib.hid (HU.out.up hj1 hd)
        have HSt := Lib.hid (HU.out.stuck hj1 hd)
        have HBn := Lib.hid ((Below.refl wr.heap.size wr).alloc (Nat.le_refl _) (.cells #[.string l, .int .i64 q, .bool e] 52))
        clear hd
        have cW := Lib.hid (fun w => l2Word_any l w hl)
        by_cases hq1 : (j : Int) ≤ q
        · have HX : Hid (PreB p i ⟨#[63]⟩) := Lib.hid (fun qs hT x hx => (HSt.out (.inl hq1) qs hT x hx).elim)
          go_wp2
          go_ret
          exact ⟨_, rfl, by show (1 : Nat) ≤ 24; omega, HX.out, HBw.out.trans (HBn.out.mono HBs)⟩
        · by_cases hl0 : l = ⟨#[]⟩
          · have HX : Hid (PreB p i ⟨#[63]⟩) := Lib.hid (fun qs hT x hx => (HSt.out (.inr (.inl hl0)) qs hT x hx).elim)
            have he1 : l.toList = [] := by rw [hl0, Lib.toList_data]
            clear hl0
            go_wp2
            go_ret
            exact ⟨_, rfl, by show (1 : Nat) ≤ 24; omega, HX.out, HBw.out.trans (HBn.out.mono HBs)⟩
          · have he1 : l.toList.isEmpty = false := by
              rw [Lib.toList_data]
              cases hh : l.data.toList with
              | nil =>
                exact absurd (by cases l; simp at hh; rw [hh]) hl0
              | cons a b => rfl
            obtain ⟨r, hr⟩ : ∃ r, okW l = r := ⟨_, rfl⟩
            rw [hr] at cW
            cases r with
            | false =>
              have HX : Hid (PreB p i ⟨#[63]⟩) := Lib.hid (fun qs hT x hx => (HSt.out (.inr (.inr (fun hw => by have := okW_iff.2 hw; rw [hr] at this; cases this))) qs hT x hx).elim)
              clear hl0 hr
              go_wp2_with (go_at_call 28; refine (cW.out _).mono ?_; rintro e2 w2 ⟨rfl, rfl⟩)
              go_ret
              exact ⟨_, rfl, by show (1 : Nat) ≤ 24; omega, HX.out, HBw.out.trans (HBn.out.mono HBs)⟩
            | true =>
              have hl12 : l.size ≤ 12 := by have := (okW_iff.1 hr).1; rwa [tx_len] at this
              clear hl0 hr
              go_wp2_with (go_at_call 28; refine (cW.out _).mono ?_; rintro e2 w2 ⟨rfl, rfl⟩)
              go_roundw
              case rel => exact ⟨q, l ++ t, rfl, rfl, by omega, hq.1, by rw [ByteArray.size_append]; omega, HUp, Lib.hid (HBw.out.trans (HBn.out.mono HBs)), (HBn.out.cell (p := ⟨w.heap.size, 0, none⟩) hsz).trans hbox, by have := HBn.out.size; omega⟩
              case measure => simp [intOf]; omega
      · have HX : Hid (PreB p i ⟨#[63]⟩) := Lib.hid (fun qs hT x hx => by
          obtain ⟨j', y, e1, e2, e3⟩ := HU.out qs hT x hx
          have h1 := hT.2.2 x (at_mem hx)
          rw [e3, List.length_append, tx_len] at h1
          omega)
        have hd12 : decide ((t.size : Int) ≤ 12) = false := decide_eq_false (by omega)
        have hne : ((j : Int) != 0) = true := by simp; omega
        go_wp2
        go_ret
        exact ⟨_, rfl, by show (1 : Nat) ≤ 24; omega, HX.out, HBw.out⟩
    · by_cases hzz : z = 0
      · subst hzz
        have HX : Hid (PreB p i t) := Lib.hid (fun qs hT x hx => by
          obtain ⟨j', y, e1, e2, e3⟩ := HU.out qs hT x hx
          obtain rfl : j' = 0 := by omega
          rw [hT.1.nil (by have := hT.1.len; have := (List.getElem?_eq_some_iff.1 hx).1; omega)] at e2
          rw [e3, ← Option.some.inj e2]
          rfl)
        go_wp2
        go_ret
        exact ⟨_, rfl, ht, HX.out, HBw.out⟩
      · have HX : Hid (PreB p i ⟨#[63]⟩) := Lib.hid (fun qs hT x hx => by
          obtain ⟨j', y, e1, e2, e3⟩ := HU.out qs hT x hx
          omega)
        have hne : (z != 0) = true := by simp [hzz]
        go_wp2
        go_ret
        exact ⟨_, rfl, by show (1 : Nat) ≤ 24; omega, HX.out, HBw.out⟩

end Go.Proofs.Ytoofpgehkihbcaa
