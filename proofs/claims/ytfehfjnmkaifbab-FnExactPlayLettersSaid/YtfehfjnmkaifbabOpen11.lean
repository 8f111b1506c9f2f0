/-
  Open nodes: the reference's walk up and the program's.
-/
import Derived.Test.YtfehfjnmkaifbabFat11
namespace Go.Proofs.Ytfehfjnmkaifbab
open Go.RowKit
set_option linter.unusedVariables false

/-- what a walk up from a node has to say of its way on -/
def UpTo (t : List Nd) (ps : List Txt) (m i : Nat) (z : Int) : Prop := (z = -1 → opn t ps m i = true) ∧ ∀ j : Nat, z = (j : Int) → opn t ps m i = opn t ps m j

theorem upTo_start (t : List Nd) (ps : List Txt) (m i : Nat) : UpTo t ps m i (i : Int) := by
  refine ⟨fun h => by omega, fun j h => ?_⟩
  have e : i = j := by omega
  rw [e]
theorem upTo_fat {t : List Nd} {ps : List Txt} {m i j : Nat} (hv : Valid t ps) (hm : 1 ≤ m) (h : UpTo t ps m i (j : Int)) (hj : j < t.length) (hf : fatB t ps m j = true) : opn t ps m i = false := by
  rw [h.2 j rfl]
  by_cases e : j = 0
  · subst e
    rw [fatB_root hv.tells hm] at hf
    cases hf
  · rw [opn_step hv.tells (by omega) hj, hf]
    rfl
theorem upTo_root {t : List Nd} {ps : List Txt} {m i : Nat} (hv : Valid t ps) (hm : 1 ≤ m) (h : UpTo t ps m i ((0 : Nat) : Int)) : opn t ps m i = true := by
  rw [h.2 0 rfl, opn_root hv.tells hm]
theorem upTo_next {t : List Nd} {ps : List Txt} {m i j : Nat} {l p : Int} {e : Bool} (hv : Valid t ps) (hm : 1 ≤ m) (h : UpTo t ps m i (j : Int)) (hd : t[j]? = some ⟨l, p, e⟩) (hf : fatB t ps m j = false) : UpTo t ps m i p ∧ -1 ≤ p ∧ p < (j : Int) := by
  have hj := (List.getElem?_eq_some_iff.1 hd).1
  by_cases e0 : j = 0
  · subst e0
    obtain ⟨e', hr⟩ := hv.tells.root
    rw [hd] at hr
    cases hr
    exact ⟨⟨fun _ => upTo_root hv hm h, fun j hj => by omega⟩, by omega, by omega⟩
  · obtain ⟨q, y, c, hp, hq, _⟩ := hv.tells.step j _ (by omega) hj hd
    simp only at hp
    subst hp
    refine ⟨⟨fun h => by omega, fun k hk => ?_⟩, by omega, by omega⟩
    have : q = k := by omega
    subst this
    rw [h.2 j rfl, opn_step hv.tells (by omega) hj, hf, parN_at hd]
    rfl

set_option maxRecDepth 1000000 in
set_option maxHeartbeats 1000000 in
theorem l11Open_any (B : Nat) (a : Option Addr) (n c i m : Nat) (t : List Nd) (ps : List Txt) (w : World) (hB : B ≤ w.heap.size) (h : Nds B w a n c t) (hv : Valid t ps) (hi : i < n) (hm1 : 1 ≤ m) (hm : m ≤ 6) :
    Calls Try.prog 31 #[.agg #[.slice a n c], .int .i64 (i : Int), .int .i64 (m : Int)] w fun e w' => e = .returned (.bool (opn t ps m i)) ∧ Below w.heap.size w w' := by
  have L := Lib.hid h.len
  have C := h.cap
  have T := h.top
  have H := Lib.hid h
  have HB := Lib.hid hB
  have HV := Lib.hid hv
  clear h hB hv
  go_enter Try.func31, Try.ntmps31
  go_wp2
  go_loopw [1] (fun p wr => ∃ z : Int, p = .int .i64 z ∧ -1 ≤ z ∧ z < n ∧ Hid (UpTo t ps m i z) ∧ Hid (Below w.heap.size w wr) ∧ wr.cell? ⟨w.heap.size, 0, none⟩ = some (.slice a n c) ∧ w.heap.size < wr.heap.size) (fun p _ => (intOf p + 1).toNat)
  case atStart => exact ⟨i, rfl, by omega, by omega, Lib.hid (upTo_start t ps m i), Lib.hid ((Below.refl _ _).alloc (Nat.le_refl _) _), by simp, by simp⟩
  case round =>
    obtain ⟨z, rfl, hz0, hz1, HU, HBw, hbox, hsz⟩ := hrel
    by_cases hpos : 0 ≤ z
    · obtain ⟨j, rfl⟩ : ∃ j : Nat, z = j := ⟨z.toNat, by omega⟩
      have hjn : j < n := by omega
      have cF := Lib.hid (l11Fatal_any B a n c j m t ps wr (Nat.le_trans HB.out HBw.out.size) (H.out.keep (HBw.out.mono HB.out)) HV.out hjn hm)
      obtain ⟨f, hf⟩ : ∃ f, fatB t ps m j = f := ⟨_, rfl⟩
      rw [hf] at cF
      have HF := Lib.hid hf
      clear hf
      cases f with
      | true =>
        go_wp2_with (first
          | (go_at_call 38; refine cF.out.mono ?_; rintro e2 w2 ⟨rfl, hb2⟩))
        go_ret
        exact ⟨ret_bool (upTo_fat HV.out hm1 HU.out (by have := L.out; omega) HF.out).symm, HBw.out.trans (hb2.mono HBw.out.size)⟩
      | false =>
        obtain ⟨b, o, l, p, e, rfl, hbB, hd, hl, hp, hc1, hc2, hc3⟩ := (H.out.keep (HBw.out.mono HB.out)).elem j hjn
        have HD := Lib.hid hd
        clear hd hc1 hc3
        have HC := Lib.hid hc2
        have HX := Lib.hid hbox
        clear hc2
        go_wp2_with (first
          | (go_at_call 38; refine cF.out.mono ?_; rintro e2 w2 ⟨rfl, hb2⟩; have hc2 := (hb2.cell (p := ⟨b, o + j * 3 + 1, none⟩) (by have := HB.out; have := HBw.out.size; simp; omega)).trans HC.out; have hbox2 := (hb2.cell (p := ⟨w.heap.size, 0, none⟩) hsz).trans HX.out))
        have HN := Lib.hid (upTo_next HV.out hm1 HU.out HD.out HF.out)
        go_roundw
        case rel => exact ⟨p, rfl, HN.out.2.1, by have := HN.out.2.2; omega, Lib.hid HN.out.1, Lib.hid (HBw.out.trans (hb2.mono HBw.out.size)), hbox2, by have := hb2.size; omega⟩
        case measure => have := HN.out.2; simp only [intOf]; omega
    · have e : z = -1 := by omega
      subst e
      go_wp2
      go_ret
      exact ⟨ret_bool (HU.out.1 rfl).symm, HBw.out⟩

set_option maxRecDepth 1000000 in
set_option maxHeartbeats 1000000 in
theorem isOpen_any (B : Nat) (a : Option Addr) (n c i m : Nat) (t : List Nd) (ps : List Txt) (w : World) (hB : B ≤ w.heap.size) (h : Nds B w a n c t) (hv : Valid t ps) (hi : i < n) (hm1 : 1 ≤ m) (hm : m ≤ 6) :
    Calls Try.prog 42 #[.agg #[.slice a n c, .int .i64 (m : Int)], .int .i64 (i : Int)] w fun e w' => e = .returned (.bool (opn t ps m i)) ∧ Below w.heap.size w w' := by
  have L := Lib.hid h.len
  have C := h.cap
  have T := h.top
  have H := Lib.hid h
  have HB := Lib.hid hB
  have HV := Lib.hid hv
  clear h hB hv
  go_enter Try.func42, Try.ntmps42
  go_wp2
  go_loopw [1] (fun p wr => ∃ j : Nat, p = .int .i64 (j : Int) ∧ j < n ∧ Hid (UpTo t ps m i (j : Int)) ∧ Hid (Below w.heap.size w wr) ∧ wr.cell? ⟨w.heap.size, 0, none⟩ = some (.slice a n c) ∧ wr.cell? ⟨w.heap.size, 1, none⟩ = some (.int .i64 (m : Int)) ∧ w.heap.size < wr.heap.size) (fun p _ => (intOf p).toNat)
  case atStart => exact ⟨i, rfl, by omega, Lib.hid (upTo_start t ps m i), Lib.hid ((Below.refl _ _).alloc (Nat.le_refl _) _), by simp, by simp, by simp⟩
  case round =>
    obtain ⟨j, rfl, hjn, HU, HBw, hbox, hboy, hsz⟩ := hrel
    by_cases hpos : j = 0
    · subst hpos
      go_wp2
      go_ret
      exact ⟨ret_bool (upTo_root HV.out hm1 HU.out).symm, HBw.out⟩
    · have hne : ((j : Int) != 0) = true := by simp [hpos]
      have heq : ((j : Int) == 0) = false := by simp [hpos]
      have cF := Lib.hid (isFatal_any B a n c j m t ps wr (Nat.le_trans HB.out HBw.out.size) (H.out.keep (HBw.out.mono HB.out)) HV.out hjn hm)
      obtain ⟨f, hf⟩ : ∃ f, fatB t ps m j = f := ⟨_, rfl⟩
      rw [hf] at cF
      have HF := Lib.hid hf
      clear hf
      cases f with
      | true =>
        go_wp2_with (first
          | (go_at_call 41; refine cF.out.mono ?_; rintro e2 w2 ⟨rfl, hb2⟩))
        go_ret
        exact ⟨ret_bool (upTo_fat HV.out hm1 HU.out (by have := L.out; omega) HF.out).symm, HBw.out.trans (hb2.mono HBw.out.size)⟩
      | false =>
        obtain ⟨b, o, l, p, e, rfl, hbB, hd, hl, hp, hc1, hc2, hc3⟩ := (H.out.keep (HBw.out.mono HB.out)).elem j hjn
        have HN := Lib.hid (upTo_next HV.out hm1 HU.out hd HF.out)
        obtain ⟨q, hq⟩ : ∃ q : Nat, p = q := by
          obtain ⟨q, y, c', hp', hq, _⟩ := HV.out.tells.step j _ (by omega) (by have := L.out; omega) hd
          exact ⟨q, hp'⟩
        subst hq
        clear hd hc1 hc3
        have HC := Lib.hid hc2
        have HX := Lib.hid hbox
        have HY := Lib.hid hboy
        clear hc2
        go_wp2_with (first
          | (go_at_call 41; refine cF.out.mono ?_; rintro e2 w2 ⟨rfl, hb2⟩; have hc2 := (hb2.cell (p := ⟨b, o + j * 3 + 1, none⟩) (by have := HB.out; have := HBw.out.size; simp; omega)).trans HC.out; have hbox2 := (hb2.cell (p := ⟨w.heap.size, 0, none⟩) hsz).trans HX.out; have hboy2 := (hb2.cell (p := ⟨w.heap.size, 1, none⟩) hsz).trans HY.out))
        go_roundw
        case rel => exact ⟨q, rfl, by have := HN.out.2.2; omega, Lib.hid HN.out.1, Lib.hid (HBw.out.trans (hb2.mono HBw.out.size)), hbox2, hboy2, by have := hb2.size; omega⟩
        case measure => have := HN.out.2; simp only [intOf]; omega

end Go.Proofs.Ytfehfjnmkaifbab
